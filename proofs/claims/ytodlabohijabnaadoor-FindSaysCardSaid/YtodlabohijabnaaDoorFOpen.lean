/- Lists of names that came in: opened. -/
import Derived.Test.YtodlabohijabnaaDoorROpen
import Derived.SizedLaws
import Derived.WideShapes
import Derived.Deep.Slices
import Derived.Deep.Strs
set_option linter.unusedVariables false
set_option linter.unusedSimpArgs false
set_option maxRecDepth 100000
namespace Go.Proofs.YtodlabohijabnaaDoor
open Go.WideShapes Go.ChangeShapes Go.RowKit Go.Deep
section
variable {H : Type} {enc : TypeId × Value → H} {w : World} {r : Go.Reach} {b0 : Nat} {v : Value} {d : DataW H} {p : List MemPlace}
theorem open_strs (hv : Value.okWide Tryd.prog w r b0 25 v) (h : DataW.Trod enc Tryd.prog w 0 (fun _ => true) true 25 v d p) :
    ∃ (a : Option Addr) (cap : Nat) (rs : List ByteArray), v = .slice a (List.length rs) cap ∧ SlS w a rs ∧ rs.length ≤ cap ∧ cap ≤ maxLen ∧ (∀ s ∈ rs, s.size ≤ maxLen) ∧ (rs.length = 0 ∨ ∃ (es sp : List (DataW H)), d = DataW.slice es sp ∧ es.length = rs.length) := by
  obtain ⟨a, len, cap, rfl⟩ := okWide_slice Tryd.underlying25 hv
  obtain ⟨fuel, hf⟩ := h
  obtain ⟨a', cap', rs, e, h1, h2, h3, h4⟩ := strs_read hf
  cases e
  refine ⟨a, cap, rs, rfl, h1, h2, h3, h4, ?_⟩
  have hf' : DataW.trod enc Tryd.prog w 0 (fun _ => true) true fuel 25 [.slice a rs.length cap] = some (d, p) := hf
  rcases open_slice Tryd.underlying25 hf' with ⟨hcs, _⟩ | ⟨y, l, k, m, n, D, Pl, hcs, _, _, _, _, hx, _⟩
  · simp only [List.cons.injEq, Value.slice.injEq, and_true] at hcs
    exact .inl hcs.2.1
  · simp only [List.cons.injEq, Value.slice.injEq, and_true] at hcs
    have hd : d = .slice ((List.range l).map D) ((List.range (m - l)).map fun j => D (l + j)) := (Prod.mk.inj hx).1
    exact .inr ⟨_, _, hd, by rw [List.length_map, List.length_range, hcs.2.1]⟩
theorem strs_sized {ts : List TypeId} {ds : List (DataW H)} {rs : List ByteArray} (hz : (DataW.weightsEach Tryd.prog ts ds).all (· ≤ reachBytes) = true) {j : Nat} (ht : ts[j]? = some 25) (hj : ds[j]? = some d)
    (h : rs.length = 0 ∨ ∃ (es sp : List (DataW H)), d = DataW.slice es sp ∧ es.length = rs.length) : rs.length * 16 ≤ 140737488355328 := by
  rcases h with h | ⟨es, sp, rfl, h⟩
  · omega
  · have h1 := sized_slice hz ht hj Tryd.underlying25
    have h2 : Tryd.prog.bytesOf 9 = 16 := by kernel_rfl
    rw [h2] at h1
    have h3 := reachBytes_lt
    omega
end
end Go.Proofs.YtodlabohijabnaaDoor
