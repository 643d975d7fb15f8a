/- Arguments opened to cells: numbers, lists of strings, lists of rows of numbers. -/
import Derived.Test.YtkgbaaaklijopaaGBase
import Derived.Deep.Slices
import Derived.Deep.Strs
import Derived.ChangeSame
import Derived.OpenShut
import Derived.SizedLaws
import Derived.WideShapes
set_option linter.unusedVariables false
set_option linter.unusedSimpArgs false
set_option maxRecDepth 100000
namespace Go.Proofs.Ytkgbaaaklijopaa
open Go.RowKit Go.ChangeShapes Go.WideShapes Go.Deep

theorem addr_add (b off k : Nat) : (⟨b, off, none⟩ : Addr).add k = ⟨b, off + k, none⟩ := by unfold Addr.add; split <;> simp_all

theorem spot_none {w : World} {x : Addr} {v : Value} (h : w.cell? (x.add 0) = some v) : ∃ b off, x = ⟨b, off, none⟩ := by
  obtain ⟨b, off, spot⟩ := x
  have hs : spot = none := by simpa [Addr.add] using World.cell?_spot h
  subst hs
  exact ⟨b, off, rfl⟩

theorem cellsInt : Try.prog.cellsOf 3 = 1 := by kernel_rfl
theorem cellsStr : Try.prog.cellsOf 9 = 1 := by kernel_rfl
theorem cellsSs : Try.prog.cellsOf 23 = 1 := by kernel_rfl

structure RowI where
  a : Option Addr
  z : List Int
  c : Nat
def RowI.val (r : RowI) : Value := .slice r.a r.z.length r.c
structure RowI.in_ (r : RowI) (w : World) : Prop where
  at_ : ∀ j x, r.z[j]? = some x → ∃ b off, r.a = some ⟨b, off, none⟩ ∧ w.cell? ⟨b, off + j, none⟩ = some (.int .i64 x)
  le : r.z.length ≤ r.c
  max : r.c ≤ maxLen
theorem RowI.in_.below {r : RowI} {w w' : World} (h : r.in_ w) (hb : Below w.heap.size w w') : r.in_ w' := ⟨fun j x hx => by
  obtain ⟨b, off, e, hc⟩ := h.at_ j x hx
  exact ⟨b, off, e, (hb.cell (p := ⟨b, off + j, none⟩) (cell_lt hc)).trans hc⟩, h.le, h.max⟩
def SlG (w : World) (a : Option Addr) (l : List RowI) : Prop :=
  ∀ k r, l[k]? = some r → r.in_ w ∧ ∃ b off, a = some ⟨b, off, none⟩ ∧ w.cell? ⟨b, off + k, none⟩ = some (.slice r.a r.z.length r.c)
theorem SlG.below {w w' : World} {a : Option Addr} {l : List RowI} (h : SlG w a l) (hb : Below w.heap.size w w') : SlG w' a l := fun k r hk => by
  obtain ⟨h1, b, off, e, hc⟩ := h k r hk
  exact ⟨h1.below hb, b, off, e, (hb.cell (p := ⟨b, off + k, none⟩) (cell_lt hc)).trans hc⟩

theorem cellsInts : Try.prog.cellsOf 31 = 1 := by kernel_rfl
section
variable {H : Type} {enc : TypeId × Value → H} {w : World} {base : Nat} {spare : Nat → Bool} {held : Bool}
theorem int_read {fuel : Nat} {c : Value} {x : DataW H × List MemPlace} (h : DataW.trod enc Try.prog w base spare held fuel 3 [c] = some x) : ∃ n : Int, c = .int .i64 n := by
  obtain ⟨n, e, _⟩ := DataW.trod_int Try.underlying3 h
  cases e
  exact ⟨n, rfl⟩
theorem str_read {fuel : Nat} {c : Value} {x : DataW H × List MemPlace} (h : DataW.trod enc Try.prog w base spare held fuel 9 [c] = some x) : ∃ s : ByteArray, c = .string s ∧ s.size ≤ maxLen := by
  obtain ⟨n, e, _, hm⟩ := DataW.trod_string Try.underlying9 h
  cases e
  exact ⟨n, rfl, hm⟩


theorem slice_read {P : Program} {t e : TypeId} {fuel size : Nat} {a : Option Addr} {len cap : Nat} {x : DataW H × List MemPlace} (ht : P.underlying t = some (.slice e)) (hs : P.cellsOf e = size) (hs0 : 0 < size)
    (h : DataW.trod enc P w 0 (fun _ => true) true fuel t [.slice a len cap] = some x) {T : Type} [Inhabited T] (toCells : T → List Value) (hone : ∀ n cs y, DataW.trod enc P w 0 (fun _ => true) true n e cs = some y → ∃ u : T, cs = toCells u) :
    ∃ q : Nat → T, (∀ k, k < len → ∃ b off, a = some ⟨b, off, none⟩ ∧ (toCells (q k)).length = size ∧ ∀ j u, (toCells (q k))[j]? = some u → w.cell? ⟨b, off + k * size + j, none⟩ = some u) ∧ len ≤ cap ∧ cap ≤ maxLen := by
  rcases open_slice ht h with ⟨hcs, _⟩ | ⟨y, l, c, m, n, D, Pl, hcs, _, hl, hm, hmm, _, hi⟩
  · simp only [List.cons.injEq, Value.slice.injEq, and_true] at hcs
    obtain ⟨rfl, rfl, rfl⟩ := hcs
    exact ⟨fun _ => default, fun k hk => absurd hk (Nat.not_lt_zero k), Nat.le_refl _, Nat.zero_le _⟩
  · simp only [List.cons.injEq, Value.slice.injEq, and_true] at hcs
    obtain ⟨rfl, rfl, rfl⟩ := hcs
    rw [hs] at hi
    have hmc : m = cap := by simpa using hmm
    have one : ∀ k, ∃ u : T, k < len → ∃ b off, y = ⟨b, off, none⟩ ∧ (toCells u).length = size ∧ ∀ j v, (toCells u)[j]? = some v → w.cell? ⟨b, off + k * size + j, none⟩ = some v := by
      intro k
      by_cases hk : k < len
      · obtain ⟨c0, g0, _⟩ := hi 0 (by omega)
        obtain ⟨_, _, at0⟩ := World.cells?_some g0
        have first := at0 0 hs0
        simp only [Nat.zero_mul] at first
        obtain ⟨b, off, rfl⟩ : ∃ b off, y = ⟨b, off, none⟩ := by
          have e : y.add 0 = y := by simp [Addr.add]
          rw [e] at first
          cases hc : c0[0]? with
          | none =>
            have := List.getElem?_eq_none_iff.1 hc
            have := (World.cells?_some g0).2.1
            omega
          | some v => exact spot_none (first.trans hc)
        obtain ⟨ck, gk, tk⟩ := hi k (by omega)
        obtain ⟨u, rfl⟩ := hone _ _ _ tk
        obtain ⟨_, hlen, hat⟩ := World.cells?_some gk
        refine ⟨u, fun _ => ⟨b, off, rfl, hlen, fun j v hv => ?_⟩⟩
        have hj : j < size := by
          have := (List.getElem?_eq_some_iff.1 hv).1
          omega
        have := hat j hj
        rw [addr_add, addr_add, hv] at this
        exact this
      · exact ⟨default, fun h => absurd h hk⟩
    obtain ⟨q, hq⟩ := Classical.axiomOfChoice one
    refine ⟨q, fun k hk => ?_, hl, hm⟩
    obtain ⟨b, off, h1, h2⟩ := hq k hk
    exact ⟨b, off, by rw [h1], h2⟩


instance : Inhabited { s : ByteArray // s.size ≤ maxLen } := ⟨⟨⟨#[]⟩, Nat.zero_le _⟩⟩
theorem strs_read {fuel : Nat} {c : Value} {x : DataW H × List MemPlace} (h : DataW.trod enc Try.prog w 0 (fun _ => true) true fuel 23 [c] = some x) :
    ∃ a cap rs, c = .slice a (List.length rs) cap ∧ SlS w a rs ∧ rs.length ≤ cap ∧ cap ≤ maxLen ∧ ∀ s ∈ rs, s.size ≤ maxLen := by
  obtain ⟨a, len, cap, rfl⟩ : ∃ a len cap, c = .slice a len cap := by
    rcases open_slice Try.underlying23 h with ⟨hcs, _⟩ | ⟨y, l, k, m, n, D, Pl, hcs, _⟩
    · exact ⟨_, _, _, (List.cons.inj hcs).1⟩
    · exact ⟨_, _, _, (List.cons.inj hcs).1⟩
  obtain ⟨q, hq, hl, hm⟩ := slice_read Try.underlying23 cellsStr (by omega) h (fun s : { s : ByteArray // s.size ≤ maxLen } => [Value.string s.1]) (fun n cs y ht => by
    obtain ⟨k, e, _, hs⟩ := DataW.trod_string Try.underlying9 ht
    exact ⟨⟨k, hs⟩, e⟩)
  refine ⟨a, cap, (List.range len).map (fun k => (q k).1), by simp, fun k s hf => ?_, by simpa using hl, hm, fun f hf => ?_⟩
  · have hk : k < len := by simpa using (List.getElem?_eq_some_iff.1 hf).1
    have e : s = (q k).1 := by
      rw [List.getElem?_map, List.getElem?_range hk] at hf
      exact (Option.some.inj hf).symm
    subst e
    obtain ⟨b, off, h1, _, h2⟩ := hq k hk
    have := h2 0 _ rfl
    rw [Nat.mul_one, Nat.add_zero] at this
    exact ⟨b, off, h1, this⟩
  · obtain ⟨k, _, rfl⟩ := List.mem_map.1 hf
    exact (q k).2

theorem row_read {fuel : Nat} {c : Value} {x : DataW H × List MemPlace} (h : DataW.trod enc Try.prog w 0 (fun _ => true) true fuel 31 [c] = some x) :
    ∃ r : RowI, c = r.val ∧ r.in_ w := by
  obtain ⟨a, len, cap, rfl⟩ : ∃ a len cap, c = .slice a len cap := by
    rcases open_slice Try.underlying31 h with ⟨hcs, _⟩ | ⟨y, l, k, m, n, D, Pl, hcs, _⟩
    · exact ⟨_, _, _, (List.cons.inj hcs).1⟩
    · exact ⟨_, _, _, (List.cons.inj hcs).1⟩
  obtain ⟨q, hq, hl, hm⟩ := slice_read Try.underlying31 cellsInt (by omega) h (fun n : Int => [Value.int .i64 n]) (fun n cs y ht => by
    obtain ⟨k, e, _⟩ := DataW.trod_int Try.underlying3 ht
    exact ⟨k, e⟩)
  refine ⟨⟨a, (List.range len).map q, cap⟩, by simp [RowI.val], ⟨fun k s hf => ?_, by simpa using hl, hm⟩⟩
  have hk : k < len := by simpa using (List.getElem?_eq_some_iff.1 hf).1
  have e : s = q k := by
    simp only at hf
    rw [List.getElem?_map, List.getElem?_range hk] at hf
    exact (Option.some.inj hf).symm
  subst e
  obtain ⟨b, off, h1, _, h2⟩ := hq k hk
  have := h2 0 _ rfl
  rw [Nat.mul_one, Nat.add_zero] at this
  exact ⟨b, off, h1, this⟩

instance instRow (w : World) : Inhabited { r : RowI // r.in_ w } := ⟨⟨⟨none, [], 0⟩, ⟨fun j x h => by simp at h, Nat.le_refl _, Nat.zero_le _⟩⟩⟩
theorem grid_read {fuel : Nat} {c : Value} {x : DataW H × List MemPlace} (h : DataW.trod enc Try.prog w 0 (fun _ => true) true fuel 22 [c] = some x) :
    ∃ a cap g, c = .slice a (List.length g) cap ∧ SlG w a g ∧ g.length ≤ cap ∧ cap ≤ maxLen := by
  obtain ⟨a, len, cap, rfl⟩ : ∃ a len cap, c = .slice a len cap := by
    rcases open_slice Try.underlying22 h with ⟨hcs, _⟩ | ⟨y, l, k, m, n, D, Pl, hcs, _⟩
    · exact ⟨_, _, _, (List.cons.inj hcs).1⟩
    · exact ⟨_, _, _, (List.cons.inj hcs).1⟩
  have hone : ∀ n cs y, DataW.trod enc Try.prog w 0 (fun _ => true) true n 31 cs = some y → ∃ u : { r : RowI // r.in_ w }, cs = [u.1.val] := fun n cs y ht => by
    have hl : cs.length = 1 := by
      rcases open_slice Try.underlying31 ht with ⟨hcs, _⟩ | ⟨y, l, k, m, n, D, Pl, hcs, _⟩
      · rw [hcs]; rfl
      · rw [hcs]; rfl
    match cs, hl with
    | [c0], _ =>
      obtain ⟨r, e, hr⟩ := row_read ht
      exact ⟨⟨r, hr⟩, by rw [e]⟩
  obtain ⟨q, hq, hl, hm⟩ := slice_read Try.underlying22 cellsInts (by omega) h (fun r : { r : RowI // r.in_ w } => [r.1.val]) hone
  refine ⟨a, cap, (List.range len).map (fun k => (q k).1), by simp, fun k r hf => ?_, by simpa using hl, hm⟩
  have hk : k < len := by simpa using (List.getElem?_eq_some_iff.1 hf).1
  have e : r = (q k).1 := by
    rw [List.getElem?_map, List.getElem?_range hk] at hf
    exact (Option.some.inj hf).symm
  subst e
  obtain ⟨b, off, h1, _, h2⟩ := hq k hk
  have := h2 0 _ rfl
  rw [Nat.mul_one, Nat.add_zero] at this
  exact ⟨(q k).2, b, off, h1, this⟩

end
section
variable {H : Type} {enc : TypeId × Value → H} {w : World} {r : Go.Reach} {b0 : Nat} {v : Value} {d : DataW H} {p : List MemPlace}
theorem open_num (hv : Value.okWide Try.prog w r b0 3 v) (h : DataW.Trod enc Try.prog w 0 (fun _ => true) true 3 v d p) : ∃ n : Int, v = .int .i64 n := by
  obtain ⟨n, rfl, _⟩ := open_int Try.underlying3 hv h
  exact ⟨n, rfl⟩

theorem open_str (hv : Value.okWide Try.prog w r b0 9 v) (h : DataW.Trod enc Try.prog w 0 (fun _ => true) true 9 v d p) : ∃ s : ByteArray, v = .string s ∧ s.size ≤ maxLen := by
  obtain ⟨s, rfl, _, _, hs⟩ := Go.ChangeMaps.open_string Try.underlying9 hv h
  exact ⟨s, rfl, hs⟩

theorem open_strs (hv : Value.okWide Try.prog w r b0 23 v) (h : DataW.Trod enc Try.prog w 0 (fun _ => true) true 23 v d p) :
    ∃ (a : Option Addr) (cap : Nat) (rs : List ByteArray), v = .slice a (List.length rs) cap ∧ SlS w a rs ∧ rs.length ≤ cap ∧ cap ≤ maxLen ∧ (∀ s ∈ rs, s.size ≤ maxLen) ∧ (rs.length = 0 ∨ ∃ (es sp : List (DataW H)), d = DataW.slice es sp ∧ es.length = rs.length) := by
  obtain ⟨a, len, cap, rfl⟩ := okWide_slice Try.underlying23 hv
  obtain ⟨fuel, hf⟩ := h
  obtain ⟨a', cap', rs, e, h1, h2, h3, h4⟩ := strs_read hf
  cases e
  refine ⟨a, cap, rs, rfl, h1, h2, h3, h4, ?_⟩
  have hf' : DataW.trod enc Try.prog w 0 (fun _ => true) true fuel 23 [.slice a rs.length cap] = some (d, p) := hf
  rcases open_slice Try.underlying23 hf' with ⟨hcs, _⟩ | ⟨y, l, k, m, n, D, Pl, hcs, _, _, _, _, hx, _⟩
  · simp only [List.cons.injEq, Value.slice.injEq, and_true] at hcs
    exact .inl hcs.2.1
  · simp only [List.cons.injEq, Value.slice.injEq, and_true] at hcs
    have hd : d = .slice ((List.range l).map D) ((List.range (m - l)).map fun j => D (l + j)) := (Prod.mk.inj hx).1
    exact .inr ⟨_, _, hd, by rw [List.length_map, List.length_range, hcs.2.1]⟩
theorem open_grid (hv : Value.okWide Try.prog w r b0 22 v) (h : DataW.Trod enc Try.prog w 0 (fun _ => true) true 22 v d p) :
    ∃ a cap g, v = .slice a (List.length g) cap ∧ SlG w a g ∧ g.length ≤ cap ∧ cap ≤ maxLen := by
  obtain ⟨a, len, cap, rfl⟩ := okWide_slice Try.underlying22 hv
  obtain ⟨fuel, hf⟩ := h
  exact grid_read hf
theorem weights_all {P : Program} {e : TypeId} {n : Nat} : ∀ {es : List (DataW H)} {x : DataW H}, x ∈ es → n ∈ x.weights P e → n ∈ DataW.weightsAll P e es
  | y :: es, x, hx, hn => by
    unfold DataW.weightsAll
    rw [List.mem_append]
    rcases List.mem_cons.1 hx with rfl | hx
    · exact .inl hn
    · exact .inr (weights_all hx hn)
/-- each string of a list that came in takes less than 2^47 bytes -/
theorem strs_small {ts : List TypeId} {ds : List (DataW H)} {rs : List ByteArray} {a : Option Addr} {cap : Nat} (hz : (DataW.weightsEach Try.prog ts ds).all (· ≤ reachBytes) = true) {j : Nat} (ht : ts[j]? = some 23) (hj : ds[j]? = some d)
    (h : DataW.Trod enc Try.prog w 0 (fun _ => true) true 23 (.slice a rs.length cap) d p) (hs : SlS w a rs) : ∀ s ∈ rs, s.size ≤ 140737488355328 := fun s hm => by
  obtain ⟨k, hk, rfl⟩ := List.getElem_of_mem hm
  obtain ⟨fuel, hf⟩ := h
  have hf' : DataW.trod enc Try.prog w 0 (fun _ => true) true fuel 23 [.slice a rs.length cap] = some (d, p) := hf
  rcases open_slice Try.underlying23 hf' with ⟨hcs, _⟩ | ⟨y, l, c, m, n, D, Pl, hcs, _, hl, hmx, hmm, hx, hi⟩
  · simp only [List.cons.injEq, Value.slice.injEq, and_true] at hcs
    omega
  · simp only [List.cons.injEq, Value.slice.injEq, and_true] at hcs
    obtain ⟨rfl, hl2, rfl⟩ := hcs
    have hmc : m = cap := by simpa using hmm
    obtain ⟨cs, g1, g2⟩ := hi k (by omega)
    obtain ⟨z, e1, e2, _⟩ := DataW.trod_string Try.underlying9 g2
    obtain ⟨_, _, hat⟩ := World.cells?_some g1
    rw [cellsStr, Nat.mul_one] at hat
    have h0 := hat 0 (by omega)
    obtain ⟨b, off, e3, hc⟩ := hs k _ (List.getElem?_eq_getElem hk)
    cases e3
    rw [addr_add, addr_add, Nat.add_zero, hc, e1] at h0
    simp only [List.getElem?_cons_zero, Option.some.injEq, Value.string.injEq] at h0
    have hD : D k = .lit (.string z.data.toList) := (Prod.mk.inj e2).1
    have hd : d = .slice ((List.range l).map D) ((List.range (m - l)).map fun j => D (l + j)) := (Prod.mk.inj hx).1
    have hw : z.data.toList.length ∈ d.weights Try.prog 23 := by
      rw [hd]
      unfold DataW.weights
      rw [Try.underlying23]
      refine List.mem_cons_of_mem _ (List.mem_append.2 (.inl (weights_all (x := D k) (List.mem_map.2 ⟨k, List.mem_range.2 (by omega), rfl⟩) ?_)))
      rw [hD]
      unfold DataW.weights
      exact List.mem_singleton.2 rfl
    have h1 := DataW.weights_mem_each ht hj _ hw
    have h2 := List.all_eq_true.1 hz _ h1
    have h3 := reachBytes_lt
    rw [decide_eq_true_eq] at h2
    have h4 : z.size = z.data.toList.length := Array.length_toList.symm
    rw [h0, h4]
    omega
end
end Go.Proofs.Ytkgbaaaklijopaa
