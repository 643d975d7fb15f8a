/- Arguments opened to cells: rows of numbers, versions. -/
import Derived.Test.YtodlabohijabnaaGreatDoorROpen
import Derived.Test.YtodlabohijabnaaGreatDoorSGrid
set_option linter.unusedVariables false
set_option linter.unusedSimpArgs false
set_option maxRecDepth 100000
namespace Go.Proofs.YtodlabohijabnaaGreatDoor
open Go.RowKit Go.ChangeShapes Go.WideShapes Go.Deep

theorem cellsInts : Tryz.prog.cellsOf 66 = 1 := by kernel_rfl
theorem cellsBool : Tryz.prog.cellsOf 4 = 1 := by kernel_rfl

section
variable {H : Type} {enc : TypeId × Value → H} {w : World} {base : Nat} {spare : Nat → Bool} {held : Bool}
theorem row_read {fuel : Nat} {c : Value} {x : DataW H × List MemPlace} (h : DataW.trod enc Tryz.prog w 0 (fun _ => true) true fuel 66 [c] = some x) :
    ∃ r : RowI, c = r.val ∧ r.in_ w := by
  obtain ⟨a, len, cap, rfl⟩ : ∃ a len cap, c = .slice a len cap := by
    rcases open_slice Tryz.underlying66 h with ⟨hcs, _⟩ | ⟨y, l, k, m, n, D, Pl, hcs, _⟩
    · exact ⟨_, _, _, (List.cons.inj hcs).1⟩
    · exact ⟨_, _, _, (List.cons.inj hcs).1⟩
  obtain ⟨q, hq, hl, hm⟩ := slice_read Tryz.underlying66 cellsInt (by omega) h (fun n : Int => [Value.int .i64 n]) (fun n cs y ht => by
    obtain ⟨k, e, _⟩ := DataW.trod_int Tryz.underlying3 ht
    exact ⟨k, e⟩)
  refine ⟨⟨a, (List.range len).map q, cap⟩, by simp [RowI.val], ⟨fun k s hf => ?_, by simpa using hl, hm⟩⟩
  have hk : k < len := by simpa using (List.getElem?_eq_some_iff.1 hf).1
  have e : s = q k := by
    simp only at hf
    rw [List.getElem?_map, List.getElem?_range hk] at hf
    exact (Option.some.inj hf).symm
  subst e
  obtain ⟨b, off, h1, _, h2⟩ := hq k hk
  have := h2 0 _ rfl
  rw [Nat.mul_one, Nat.add_zero] at this
  exact ⟨b, off, h1, this⟩

instance instRow (w : World) : Inhabited { r : RowI // r.in_ w } := ⟨⟨⟨none, [], 0⟩, ⟨fun j x h => by simp at h, Nat.le_refl _, Nat.zero_le _⟩⟩⟩
theorem grid_read {fuel : Nat} {c : Value} {x : DataW H × List MemPlace} (h : DataW.trod enc Tryz.prog w 0 (fun _ => true) true fuel 22 [c] = some x) :
    ∃ a cap g, c = .slice a (List.length g) cap ∧ SlG w a g ∧ g.length ≤ cap ∧ cap ≤ maxLen := by
  obtain ⟨a, len, cap, rfl⟩ : ∃ a len cap, c = .slice a len cap := by
    rcases open_slice Tryz.underlying22 h with ⟨hcs, _⟩ | ⟨y, l, k, m, n, D, Pl, hcs, _⟩
    · exact ⟨_, _, _, (List.cons.inj hcs).1⟩
    · exact ⟨_, _, _, (List.cons.inj hcs).1⟩
  have hone : ∀ n cs y, DataW.trod enc Tryz.prog w 0 (fun _ => true) true n 66 cs = some y → ∃ u : { r : RowI // r.in_ w }, cs = [u.1.val] := fun n cs y ht => by
    have hl : cs.length = 1 := by
      rcases open_slice Tryz.underlying66 ht with ⟨hcs, _⟩ | ⟨y, l, k, m, n, D, Pl, hcs, _⟩
      · rw [hcs]; rfl
      · rw [hcs]; rfl
    match cs, hl with
    | [c0], _ =>
      obtain ⟨r, e, hr⟩ := row_read ht
      exact ⟨⟨r, hr⟩, by rw [e]⟩
  obtain ⟨q, hq, hl, hm⟩ := slice_read Tryz.underlying22 cellsInts (by omega) h (fun r : { r : RowI // r.in_ w } => [r.1.val]) hone
  refine ⟨a, cap, (List.range len).map (fun k => (q k).1), by simp, fun k r hf => ?_, by simpa using hl, hm⟩
  have hk : k < len := by simpa using (List.getElem?_eq_some_iff.1 hf).1
  have e : r = (q k).1 := by
    rw [List.getElem?_map, List.getElem?_range hk] at hf
    exact (Option.some.inj hf).symm
  subst e
  obtain ⟨b, off, h1, _, h2⟩ := hq k hk
  have := h2 0 _ rfl
  rw [Nat.mul_one, Nat.add_zero] at this
  exact ⟨(q k).2, b, off, h1, this⟩

theorem ver_cells {fuel : Nat} {cs : List Value} {y : DataW H × List MemPlace} (h : DataW.trod enc Tryz.prog w 0 (fun _ => true) true fuel 60 cs = some y) :
    ∃ x : PV, cs = x.cells ∧ x.in_ w ∧ x.v.r.short := by
  have hl := (struct_len Tryz.underlying60 h).trans cellsVer
  match cs, hl with
  | [c0, c1, c2, c3, c4], _ =>
    obtain ⟨_, _, h0⟩ := field_read Tryz.underlying60 h (i := 0) rfl
    obtain ⟨_, _, h1⟩ := cell_read Tryz.underlying60 h 1 4 4 rfl rfl rfl cellsBool
    have h0' : DataW.trod enc Tryz.prog w 0 (fun _ => true) true _ 44 (([c0, c1, c2, c3, c4].drop 0).take (Tryz.prog.cellsOf 44)) = _ := h0
    rw [cellsRec] at h0'
    obtain ⟨r, p, e, hi, hs⟩ := rec_cells h0'
    obtain ⟨gn, e4, _⟩ := DataW.trod_bool Tryz.underlying4 h1
    cases e4
    cases e
    exact ⟨⟨⟨r, gn⟩, p⟩, rfl, hi, hs⟩
instance instVer (w : World) : Inhabited { x : PV // x.in_ w ∧ x.v.r.short } := ⟨⟨⟨goneV ⟨#[]⟩ 0, At.none⟩, (NewRec.none 0 w ⟨#[]⟩ 0).in_, ⟨Nat.zero_le _, fun f h => (by cases h), fun f h => (by cases h)⟩⟩⟩
end

section
variable {H : Type} {enc : TypeId × Value → H} {w : World} {r : Go.Reach} {b0 : Nat} {v : Value} {d : DataW H} {p : List MemPlace}
theorem open_grid (hv : Value.okWide Tryz.prog w r b0 22 v) (h : DataW.Trod enc Tryz.prog w 0 (fun _ => true) true 22 v d p) :
    ∃ a cap g, v = .slice a (List.length g) cap ∧ SlG w a g ∧ g.length ≤ cap ∧ cap ≤ maxLen := by
  obtain ⟨a, len, cap, rfl⟩ := okWide_slice Tryz.underlying22 hv
  obtain ⟨fuel, hf⟩ := h
  exact grid_read hf
theorem open_vers (hv : Value.okWide Tryz.prog w r b0 24 v) (h : DataW.Trod enc Tryz.prog w 0 (fun _ => true) true 24 v d p) :
    ∃ a cap l, v = .slice a (List.length l) cap ∧ SlW w a l ∧ l.length ≤ cap ∧ cap ≤ maxLen ∧ ∀ x ∈ l, x.v.r.short := by
  obtain ⟨a, len, cap, rfl⟩ := okWide_slice Tryz.underlying24 hv
  obtain ⟨fuel, hf⟩ := h
  obtain ⟨q, hq, hl, hm⟩ := slice_read Tryz.underlying24 cellsVer (by omega) hf (fun x : { x : PV // x.in_ w ∧ x.v.r.short } => x.1.cells) (fun n cs y ht => by
    obtain ⟨x, e, h1, h2⟩ := ver_cells ht
    exact ⟨⟨x, h1, h2⟩, e⟩)
  refine ⟨a, cap, (List.range len).map (fun k => (q k).1), by simp, fun k x hf => ?_, by simpa using hl, hm, fun x hx => ?_⟩
  · have hk : k < len := by simpa using (List.getElem?_eq_some_iff.1 hf).1
    have e : x = (q k).1 := by
      rw [List.getElem?_map, List.getElem?_range hk] at hf
      exact (Option.some.inj hf).symm
    subst e
    obtain ⟨b, off, h1, _, h2⟩ := hq k hk
    exact ⟨(q k).2.1, b, off, h1, h2 0 _ rfl, h2 1 _ rfl, h2 2 _ rfl, h2 3 _ rfl, h2 4 _ rfl⟩
  · obtain ⟨k, _, rfl⟩ := List.mem_map.1 hx
    exact (q k).2.2
end
end Go.Proofs.YtodlabohijabnaaGreatDoor
