/- How operations lie in memory when they are handed in. -/
import Derived.Test.YtepenlciaanoeaaGreatDoorROpen
import Derived.Test.YtepenlciaanoeaaGreatDoorLogOp
set_option linter.unusedVariables false
set_option linter.unusedSimpArgs false
set_option maxRecDepth 100000
namespace Go.Proofs.YtepenlciaanoeaaGreatDoor
open Go.RowKit Go.ChangeShapes Go.WideShapes Go.Deep

theorem cellsBool : Tryz.prog.cellsOf 4 = 1 := by kernel_rfl
theorem cellsWho : Tryz.prog.cellsOf 35 = 3 := by kernel_rfl
theorem cellsRuleT : Tryz.prog.cellsOf 51 = 6 := by kernel_rfl
theorem cellsOpT : Tryz.prog.cellsOf 43 = 12 := by kernel_rfl
theorem cellsRs : Tryz.prog.cellsOf 36 = 1 := by kernel_rfl
section
variable {H : Type} {enc : TypeId × Value → H} {w : World} {base : Nat} {spare : Nat → Bool} {held : Bool}
theorem bool_read {fuel : Nat} {c : Value} {x : DataW H × List MemPlace} (h : DataW.trod enc Tryz.prog w base spare held fuel 4 [c] = some x) : ∃ b : Bool, c = .bool b := by
  obtain ⟨n, e, _⟩ := DataW.trod_bool Tryz.underlying4 h
  cases e
  exact ⟨n, rfl⟩
theorem who_cells {fuel : Nat} {cs : List Value} {y : DataW H × List MemPlace} (h : DataW.trod enc Tryz.prog w base spare held fuel 35 cs = some y) : ∃ x : WhoL, cs = x.cells := by
  have hl := (struct_len Tryz.underlying35 h).trans cellsWho
  match cs, hl with
  | [c0, c1, c2], _ =>
    obtain ⟨_, _, h0⟩ := cell_read Tryz.underlying35 h 0 3 0 rfl rfl rfl cellsInt
    obtain ⟨_, _, h1⟩ := cell_read Tryz.underlying35 h 1 3 1 rfl rfl rfl cellsInt
    obtain ⟨_, _, h2⟩ := cell_read Tryz.underlying35 h 2 3 2 rfl rfl rfl cellsInt
    obtain ⟨n0, rfl⟩ := int_read h0
    obtain ⟨n1, rfl⟩ := int_read h1
    obtain ⟨n2, rfl⟩ := int_read h2
    exact ⟨⟨n0, n1, n2⟩, rfl⟩
theorem rule_cells {fuel : Nat} {cs : List Value} {y : DataW H × List MemPlace} (h : DataW.trod enc Tryz.prog w base spare held fuel 51 cs = some y) : ∃ r : RuleL, cs = r.cells := by
  have hl := (struct_len Tryz.underlying51 h).trans cellsRuleT
  match cs, hl with
  | [c0, c1, c2, c3, c4, c5], _ =>
    obtain ⟨_, _, h0⟩ := cell_read Tryz.underlying51 h 0 3 0 rfl rfl rfl cellsInt
    obtain ⟨_, _, h1⟩ := cell_read Tryz.underlying51 h 1 3 1 rfl rfl rfl cellsInt
    obtain ⟨_, _, h2⟩ := cell_read Tryz.underlying51 h 2 3 2 rfl rfl rfl cellsInt
    obtain ⟨_, _, h3⟩ := cell_read Tryz.underlying51 h 3 3 3 rfl rfl rfl cellsInt
    obtain ⟨_, _, h4⟩ := cell_read Tryz.underlying51 h 4 3 4 rfl rfl rfl cellsInt
    obtain ⟨_, _, h5⟩ := cell_read Tryz.underlying51 h 5 4 5 rfl rfl rfl cellsBool
    obtain ⟨n0, rfl⟩ := int_read h0
    obtain ⟨n1, rfl⟩ := int_read h1
    obtain ⟨n2, rfl⟩ := int_read h2
    obtain ⟨n3, rfl⟩ := int_read h3
    obtain ⟨n4, rfl⟩ := int_read h4
    obtain ⟨b, rfl⟩ := bool_read h5
    exact ⟨⟨n0, n1, n2, n3, n4, b⟩, rfl⟩
instance : Inhabited RuleL := ⟨⟨0, 0, 0, 0, 0, false⟩⟩
theorem rules_read {fuel : Nat} {c : Value} {x : DataW H × List MemPlace} (h : DataW.trod enc Tryz.prog w 0 (fun _ => true) true fuel 36 [c] = some x) :
    ∃ a n cap rs, c = .slice a n cap ∧ SlR w a n rs ∧ n ≤ cap ∧ cap ≤ maxLen := by
  obtain ⟨a, len, cap, rfl⟩ : ∃ a len cap, c = .slice a len cap := by
    rcases open_slice Tryz.underlying36 h with ⟨hcs, _⟩ | ⟨y, l, k, m, n, D, Pl, hcs, _⟩
    · exact ⟨_, _, _, (List.cons.inj hcs).1⟩
    · exact ⟨_, _, _, (List.cons.inj hcs).1⟩
  obtain ⟨q, hq, hl, hm⟩ := slice_read Tryz.underlying36 cellsRuleT (by omega) h RuleL.cells (fun n cs y ht => rule_cells ht)
  refine ⟨a, len, cap, q, rfl, fun k hk => ?_, hl, hm⟩
  obtain ⟨b, off, h1, _, h2⟩ := hq k hk
  exact ⟨b, off, h1, h2 0 _ rfl, h2 1 _ rfl, h2 2 _ rfl, h2 3 _ rfl, h2 4 _ rfl, h2 5 _ rfl⟩
theorem op_cells {fuel : Nat} {cs : List Value} {y : DataW H × List MemPlace} (h : DataW.trod enc Tryz.prog w 0 (fun _ => true) true fuel 43 cs = some y) :
    ∃ x : OO, cs = x.cells ∧ x.o.in_ x.P w := by
  have hl := (struct_len Tryz.underlying43 h).trans cellsOpT
  match cs, hl with
  | [c0, c1, c2, c3, c4, c5, c6, c7, c8, c9, c10, c11], _ =>
    obtain ⟨_, _, h0⟩ := cell_read Tryz.underlying43 h 0 3 0 rfl rfl rfl cellsInt
    obtain ⟨_, _, h1⟩ := field_read Tryz.underlying43 h (i := 1) rfl
    obtain ⟨_, _, h2⟩ := cell_read Tryz.underlying43 h 2 36 4 rfl rfl rfl cellsRs
    obtain ⟨_, _, h3⟩ := field_read Tryz.underlying43 h (i := 3) rfl
    obtain ⟨_, _, h4⟩ := cell_read Tryz.underlying43 h 4 9 9 rfl rfl rfl cellsStr
    obtain ⟨_, _, h5⟩ := field_read Tryz.underlying43 h (i := 5) rfl
    have h1' : DataW.trod enc Tryz.prog w 0 (fun _ => true) true _ 35 (([c0, c1, c2, c3, c4, c5, c6, c7, c8, c9, c10, c11].drop 1).take (Tryz.prog.cellsOf 35)) = _ := h1
    have h3' : DataW.trod enc Tryz.prog w 0 (fun _ => true) true _ 39 (([c0, c1, c2, c3, c4, c5, c6, c7, c8, c9, c10, c11].drop 5).take (Tryz.prog.cellsOf 39)) = _ := h3
    have h5' : DataW.trod enc Tryz.prog w 0 (fun _ => true) true _ 41 (([c0, c1, c2, c3, c4, c5, c6, c7, c8, c9, c10, c11].drop 10).take (Tryz.prog.cellsOf 41)) = _ := h5
    rw [cellsWho] at h1'
    rw [cellsRec] at h3'
    rw [cellsField] at h5'
    obtain ⟨kd, rfl⟩ := int_read h0
    obtain ⟨wh, e1⟩ := who_cells h1'
    obtain ⟨ra, rn, rc, rs, rfl, r1, r2, r3⟩ := rules_read h2
    obtain ⟨r, p, e3, hi, hsh⟩ := rec_cells h3'
    obtain ⟨id, rfl, him⟩ := str_read h4
    obtain ⟨f, e5, hf⟩ := field_cells h5'
    cases e1
    cases e3
    cases e5
    exact ⟨⟨⟨kd, wh, rn, rs, r, id, f⟩, ⟨ra, rc, p⟩⟩, rfl, ⟨r1, r2, r3, hi, hsh, hf⟩⟩
instance instOO (w : World) : Inhabited { x : OO // x.o.in_ x.P w } := ⟨⟨⟨⟨0, ⟨0, 0, 0⟩, 0, fun _ => ⟨0, 0, 0, 0, 0, false⟩, RecL.zero, ⟨#[]⟩, ⟨⟨#[]⟩, ⟨#[]⟩⟩⟩, ⟨none, 0, At.none⟩⟩, ⟨fun k hk => absurd hk (Nat.not_lt_zero k), Nat.le_refl _, Nat.zero_le _, ⟨SlF.nil _ _, SlS.nil _ _, Nat.le_refl _, Nat.le_refl _, Nat.zero_le _, Nat.zero_le _⟩, ⟨Nat.zero_le _, fun f h => (by cases h), fun s h => (by cases h)⟩, ⟨Nat.zero_le _, Nat.zero_le _⟩⟩⟩⟩
end
section
variable {H : Type} {enc : TypeId × Value → H} {w : World} {r : Go.Reach} {b0 : Nat} {v : Value} {d : DataW H} {p : List MemPlace}
theorem open_who (hv : Value.okWide Tryz.prog w r b0 35 v) (h : DataW.Trod enc Tryz.prog w 0 (fun _ => true) true 35 v d p) : ∃ x : WhoL, v = x.v := by
  obtain ⟨cs, rfl, _⟩ := okWide_struct Tryz.underlying35 hv
  obtain ⟨fuel, hf⟩ := h
  obtain ⟨x, hx⟩ := who_cells hf
  refine ⟨x, ?_⟩
  have e : cs = #[.int .i64 x.role, .int .i64 x.why, .int .i64 x.time] := Array.toList_inj.1 (by simpa [Value.cells, WhoL.cells] using hx)
  rw [e]
theorem open_op (hv : Value.okWide Tryz.prog w r b0 43 v) (h : DataW.Trod enc Tryz.prog w 0 (fun _ => true) true 43 v d p) : ∃ (o : OpL) (P : OpP), v = o.v P ∧ o.in_ P w := by
  obtain ⟨cs, rfl, _⟩ := okWide_struct Tryz.underlying43 hv
  obtain ⟨fuel, hf⟩ := h
  obtain ⟨x, hx, hi⟩ := op_cells hf
  refine ⟨x.o, x.P, ?_, hi⟩
  have e : cs = #[.int .i64 x.o.kind, .int .i64 x.o.who.role, .int .i64 x.o.who.why, .int .i64 x.o.who.time, .slice x.P.ra x.o.n x.P.rc, .string x.o.r.id, .int .i64 x.o.r.cats, .slice x.P.p.fa x.o.r.fs.length x.P.p.fc, .slice x.P.p.ra x.o.r.rs.length x.P.p.rc, .string x.o.id, .string x.o.f.key, .string x.o.f.val] := Array.toList_inj.1 (by simpa [Value.cells, OO.cells] using hx)
  rw [e]
theorem open_byte (hv : Value.okWide Tryz.prog w r b0 5 v) (h : DataW.Trod enc Tryz.prog w 0 (fun _ => true) true 5 v d p) : ∃ n : Int, v = .int .u8 n ∧ 0 ≤ n ∧ n < 256 := by
  obtain ⟨n, rfl, _, _, hw⟩ := open_int Tryz.underlying5 hv h
  refine ⟨n, rfl, ?_⟩
  simp only [Lit.wf, Bool.and_eq_true, decide_eq_true_eq] at hw
  have h1 := hw.1
  have h2 := hw.2
  simp [IntKind.min, IntKind.max, IntKind.signed, IntKind.bits] at h1 h2
  omega
theorem open_ops (hv : Value.okWide Tryz.prog w r b0 23 v) (h : DataW.Trod enc Tryz.prog w 0 (fun _ => true) true 23 v d p) :
    ∃ a cap l, v = .slice a (List.length l) cap ∧ SlO w a l ∧ l.length ≤ cap ∧ cap ≤ maxLen := by
  obtain ⟨a, len, cap, rfl⟩ := okWide_slice Tryz.underlying23 hv
  obtain ⟨fuel, hf⟩ := h
  obtain ⟨q, hq, hl, hm⟩ := slice_read Tryz.underlying23 cellsOpT (by omega) hf (fun x : { x : OO // x.o.in_ x.P w } => x.1.cells) (fun n cs y ht => by
    obtain ⟨x, e, h1⟩ := op_cells ht
    exact ⟨⟨x, h1⟩, e⟩)
  refine ⟨a, cap, (List.range len).map (fun k => (q k).1), by simp, fun k x hf => ?_, by simpa using hl, hm⟩
  have hk : k < len := by simpa using (List.getElem?_eq_some_iff.1 hf).1
  have e : x = (q k).1 := by
    rw [List.getElem?_map, List.getElem?_range hk] at hf
    exact (Option.some.inj hf).symm
  subst e
  obtain ⟨b, off, h1, _, h2⟩ := hq k hk
  exact ⟨(q k).2, b, off, h1, h2 0 _ rfl, h2 1 _ rfl, h2 2 _ rfl, h2 3 _ rfl, h2 4 _ rfl, h2 5 _ rfl, h2 6 _ rfl, h2 7 _ rfl, h2 8 _ rfl, h2 9 _ rfl, h2 10 _ rfl, h2 11 _ rfl⟩
end
end Go.Proofs.YtepenlciaanoeaaGreatDoor
