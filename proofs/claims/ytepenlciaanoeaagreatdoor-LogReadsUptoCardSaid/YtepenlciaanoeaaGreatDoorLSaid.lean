/- The document's answer on logs: the contract of wyref.said. -/
import Derived.Test.YtepenlciaanoeaaGreatDoorLRf2
import Derived.Test.YtepenlciaanoeaaGreatDoorLRd6
import Derived.Test.YtepenlciaanoeaaGreatDoorLRefNew
import Derived.Test.YtepenlciaanoeaaGreatDoorHeldG
import Derived.Deep.RegionHeld3
import Derived.StillTailTactics
set_option linter.unusedVariables false
set_option linter.unusedSimpArgs false
set_option maxRecDepth 100000
namespace Go.Proofs.YtepenlciaanoeaaGreatDoor
open Go.RowKit Go.Sort

/-- what wyref.said answers -/
def SaidTo (R : Option OpL) (w : World) (e : Ending) (w' : World) : Prop :=
  ∃ (q : OpL) (P : OpP), e = .returned (.tuple #[q.v P, .bool R.isSome]) ∧ (∀ o, R = some o → q = o ∧ q.in_ P w' ∧ P.from_ w.heap.size) ∧ Below w.heap.size w w'
def lenSl : Value → Nat
  | .slice _ n _ => n
  | _ => 0
/-- an operation of rules that is being put together, at block b -/
structure RO (b : Nat) (va : Value) (w : World) : Prop where
  c0 : w.cell? ⟨b, 0, none⟩ = some (.int .i64 1)
  c1 : w.cell? ⟨b, 1, none⟩ = some (.int .i64 0)
  c2 : w.cell? ⟨b, 2, none⟩ = some (.int .i64 0)
  c3 : w.cell? ⟨b, 3, none⟩ = some (.int .i64 0)
  c4 : w.cell? ⟨b, 4, none⟩ = some va
  c5 : w.cell? ⟨b, 5, none⟩ = some (.string ⟨#[]⟩)
  c6 : w.cell? ⟨b, 6, none⟩ = some (.int .i64 0)
  c7 : w.cell? ⟨b, 7, none⟩ = some (.slice none 0 0)
  c8 : w.cell? ⟨b, 8, none⟩ = some (.slice none 0 0)
  c9 : w.cell? ⟨b, 9, none⟩ = some (.string ⟨#[]⟩)
  c10 : w.cell? ⟨b, 10, none⟩ = some (.string ⟨#[]⟩)
  c11 : w.cell? ⟨b, 11, none⟩ = some (.string ⟨#[]⟩)
  f : ∀ k, w.frozen? ⟨b, k, none⟩ = false
theorem RO.keep {b : Nat} {va : Value} {w w' : World} (h : RO b va w) (hc : ∀ o, w'.cell? ⟨b, o, none⟩ = w.cell? ⟨b, o, none⟩) (hf : ∀ o, w'.frozen? ⟨b, o, none⟩ = w.frozen? ⟨b, o, none⟩) : RO b va w' :=
  ⟨(hc _).trans h.c0, (hc _).trans h.c1, (hc _).trans h.c2, (hc _).trans h.c3, (hc _).trans h.c4, (hc _).trans h.c5, (hc _).trans h.c6, (hc _).trans h.c7, (hc _).trans h.c8, (hc _).trans h.c9, (hc _).trans h.c10, (hc _).trans h.c11, fun k => (hf k).trans (h.f k)⟩
theorem RO.below {b : Nat} {va : Value} {w w' : World} (h : RO b va w) (hb : Below w.heap.size w w') : RO b va w' := by
  obtain ⟨hc, hf⟩ := bcell hb
  have hl := cell_lt h.c0
  exact h.keep (fun o => hc _ _ hl) (fun o => hf _ _ hl)
theorem RO.made (w : World) : RO w.heap.size (.slice none 0 0) (w.alloc (.cells #[.int .i64 1, .int .i64 0, .int .i64 0, .int .i64 0, .slice none 0 0, .string ⟨#[]⟩, .int .i64 0, .slice none 0 0, .slice none 0 0, .string ⟨#[]⟩, .string ⟨#[]⟩, .string ⟨#[]⟩] 43)) := by constructor <;> simp [go_sem]
theorem RO.set {b : Nat} {va v : Value} {w : World} (h : RO b va w) : RO b v (w.setCell ⟨b, 4, none⟩ v) := by
  obtain ⟨c0, c1, c2, c3, c4, c5, c6, c7, c8, c9, c10, c11, f⟩ := h
  have f4 := f 4
  constructor <;> simp [go_sem, c0, c1, c2, c3, c4, c5, c6, c7, c8, c9, c10, c11, f]
theorem RO.grown {b base size m : Nat} {e : TypeId} {va v : Value} {xs : List Value} {w w' : World} (h : RO b va w) (hg : w.grownBy w' v.ownBlock) (ho : w.ownsRow base e size v m xs) (hb : b < base) : RO b va w' := by
  have hne : some b ≠ v.ownBlock := fun e => by
    have := (World.ownsRow.lt ho b e.symm).1
    omega
  have hl := cell_lt h.c0
  exact h.keep (fun o => hg.cell_far ⟨b, o, none⟩ hl hne) (fun o => hg.frozen_far ⟨b, o, none⟩ hl hne)
theorem Zero12.keep {b : Nat} {w w' : World} (h : Zero12 b w) (hc : ∀ o, w'.cell? ⟨b, o, none⟩ = w.cell? ⟨b, o, none⟩) (hf : ∀ o, w'.frozen? ⟨b, o, none⟩ = w.frozen? ⟨b, o, none⟩) : Zero12 b w' :=
  ⟨(hc _).trans h.c0, (hc _).trans h.c1, (hc _).trans h.c2, (hc _).trans h.c3, (hc _).trans h.c4, (hc _).trans h.c5, (hc _).trans h.c6, (hc _).trans h.c7, (hc _).trans h.c8, (hc _).trans h.c9, (hc _).trans h.c10, (hc _).trans h.c11, fun k => (hf k).trans (h.f k)⟩
theorem Zero12.grown {b base size m : Nat} {e : TypeId} {v : Value} {xs : List Value} {w w' : World} (h : Zero12 b w) (hg : w.grownBy w' v.ownBlock) (ho : w.ownsRow base e size v m xs) (hb : b < base) : Zero12 b w' := by
  have hne : some b ≠ v.ownBlock := fun e => by
    have := (World.ownsRow.lt ho b e.symm).1
    omega
  have hl := cell_lt h.c0
  exact h.keep (fun o => hg.cell_far ⟨b, o, none⟩ hl hne) (fun o => hg.frozen_far ⟨b, o, none⟩ hl hne)
theorem Zero12.far {b : Nat} {w : World} (h : Zero12 b w) {p : Addr} (hne : b ≠ p.block) (x : Value) : Zero12 b (w.setCell p x) :=
  h.keep (fun o => World.cell?_setCell_other _ _ _ _ (fun e => hne (congrArg Addr.block e).symm)) (fun o => World.frozen?_setCell _ _ _ _)
/-- l[6:], of a list that ends where its room ends or does not -/
def SixAt (g o o1 n c n1 c1 : Nat) : Prop := ∀ W : World, (Instr.slice 29 (.slice (some ⟨g, o, none⟩) n c) (some (.int .i64 6)) none none).run Tryz.prog W = .ok (.slice (some ⟨g, o1, none⟩) n1 c1) W
theorem six_at (g o n c : Nat) (h1 : 6 ≤ n) : SixAt g o (if c = 6 then o else o + 6) n c (n - 6) (c - 6) := fun W => by
  have ht : Tryz.prog.underlying 29 = some (.slice 9) := Tryz.underlying29
  have ht' : Tryz.prog.underlying 29 = some (.slice (Tryz.prog.elem 29)) := by simp [Program.elem, ht]
  have he : Tryz.prog.elem 29 = 9 := by simp [Program.elem, ht]
  rw [run_slice_l W _ _ _ _ ht' .i64 6 (by omega) (by omega), he, Tryz.sizeOf9]
  by_cases hc : c = 6
  · subst hc
    simp [Result.andThen, sliced]
  · simp [Result.andThen, sliced, Addr.add, hc]
theorem SlS.at1 {w : World} {g o : Nat} {x : ByteArray} {l : List ByteArray} (h : SlS w (some ⟨g, o, none⟩) (x :: l)) : SlS w (some ⟨g, o + 1, none⟩) l := slS_tail h
theorem slS_drop {w : World} {g o : Nat} {l : List ByteArray} (h : SlS w (some ⟨g, o, none⟩) l) (n : Nat) : SlS w (some ⟨g, o + n, none⟩) (l.drop n) := fun k s hk => by
  rw [List.getElem?_drop] at hk
  obtain ⟨b, off, e, hc⟩ := h (n + k) s hk
  cases e
  exact ⟨_, _, rfl, by rw [Nat.add_assoc]; exact hc⟩
theorem rulesOf_short {ws : List (List UInt8)} (h1 : 0 < ws.length) (h2 : ws.length < 6) : rulesOf ws = none := by
  match ws, h1, h2 with
  | [a], _, _ => rfl
  | [a, b], _, _ => rfl
  | [a, b, c], _, _ => rfl
  | [a, b, c, d], _, _ => rfl
  | [a, b, c, d, e], _, _ => rfl
theorem rulesOf_six (a b c d e f : List UInt8) (r : List (List UInt8)) : rulesOf (a :: b :: c :: d :: e :: f :: r) = match ruleOf a b c d e f, rulesOf r with
    | some x, some l => some (x :: l)
    | _, _ => none := rfl
theorem ruleOf_word {a b c d e f : List UInt8} (h1 : f ≠ yesB) (h2 : f ≠ noB) : ruleOf a b c d e f = none := by
  cases h : numsL [a, b, c, d, e] with
  | none => exact rule_none h
  | some l =>
    obtain ⟨x0, x1, x2, x3, x4, _, h3⟩ := rule_nums (f := f) h
    rw [h3, if_neg h1, if_neg h2]

set_option maxHeartbeats 8000000 in
theorem said_rules (g o o1 c n n1 c1 : Nat) (x0 : ByteArray) (r : List ByteArray) (w : World) (hd0 : w.cell? ⟨g, o, none⟩ = some (.string x0)) (hT : TailAt g o o1 n c n1 c1) (hst : SlS w (some ⟨g, o1, none⟩) r) (hr : r.length = n1) (hc : n1 ≤ c1) (hNl : n1 ≤ 9000000000) (hn : 1 ≤ n) (ht : (x0.toList == [114, 117, 108, 101, 115]) = true) {R : Option (List RuleL)} (hR : rulesOf (r.map fun s => s.data.toList) = R) :
    Calls Tryz.prog 104 #[.slice (some ⟨g, o, none⟩) n c] w (SaidTo (R.map opRules) w) := by
  obtain ⟨iR, hi, hz0, hz1, hz2⟩ := info_parts Tryz.infoRule
  have hA : Below w.heap.size w (w.alloc (.cells #[.int .i64 0, .int .i64 0, .int .i64 0, .int .i64 0, .slice none 0 0, .string ⟨#[]⟩, .int .i64 0, .slice none 0 0, .slice none 0 0, .string ⟨#[]⟩, .string ⟨#[]⟩, .string ⟨#[]⟩] 43)) := (Below.refl _ _).alloc (Nat.le_refl _) _
  obtain ⟨W, hW⟩ : ∃ W, w.alloc (.cells #[.int .i64 0, .int .i64 0, .int .i64 0, .int .i64 0, .slice none 0 0, .string ⟨#[]⟩, .int .i64 0, .slice none 0 0, .slice none 0 0, .string ⟨#[]⟩, .string ⟨#[]⟩, .string ⟨#[]⟩] 43) = W := ⟨_, rfl⟩
  rw [hW] at hA
  have hsz : W.heap.size = w.heap.size + 1 := by rw [← hW]; simp
  have HZ : Hid (Zero12 w.heap.size W) := by rw [← hW]; exact Zero12.made w
  have hc0 : W.cell? ⟨g, o, none⟩ = some (.string x0) := ((bcell hA).1 _ _ (cell_lt hd0)).trans hd0
  obtain ⟨W2, hW2⟩ : ∃ W2, W.alloc (.cells #[.int .i64 1, .int .i64 0, .int .i64 0, .int .i64 0, .slice none 0 0, .string ⟨#[]⟩, .int .i64 0, .slice none 0 0, .slice none 0 0, .string ⟨#[]⟩, .string ⟨#[]⟩, .string ⟨#[]⟩] 43) = W2 := ⟨_, rfl⟩
  have hA2 : Below W.heap.size W W2 := hW2 ▸ (Below.refl _ _).alloc (Nat.le_refl _) _
  have HRO : Hid (RO (w.heap.size + 1) (.slice none 0 0) W2) := by rw [← hW2, ← hsz]; exact RO.made W
  have HZ2 := Lib.hid (HZ.out.below hA2)
  have HB2 := Lib.hid (hA.trans (hA2.mono hA.size))
  have HSB := Lib.hid hst
  have HW := Lib.hid hW
  have HW2 := Lib.hid hW2
  have HSZ := Lib.hid hsz
  have HR := Lib.hid hR
  have HRL := Lib.hid hr
  have HC1 := Lib.hid hc
  have HNL := Lib.hid hNl
  have HG := Lib.hid (cell_lt hd0)
  have hi3 : 0 < n := by omega
  have hi4 : (0 : Int) < (n : Int) := by omega
  unfold TailAt at hT
  have hptr : W.heap.size = w.heap.size + 1 := hsz
  clear hst hA hW hW2 hsz hd0 hR hn hr hc hNl hA2
  go_enter Tryz.func104, Tryz.ntmps104
  go_upto_region 1 with (fail)
  rw [HW.out]
  clear hptr
  go_upto_region 3 with (fail)
  rw [HW2.out]
  rw [HSZ.out]
  clear hi3 hi4
  go_wp2_with fail
  go_loopw [0] (fun s wr => ∃ (off n2 c2 m : Nat) (ys : List ByteArray) (L : List RuleL) (A : Option Addr) (cc : Nat), s = .slice (some ⟨g, off, none⟩) n2 c2 ∧ n2 ≤ c2 ∧ Hid (ys.length = n2 ∧ L.length = m ∧ 6 * m + n2 = n1) ∧ Hid (SlS w (some ⟨g, off, none⟩) ys) ∧ Hid (R = (rulesOf (ys.map fun s => s.data.toList)).map (L ++ ·)) ∧ Hid (Zero12 w.heap.size wr) ∧ Hid (RO (w.heap.size + 1) (.slice A m cc) wr) ∧ Hid (OwnR (w.heap.size + 2) wr (.slice A m cc) m (nthR L)) ∧ Hid (Below w.heap.size w wr)) (fun s _ => lenSl s)
  case atStart =>
    refine ⟨o1, n1, c1, 0, r, [], none, 0, rfl, HC1.out, ⟨HRL.out, rfl, by omega⟩, HSB.out, ?_, HZ2.out, HRO.out, World.ownsRow_nil _ _ _ _, HB2.out⟩
    show R = _
    rw [HR.out]
    cases R <;> rfl
  case round =>
    clear hT ht HRO HZ2 HB2 HSB HW HW2 hc0
    obtain ⟨off, n2, c2, m, ys, L, A, cc, rfl, hnc, HL, HY, HRR, HZ3, HRO3, HO3, HB3⟩ := hrel
    by_cases h0 : n2 = 0
    · subst h0
      have HRF := Lib.hid (show R = some L from by
        rw [HRR.out, List.eq_nil_of_length_eq_zero HL.out.1]
        show some (L ++ []) = _
        rw [List.append_nil])
      obtain ⟨x0, x1, x2, x3, x4, x5, x6, x7, x8, x9, x10, x11, xf⟩ := HRO3.out
      have xl := cell_lt x0
      obtain ⟨u0, u1, u2, u3, u4, u5, u6, u7, u8, u9, u10, u11, uf⟩ := HZ3.out
      have v0 := uf 0
      have v1 := uf 1
      have v2 := uf 2
      have v3 := uf 3
      have v4 := uf 4
      have v5 := uf 5
      have v6 := uf 6
      have v7 := uf 7
      have v8 := uf 8
      have v9 := uf 9
      have v10 := uf 10
      have v11 := uf 11
      have hul := cell_lt u0
      clear uf
      go_wp2_with fail
      refine bodyPost_ret (v := .tuple #[(opRules L).v ⟨A, cc, At.none⟩, .bool true]) (by simp [results, Tryz.results104, go_sem, u0, u1, u2, u3, u4, u5, u6, u7, u8, u9, u10, u11, v0, v1, v2, v3, v4, v5, v6, v7, v8, v9, v10, v11, opRules, who0, RecL.zero, At.none, fld0, HL.out.2.1]) rfl ?_
      have hBX := HB3.out
      refine ⟨opRules L, ⟨A, cc, At.none⟩, by rw [HRF.out]; rfl, fun q hq => ?_, by go_grown⟩
      rw [HRF.out] at hq
      cases hq
      refine ⟨rfl, opRules_in (B := w.heap.size + 2) ?_, fun b off h => ?_⟩
      · rw [HL.out.2.1]
        unfold OwnR
        iterate 12 refine own_set ?_ (show w.heap.size < w.heap.size + 2 by omega)
        exact HO3.out
      · rcases h with h | h | h
        · replace h : A = some ⟨b, off, none⟩ := h
          have h1 := HO3.out
          rw [h] at h1
          have := (World.ownsRow.lt h1 b rfl).1
          omega
        · cases h
        · cases h
    · have hp : (0 : Int) < (n2 : Int) := by omega
      by_cases h6 : n2 < 6
      · have hlt6 : (n2 : Int) < 6 := by omega
        have HRF := Lib.hid (show R = none from by
          rw [HRR.out, rulesOf_short (by rw [List.length_map, HL.out.1]; omega) (by rw [List.length_map, HL.out.1]; exact h6)]
          rfl)
        obtain ⟨x0, x1, x2, x3, x4, x5, x6, x7, x8, x9, x10, x11, xf⟩ := HRO3.out
        have xl := cell_lt x0
        obtain ⟨u0, u1, u2, u3, u4, u5, u6, u7, u8, u9, u10, u11, uf⟩ := HZ3.out
        have v0 := uf 0
        have v1 := uf 1
        have v2 := uf 2
        have v3 := uf 3
        have v4 := uf 4
        have v5 := uf 5
        have v6 := uf 6
        have v7 := uf 7
        have v8 := uf 8
        have v9 := uf 9
        have v10 := uf 10
        have v11 := uf 11
        have hul := cell_lt u0
        clear uf
        go_wp2_with fail
        refine bodyPost_ret (v := .tuple #[(opRules L).v ⟨A, cc, At.none⟩, .bool false]) (by simp [results, Tryz.results104, go_sem, u0, u1, u2, u3, u4, u5, u6, u7, u8, u9, u10, u11, v0, v1, v2, v3, v4, v5, v6, v7, v8, v9, v10, v11, opRules, who0, RecL.zero, At.none, fld0, HL.out.2.1]) rfl ?_
        have hBX := HB3.out
        exact ⟨opRules L, ⟨A, cc, At.none⟩, by rw [HRF.out]; rfl, fun q hq => (by rw [HRF.out] at hq; cases hq), by go_grown⟩
      · have hge6 : ¬ (n2 : Int) < 6 := by omega
        match ys, HL, HY, HRR with
        | s0 :: s1 :: s2 :: s3 :: s4 :: s5 :: ys2, HL, HY, HRR =>
          obtain ⟨_, _, e5, d5⟩ := (HY.out.below HB3.out) 5 s5 rfl
          cases e5
          have h5b := cell_lt d5
          obtain ⟨bY, hbY⟩ : ∃ b, decide (s5.data.toList = yesB) = b := ⟨_, rfl⟩
          obtain ⟨bN, hbN⟩ : ∃ b, decide (s5.data.toList = noB) = b := ⟨_, rfl⟩
          have tY : (s5.toList == [121, 101, 115]) = bY := lit_test hbY
          have tN : (s5.toList == [110, 111]) = bN := lit_test hbN
          have HBY := Lib.hid hbY
          have HBN := Lib.hid hbN
          clear hbY hbN
          have hi5 : 5 < n2 := by omega
          have hi5' : (5 : Int) < (n2 : Int) := by omega
          have HNU := Lib.hid (refNums_any (some ⟨g, off, none⟩) [s0, s1, s2, s3, s4] 5 c2 wr (fun k s hk => by
            match k, hk with
            | 0, hk => cases hk; exact (HY.out.below HB3.out) 0 s0 rfl
            | 1, hk => cases hk; exact (HY.out.below HB3.out) 1 s1 rfl
            | 2, hk => cases hk; exact (HY.out.below HB3.out) 2 s2 rfl
            | 3, hk => cases hk; exact (HY.out.below HB3.out) 3 s3 rfl
            | 4, hk => cases hk; exact (HY.out.below HB3.out) 4 s4 rfl
            | k + 5, hk => simp at hk) rfl (by omega))
          cases bY with
          | true =>
            go_upto_region 8 with (fail)
            go_wp2_with fail
            refine HNU.out.mono ?_
            rintro e w2 ⟨hnu, hb2⟩
            have HB4 := Lib.hid (HB3.out.trans (hb2.mono HB3.out.size))
            have HZ4 := Lib.hid (HZ3.out.below hb2)
            have HRO4 := Lib.hid (HRO3.out.below hb2)
            have HO4 := Lib.hid (show OwnR (w.heap.size + 2) w2 (.slice A m cc) m (nthR L) from own_below HO3.out hb2)
            have d5' : w2.cell? ⟨g, off + 5, none⟩ = some (.string s5) := ((bcell hb2).1 _ _ h5b).trans d5
            clear HNU hb2 d5
            rcases hnu with ⟨z, A2, cz, hz, hzl, rfl, hsz, hzc, hznew⟩ | ⟨hz, rfl⟩
            · match z, hzl with
              | [z0, z1, z2, z3, z4], _ =>
                obtain ⟨gz, oz, rfl, e0⟩ := hsz 0 (by omega)
                obtain ⟨_, _, ee, e1⟩ := hsz 1 (by omega)
                cases ee
                obtain ⟨_, _, ee, e2⟩ := hsz 2 (by omega)
                cases ee
                obtain ⟨_, _, ee, e3⟩ := hsz 3 (by omega)
                cases ee
                obtain ⟨_, _, ee, e4⟩ := hsz 4 (by omega)
                cases ee
                rw [Nat.add_zero] at e0
                replace e0 : w2.cell? ⟨gz, oz, none⟩ = some (.int .i64 z0) := e0
                replace e1 : w2.cell? ⟨gz, oz + 1, none⟩ = some (.int .i64 z1) := e1
                replace e2 : w2.cell? ⟨gz, oz + 2, none⟩ = some (.int .i64 z2) := e2
                replace e3 : w2.cell? ⟨gz, oz + 3, none⟩ = some (.int .i64 z3) := e3
                replace e4 : w2.cell? ⟨gz, oz + 4, none⟩ = some (.int .i64 z4) := e4
                have HRN := Lib.hid (show R = (rulesOf (ys2.map fun s => s.data.toList)).map ((L ++ [(⟨z0, z1, z2, z3, z4, true⟩ : RuleL)]) ++ ·) from by
                  rw [HRR.out]
                  show Option.map _ (rulesOf (s0.data.toList :: s1.data.toList :: s2.data.toList :: s3.data.toList :: s4.data.toList :: s5.data.toList :: (ys2.map fun s => s.data.toList))) = _
                  obtain ⟨q0, q1, q2, q3, q4, hq, hru⟩ := rule_nums (f := s5.data.toList) hz
                  cases hq
                  rw [rulesOf_six, hru]
                  rw [if_pos (of_decide_eq_true HBY.out)]
                  cases rulesOf (ys2.map fun s => s.data.toList) with
                  | none => rfl
                  | some l2 =>
                    show some (L ++ (_ :: l2)) = some (L ++ [_] ++ l2)
                    rw [List.append_assoc]
                    rfl)
                have hS6 := six_at g off n2 c2 (by omega)
                obtain ⟨off6, hoff6⟩ : ∃ x, (if c2 = 6 then off else off + 6) = x := ⟨_, rfl⟩
                rw [hoff6] at hS6
                unfold SixAt at hS6
                have HSY := Lib.hid (show SlS w (some ⟨g, off6, none⟩) ys2 from by
                  rw [← hoff6]
                  by_cases h : c2 = 6
                  · have hy : ys2 = [] := List.eq_nil_of_length_eq_zero (by
                      have h1 : ys2.length + 6 = n2 := HL.out.1
                      omega)
                    rw [hy]
                    exact SlS.nil _ _
                  · rw [if_neg h]
                    exact slS_drop HY.out 6)
                have HNB := Lib.hid (show n2 - 6 ≤ c2 - 6 ∧ ys2.length = n2 - 6 ∧ (L ++ [(⟨z0, z1, z2, z3, z4, true⟩ : RuleL)]).length = m + 1 ∧ 6 * (m + 1) + (n2 - 6) = n1 ∧ n2 - 6 < n2 from by
                  have h1 : ys2.length + 6 = n2 := HL.out.1
                  have h2 := HL.out.2.2
                  refine ⟨by omega, by omega, by rw [List.length_append, HL.out.2.1]; rfl, by omega, by omega⟩)
                obtain ⟨x0, x1, x2, x3, x4, x5, x6, x7, x8, x9, x10, x11, xf⟩ := HRO4.out
                have xl := cell_lt x0
                have el := cell_lt e0
                have dl := cell_lt d5'
                clear hsz hzc hz hoff6 HRR HZ3 HB3
                have hgz := hznew gz oz rfl
                have hown0 : ∀ z, (Value.slice A m cc).ownBlock = some z → w.heap.size + 2 ≤ z ∧ z < wr.heap.size := fun z hz => World.ownsRow.lt HO3.out z hz
                have HBL := Lib.hid (show gz < w2.heap.size ∧ g < w2.heap.size ∧ g < w.heap.size ∧ w.heap.size + 1 < w2.heap.size ∧ gz ≠ w.heap.size + 1 ∧ g ≠ w.heap.size + 1 ∧ (∀ z, (Value.slice A m cc).ownBlock = some z → z ≠ gz ∧ z ≠ g) from by
                  have h1 := cell_lt e0
                  have h2 := cell_lt d5'
                  have h3 := HG.out
                  have h4 := cell_lt HRO4.out.c0
                  have h5 := cell_lt HRO3.out.c0
                  exact ⟨h1, h2, h3, h4, by omega, by omega, fun z hz => by have := hown0 z hz; omega⟩)
                have HS1 := Lib.hid (show ∀ V, Below w2.heap.size w2 V → V.cell? ⟨gz, oz, none⟩ = some (.int .i64 z0) ∧ V.cell? ⟨gz, oz + 1, none⟩ = some (.int .i64 z1) ∧ V.cell? ⟨gz, oz + 2, none⟩ = some (.int .i64 z2) ∧ V.cell? ⟨gz, oz + 3, none⟩ = some (.int .i64 z3) ∧ V.cell? ⟨gz, oz + 4, none⟩ = some (.int .i64 z4) ∧ V.cell? ⟨g, off + 5, none⟩ = some (.string s5) from fun V hV => ⟨(hV.cell (p := ⟨gz, oz, none⟩) HBL.out.1).trans e0, (hV.cell (p := ⟨gz, oz + 1, none⟩) HBL.out.1).trans e1, (hV.cell (p := ⟨gz, oz + 2, none⟩) HBL.out.1).trans e2, (hV.cell (p := ⟨gz, oz + 3, none⟩) HBL.out.1).trans e3, (hV.cell (p := ⟨gz, oz + 4, none⟩) HBL.out.1).trans e4, (hV.cell (p := ⟨g, off + 5, none⟩) HBL.out.2.1).trans d5'⟩)
                have HSS := Lib.hid (show ∀ (V : World) u, V.cell? ⟨gz, oz, none⟩ = some (.int .i64 z0) ∧ V.cell? ⟨gz, oz + 1, none⟩ = some (.int .i64 z1) ∧ V.cell? ⟨gz, oz + 2, none⟩ = some (.int .i64 z2) ∧ V.cell? ⟨gz, oz + 3, none⟩ = some (.int .i64 z3) ∧ V.cell? ⟨gz, oz + 4, none⟩ = some (.int .i64 z4) ∧ V.cell? ⟨g, off + 5, none⟩ = some (.string s5) → (V.setCell ⟨w.heap.size + 1, 4, none⟩ u).cell? ⟨gz, oz, none⟩ = some (.int .i64 z0) ∧ (V.setCell ⟨w.heap.size + 1, 4, none⟩ u).cell? ⟨gz, oz + 1, none⟩ = some (.int .i64 z1) ∧ (V.setCell ⟨w.heap.size + 1, 4, none⟩ u).cell? ⟨gz, oz + 2, none⟩ = some (.int .i64 z2) ∧ (V.setCell ⟨w.heap.size + 1, 4, none⟩ u).cell? ⟨gz, oz + 3, none⟩ = some (.int .i64 z3) ∧ (V.setCell ⟨w.heap.size + 1, 4, none⟩ u).cell? ⟨gz, oz + 4, none⟩ = some (.int .i64 z4) ∧ (V.setCell ⟨w.heap.size + 1, 4, none⟩ u).cell? ⟨g, off + 5, none⟩ = some (.string s5) from fun V u ⟨q0, q1, q2, q3, q4, q5⟩ => by
                  have n1 := HBL.out.2.2.2.2.1
                  have n2 := HBL.out.2.2.2.2.2.1
                  refine ⟨?_, ?_, ?_, ?_, ?_, ?_⟩
                  all_goals
                    refine (World.cell?_setCell_other _ _ _ _ (fun e => ?_)).trans ?_
                    rotate_left
                    assumption
                    have e2 := congrArg Addr.block e
                    first | exact n1 e2.symm | exact n2 e2.symm)
                have hA8 : Below w2.heap.size w2 (w2.alloc (.cells #[.int .i64 z0, .int .i64 z1, .int .i64 z2, .int .i64 z3, .int .i64 z4, .bool true] 51)).drew := ((Below.refl _ _).alloc (Nat.le_refl _) _).drew
                have HSG := Lib.hid (show ∀ V, ((w2.alloc (.cells #[.int .i64 z0, .int .i64 z1, .int .i64 z2, .int .i64 z3, .int .i64 z4, .bool true] 51)).drew).grownBy V (Value.slice A m cc).ownBlock → V.cell? ⟨gz, oz, none⟩ = some (.int .i64 z0) ∧ V.cell? ⟨gz, oz + 1, none⟩ = some (.int .i64 z1) ∧ V.cell? ⟨gz, oz + 2, none⟩ = some (.int .i64 z2) ∧ V.cell? ⟨gz, oz + 3, none⟩ = some (.int .i64 z3) ∧ V.cell? ⟨gz, oz + 4, none⟩ = some (.int .i64 z4) ∧ V.cell? ⟨g, off + 5, none⟩ = some (.string s5) from fun V hg => by
                  obtain ⟨q0, q1, q2, q3, q4, q5⟩ := HS1.out _ hA8
                  have hf1 : ∀ k, V.cell? ⟨gz, k, none⟩ = _ := fun k => hg.cell_far ⟨gz, k, none⟩ (Nat.lt_of_lt_of_le HBL.out.1 hA8.size) (fun e => (HBL.out.2.2.2.2.2.2 gz e.symm).1 rfl)
                  have hf2 : ∀ k, V.cell? ⟨g, k, none⟩ = _ := fun k => hg.cell_far ⟨g, k, none⟩ (Nat.lt_of_lt_of_le HBL.out.2.1 hA8.size) (fun e => (HBL.out.2.2.2.2.2.2 g e.symm).2 rfl)
                  exact ⟨(hf1 _).trans q0, (hf1 _).trans q1, (hf1 _).trans q2, (hf1 _).trans q3, (hf1 _).trans q4, (hf2 _).trans q5⟩)
                have HOA := Lib.hid (show OwnR (w.heap.size + 2) (w2.alloc (.cells #[.int .i64 z0, .int .i64 z1, .int .i64 z2, .int .i64 z3, .int .i64 z4, .bool true] 51)).drew (.slice A m cc) m (nthR L) from own_below HO4.out hA8)
                have HRA := Lib.hid (HRO4.out.below hA8)
                have HZA := Lib.hid (HZ4.out.below hA8)
                have HBA := Lib.hid (HB4.out.trans (hA8.mono HB4.out.size))
                have HNW := Lib.hid (show ∀ j u, (⟨z0, z1, z2, z3, z4, true⟩ : RuleL).cells[j]? = some u → (w2.alloc (.cells #[.int .i64 z0, .int .i64 z1, .int .i64 z2, .int .i64 z3, .int .i64 z4, .bool true] 51)).drew.cell? ((⟨w2.heap.size, 0, none⟩ : Addr).add j) = some u from fun j u hj => by
                  rw [addr_off, Nat.zero_add]
                  match j, hj with
                  | 0, hj => cases hj; simp [go_sem]
                  | 1, hj => cases hj; simp [go_sem]
                  | 2, hj => cases hj; simp [go_sem]
                  | 3, hj => cases hj; simp [go_sem]
                  | 4, hj => cases hj; simp [go_sem]
                  | 5, hj => cases hj; simp [go_sem]
                  | j + 6, hj => simp [RuleL.cells] at hj)
                have HONE := Lib.hid (show ∀ u ∈ (⟨z0, z1, z2, z3, z4, true⟩ : RuleL).cells, u.oneCell' = true by simp [RuleL.cells, Value.oneCell'])
                have HQ := Lib.hid (show m + 1 ≤ maxLen ∧ (m + 1) * 48 ≤ 140737488355328 ∧ w.heap.size + 2 ≤ (w2.alloc (.cells #[.int .i64 z0, .int .i64 z1, .int .i64 z2, .int .i64 z3, .int .i64 z4, .bool true] 51)).drew.heap.size from by
                  have h1 := HNL.out
                  have h2 := HL.out.2.2
                  have h3 := HBL.out.2.2.2.1
                  have h4 := hA8.size
                  refine ⟨by unfold maxLen; omega, by omega, by omega⟩)
                have HS6 := Lib.hid hS6
                clear hS6 h0 h6 hnc hA8 hgz hown0 hznew x0 x1 x2 x3 x5 x6 x7 x8 x9 x10 x11 el dl
                go_upto_region 11 with (fail)
                have x4d : w2.drew.cell? ⟨w.heap.size + 1, 4, none⟩ = some (.slice A m cc) := by simpa [go_sem] using x4
                have hS0 : (fun V => V.cell? ⟨gz, oz, none⟩ = some (.int .i64 z0) ∧ V.cell? ⟨gz, oz + 1, none⟩ = some (.int .i64 z1) ∧ V.cell? ⟨gz, oz + 2, none⟩ = some (.int .i64 z2) ∧ V.cell? ⟨gz, oz + 3, none⟩ = some (.int .i64 z3) ∧ V.cell? ⟨gz, oz + 4, none⟩ = some (.int .i64 z4) ∧ V.cell? ⟨g, off + 5, none⟩ = some (.string s5) ∧ V.cell? ⟨w.heap.size + 1, 4, none⟩ = some (.slice A m cc)) w2.drew := by
                  obtain ⟨q0, q1, q2, q3, q4, q5⟩ := HS1.out _ (Below.refl w2.heap.size w2).drew
                  exact ⟨q0, q1, q2, q3, q4, q5, x4d⟩
                refine wp_region_G (fun V => V.cell? ⟨gz, oz, none⟩ = some (.int .i64 z0) ∧ V.cell? ⟨gz, oz + 1, none⟩ = some (.int .i64 z1) ∧ V.cell? ⟨gz, oz + 2, none⟩ = some (.int .i64 z2) ∧ V.cell? ⟨gz, oz + 3, none⟩ = some (.int .i64 z3) ∧ V.cell? ⟨gz, oz + 4, none⟩ = some (.int .i64 z4) ∧ V.cell? ⟨g, off + 5, none⟩ = some (.string s5) ∧ V.cell? ⟨w.heap.size + 1, 4, none⟩ = some (.slice A m cc)) 25 (by kernel_rfl) ?_
                refine wpAnyG_take (i := 0) (r := [23, 1, 0]) (v := ?_) rfl (by decide +kernel) (by decide +kernel) (by decide +kernel) (by decide +kernel) (by decide +kernel) (fun _ _ _ h => h) hS0 (Or.inl ⟨by rfl, ?_⟩) ?_
                rotate_left
                · intro V hSw
                  try dsimp only at hSw
                  go_simp
                  try with_reducible rfl
                try simp only [Act.put, List.setIfInBounds_toArray, List.set_cons_zero, List.set_cons_succ]
                refine wpAnyG_take (i := 1) (r := [23, 1]) (v := ?_) rfl (by decide +kernel) (by decide +kernel) (by decide +kernel) (by decide +kernel) (by decide +kernel) (fun _ _ _ h => h) hS0 (Or.inl ⟨by rfl, ?_⟩) ?_
                rotate_left
                · intro V hSw
                  try dsimp only at hSw
                  go_simp
                  try with_reducible rfl
                try simp only [Act.put, List.setIfInBounds_toArray, List.set_cons_zero, List.set_cons_succ]
                refine wpAnyG_take (i := 2) (r := [23, 22, 21, 4, 3, 2]) (v := ?_) rfl (by decide +kernel) (by decide +kernel) (by decide +kernel) (by decide +kernel) (by decide +kernel) (fun _ _ _ h => h) hS0 (Or.inl ⟨by rfl, ?_⟩) ?_
                rotate_left
                · intro V hSw
                  try dsimp only at hSw
                  go_simp
                  try with_reducible rfl
                try simp only [Act.put, List.setIfInBounds_toArray, List.set_cons_zero, List.set_cons_succ]
                refine wpAnyG_take (i := 3) (r := [23, 22, 21, 4, 3]) (v := ?_) rfl (by decide +kernel) (by decide +kernel) (by decide +kernel) (by decide +kernel) (by decide +kernel) (fun _ _ _ h => h) hS0 (Or.inl ⟨by rfl, ?_⟩) ?_
                rotate_left
                · intro V hSw
                  try dsimp only at hSw
                  go_simp
                  try with_reducible rfl
                try simp only [Act.put, List.setIfInBounds_toArray, List.set_cons_zero, List.set_cons_succ]
                refine wpAnyG_take (i := 4) (r := [23, 22, 21, 4]) (v := ?_) rfl (by decide +kernel) (by decide +kernel) (by decide +kernel) (by decide +kernel) (by decide +kernel) (fun _ _ _ h => h) hS0 (Or.inl ⟨by rfl, ?_⟩) ?_
                rotate_left
                · intro V hSw
                  try dsimp only at hSw
                  go_simp
                  try with_reducible rfl
                try simp only [Act.put, List.setIfInBounds_toArray, List.set_cons_zero, List.set_cons_succ]
                refine wpAnyG_take (i := 5) (r := [23, 22, 21, 7, 6, 5]) (v := ?_) rfl (by decide +kernel) (by decide +kernel) (by decide +kernel) (by decide +kernel) (by decide +kernel) (fun _ _ _ h => h) hS0 (Or.inl ⟨by rfl, ?_⟩) ?_
                rotate_left
                · intro V hSw
                  try dsimp only at hSw
                  go_simp
                  try with_reducible rfl
                try simp only [Act.put, List.setIfInBounds_toArray, List.set_cons_zero, List.set_cons_succ]
                refine wpAnyG_take (i := 6) (r := [23, 22, 21, 7, 6]) (v := ?_) rfl (by decide +kernel) (by decide +kernel) (by decide +kernel) (by decide +kernel) (by decide +kernel) (fun _ _ _ h => h) hS0 (Or.inl ⟨by rfl, ?_⟩) ?_
                rotate_left
                · intro V hSw
                  try dsimp only at hSw
                  go_simp
                  try with_reducible rfl
                try simp only [Act.put, List.setIfInBounds_toArray, List.set_cons_zero, List.set_cons_succ]
                refine wpAnyG_take (i := 7) (r := [23, 22, 21, 7]) (v := ?_) rfl (by decide +kernel) (by decide +kernel) (by decide +kernel) (by decide +kernel) (by decide +kernel) (fun _ _ _ h => h) hS0 (Or.inl ⟨by rfl, ?_⟩) ?_
                rotate_left
                · intro V hSw
                  try dsimp only at hSw
                  go_simp
                  try with_reducible rfl
                try simp only [Act.put, List.setIfInBounds_toArray, List.set_cons_zero, List.set_cons_succ]
                refine wpAnyG_take (i := 8) (r := [23, 22, 21, 10, 9, 8]) (v := ?_) rfl (by decide +kernel) (by decide +kernel) (by decide +kernel) (by decide +kernel) (by decide +kernel) (fun _ _ _ h => h) hS0 (Or.inl ⟨by rfl, ?_⟩) ?_
                rotate_left
                · intro V hSw
                  try dsimp only at hSw
                  go_simp
                  try with_reducible rfl
                try simp only [Act.put, List.setIfInBounds_toArray, List.set_cons_zero, List.set_cons_succ]
                refine wpAnyG_take (i := 9) (r := [23, 22, 21, 10, 9]) (v := ?_) rfl (by decide +kernel) (by decide +kernel) (by decide +kernel) (by decide +kernel) (by decide +kernel) (fun _ _ _ h => h) hS0 (Or.inl ⟨by rfl, ?_⟩) ?_
                rotate_left
                · intro V hSw
                  try dsimp only at hSw
                  go_simp
                  try with_reducible rfl
                try simp only [Act.put, List.setIfInBounds_toArray, List.set_cons_zero, List.set_cons_succ]
                refine wpAnyG_take (i := 10) (r := [23, 22, 21, 10]) (v := ?_) rfl (by decide +kernel) (by decide +kernel) (by decide +kernel) (by decide +kernel) (by decide +kernel) (fun _ _ _ h => h) hS0 (Or.inl ⟨by rfl, ?_⟩) ?_
                rotate_left
                · intro V hSw
                  try dsimp only at hSw
                  go_simp
                  try with_reducible rfl
                try simp only [Act.put, List.setIfInBounds_toArray, List.set_cons_zero, List.set_cons_succ]
                refine wpAnyG_take (i := 11) (r := [23, 22, 21, 13, 12, 11]) (v := ?_) rfl (by decide +kernel) (by decide +kernel) (by decide +kernel) (by decide +kernel) (by decide +kernel) (fun _ _ _ h => h) hS0 (Or.inl ⟨by rfl, ?_⟩) ?_
                rotate_left
                · intro V hSw
                  try dsimp only at hSw
                  go_simp
                  try with_reducible rfl
                try simp only [Act.put, List.setIfInBounds_toArray, List.set_cons_zero, List.set_cons_succ]
                refine wpAnyG_take (i := 12) (r := [23, 22, 21, 13, 12]) (v := ?_) rfl (by decide +kernel) (by decide +kernel) (by decide +kernel) (by decide +kernel) (by decide +kernel) (fun _ _ _ h => h) hS0 (Or.inl ⟨by rfl, ?_⟩) ?_
                rotate_left
                · intro V hSw
                  try dsimp only at hSw
                  go_simp
                  try with_reducible rfl
                try simp only [Act.put, List.setIfInBounds_toArray, List.set_cons_zero, List.set_cons_succ]
                refine wpAnyG_take (i := 13) (r := [23, 22, 21, 13]) (v := ?_) rfl (by decide +kernel) (by decide +kernel) (by decide +kernel) (by decide +kernel) (by decide +kernel) (fun _ _ _ h => h) hS0 (Or.inl ⟨by rfl, ?_⟩) ?_
                rotate_left
                · intro V hSw
                  try dsimp only at hSw
                  go_simp
                  try with_reducible rfl
                try simp only [Act.put, List.setIfInBounds_toArray, List.set_cons_zero, List.set_cons_succ]
                refine wpAnyG_take (i := 14) (r := [23, 22, 21, 16, 15, 14]) (v := ?_) rfl (by decide +kernel) (by decide +kernel) (by decide +kernel) (by decide +kernel) (by decide +kernel) (fun _ _ _ h => h) hS0 (Or.inl ⟨by rfl, ?_⟩) ?_
                rotate_left
                · intro V hSw
                  try dsimp only at hSw
                  go_simp
                  try with_reducible rfl
                try simp only [Act.put, List.setIfInBounds_toArray, List.set_cons_zero, List.set_cons_succ]
                refine wpAnyG_take (i := 15) (r := [23, 22, 21, 16, 15]) (v := ?_) rfl (by decide +kernel) (by decide +kernel) (by decide +kernel) (by decide +kernel) (by decide +kernel) (fun _ _ _ h => h) hS0 (Or.inl ⟨by rfl, ?_⟩) ?_
                rotate_left
                · intro V hSw
                  try dsimp only at hSw
                  go_simp
                  try with_reducible rfl
                try simp only [Act.put, List.setIfInBounds_toArray, List.set_cons_zero, List.set_cons_succ]
                refine wpAnyG_take (i := 16) (r := [23, 22, 21, 16]) (v := ?_) rfl (by decide +kernel) (by decide +kernel) (by decide +kernel) (by decide +kernel) (by decide +kernel) (fun _ _ _ h => h) hS0 (Or.inl ⟨by rfl, ?_⟩) ?_
                rotate_left
                · intro V hSw
                  try dsimp only at hSw
                  go_simp
                  try with_reducible rfl
                try simp only [Act.put, List.setIfInBounds_toArray, List.set_cons_zero, List.set_cons_succ]
                refine wpAnyG_take (i := 17) (r := [23, 22, 21, 20, 19, 18, 17]) (v := ?_) rfl (by decide +kernel) (by decide +kernel) (by decide +kernel) (by decide +kernel) (by decide +kernel) (fun _ _ _ h => h) hS0 (Or.inl ⟨by rfl, ?_⟩) ?_
                rotate_left
                · intro V hSw
                  try dsimp only at hSw
                  go_simp
                  try with_reducible rfl
                try simp only [Act.put, List.setIfInBounds_toArray, List.set_cons_zero, List.set_cons_succ]
                refine wpAnyG_take (i := 18) (r := [23, 22, 21, 20, 19, 18]) (v := ?_) rfl (by decide +kernel) (by decide +kernel) (by decide +kernel) (by decide +kernel) (by decide +kernel) (fun _ _ _ h => h) hS0 (Or.inl ⟨by rfl, ?_⟩) ?_
                rotate_left
                · intro V hSw
                  try dsimp only at hSw
                  go_simp
                  try with_reducible rfl
                try simp only [Act.put, List.setIfInBounds_toArray, List.set_cons_zero, List.set_cons_succ]
                refine wpAnyG_take (i := 19) (r := [23, 22, 21, 20, 19]) (v := ?_) rfl (by decide +kernel) (by decide +kernel) (by decide +kernel) (by decide +kernel) (by decide +kernel) (fun _ _ _ h => h) hS0 (Or.inl ⟨by rfl, ?_⟩) ?_
                rotate_left
                · intro V hSw
                  try dsimp only at hSw
                  go_simp
                  try with_reducible rfl
                try simp only [Act.put, List.setIfInBounds_toArray, List.set_cons_zero, List.set_cons_succ]
                refine wpAnyG_take (i := 20) (r := [23, 22, 21, 20]) (v := ?_) rfl (by decide +kernel) (by decide +kernel) (by decide +kernel) (by decide +kernel) (by decide +kernel) (fun _ _ _ h => h) hS0 (Or.inl ⟨by rfl, ?_⟩) ?_
                rotate_left
                · intro V hSw
                  try dsimp only at hSw
                  go_simp
                  try with_reducible rfl
                try simp only [Act.put, List.setIfInBounds_toArray, List.set_cons_zero, List.set_cons_succ]
                refine wpAnyG_take (i := 21) (r := [23, 22, 21]) (v := ?_) rfl (by decide +kernel) (by decide +kernel) (by decide +kernel) (by decide +kernel) (by decide +kernel) (fun _ _ _ h => h) hS0 (Or.inl ⟨by rfl, ?_⟩) ?_
                rotate_left
                · intro V hSw
                  try dsimp only at hSw
                  go_simp
                  try with_reducible rfl
                try simp only [Act.put, List.setIfInBounds_toArray, List.set_cons_zero, List.set_cons_succ]
                refine wpAnyG_one (i := 22) rfl (by decide +kernel) rfl (fun K hK => ?_)
                go_simp
                refine hK.out _ _ (fun _ => ?_) ?_
                · obtain ⟨q0, q1, q2, q3, q4, q5⟩ := HS1.out _ ((Below.refl w2.heap.size w2).alloc (Nat.le_refl _) _).drew
                  exact ⟨q0, q1, q2, q3, q4, q5, HRA.out.c4⟩
                clear hK K
                try simp only [Act.put, List.setIfInBounds_toArray, List.set_cons_zero, List.set_cons_succ]
                refine wpAnyG_one (i := 23) rfl (by decide +kernel) rfl (fun K hK => ?_)
                refine step_append_lies _ rfl (.tmp 50) (.tmp 71) 36 rfl (w.heap.size + 2) 51 iR _ 6 48 Tryz.underlying36 hi hz0 hz1 hz2 rfl (by decide) (.slice A m cc) m (cellsR (nthR L) m) (by simp [Act.eval, Act.put]) HOA.out ⟨w2.heap.size, 0, none⟩ 1 1 (⟨z0, z1, z2, z3, z4, true⟩ : RuleL).cells (by simp [Act.eval, Act.put]) rfl HNW.out HONE.out (by decide) HQ.out.1 HQ.out.2.1 HQ.out.2.2 _ rfl ?_
                intro g9 cap9 w9 hown hgrow hat hlt
                have HOW := Lib.hid hown
                have HGR := Lib.hid hgrow
                have R9 := HRA.out.grown hgrow HOA.out (by omega)
                have HR9 := Lib.hid R9
                obtain ⟨y0, y1, y2, y3, y4, y5, y6, y7, y8, y9, y10, y11, yf⟩ := R9
                have yf4 := yf 4
                have yl := cell_lt y0
                have hS9 := And.intro (HSG.out _ hgrow).1 (And.intro (HSG.out _ hgrow).2.1 (And.intro (HSG.out _ hgrow).2.2.1 (And.intro (HSG.out _ hgrow).2.2.2.1 (And.intro (HSG.out _ hgrow).2.2.2.2.1 (And.intro (HSG.out _ hgrow).2.2.2.2.2 y4)))))
                refine hK.out _ _ (fun _ => hS9) ?_
                clear hK K
                try simp only [Act.put, List.setIfInBounds_toArray, List.set_cons_zero, List.set_cons_succ]
                refine wpAnyG_take (i := 24) (r := [24]) (v := ?_) rfl (by decide +kernel) (by decide +kernel) (by decide +kernel) (by decide +kernel) (by decide +kernel) (fun _ _ _ h => h) hS9 (Or.inl ⟨by rfl, ?_⟩) ?_
                rotate_left
                · intro V hSw
                  try dsimp only at hSw
                  go_simp
                  try with_reducible rfl
                try simp only [Act.put, List.setIfInBounds_toArray, List.set_cons_zero, List.set_cons_succ]
                refine wpAnyG_one (i := 25) rfl (by decide +kernel) rfl (fun K hK => ?_)
                go_simp
                refine hK.out _ _ (fun h => absurd rfl h) ?_
                clear hK K
                refine wpAnyG_done (by kernel_rfl) ?_ _
                all_goals clear hi5 hi5' hge6 hp
                all_goals have hS6 := HS6.out
                all_goals
                  go_wp2_with fail
                all_goals
                  refine ⟨⟨off6, n2 - 6, c2 - 6, m + 1, ys2, L ++ [(⟨z0, z1, z2, z3, z4, true⟩ : RuleL)], some ⟨g9, 0, none⟩, cap9, rfl, HNB.out.1, ⟨HNB.out.2.1, HNB.out.2.2.1, HNB.out.2.2.2.1⟩, HSY.out, HRN.out, ?_, ?_, ?_, ?_⟩, ?_⟩
                  · exact (HZA.out.grown HGR.out HOA.out (by omega)).far (by show w.heap.size ≠ w.heap.size + 1; omega) _
                  · exact HR9.out.set
                  · have hcl : cellsR (nthR (L ++ [(⟨z0, z1, z2, z3, z4, true⟩ : RuleL)])) (m + 1) = cellsR (nthR L) m ++ (⟨z0, z1, z2, z3, z4, true⟩ : RuleL).cells := by
                      have := nthR_snoc L ⟨z0, z1, z2, z3, z4, true⟩
                      rw [HL.out.2.1] at this
                      exact this
                    show World.ownsRow _ _ _ _ _ _ _
                    rw [hcl]
                    exact own_set HOW.out (by show w.heap.size + 1 < w.heap.size + 2; omega)
                  · exact (HBA.out.grown HGR.out HBA.out.size (fun j hj => by have := (World.ownsRow.lt HOA.out j hj).1; omega)).setCell (by show w.heap.size ≤ w.heap.size + 1; omega) _
                  · have h9 := HNB.out.2.2.2.2
                    exact h9
            · have HRF := Lib.hid (show R = none from by
                rw [HRR.out]
                show Option.map _ (rulesOf (_ :: _ :: _ :: _ :: _ :: s5.data.toList :: _)) = none
                rw [rulesOf_six, rule_none hz]
                rfl)
              clear hz
              obtain ⟨x0, x1, x2, x3, x4, x5, x6, x7, x8, x9, x10, x11, xf⟩ := HRO4.out
              have xl := cell_lt x0
              obtain ⟨u0, u1, u2, u3, u4, u5, u6, u7, u8, u9, u10, u11, uf⟩ := HZ4.out
              have v0 := uf 0
              have v1 := uf 1
              have v2 := uf 2
              have v3 := uf 3
              have v4 := uf 4
              have v5 := uf 5
              have v6 := uf 6
              have v7 := uf 7
              have v8 := uf 8
              have v9 := uf 9
              have v10 := uf 10
              have v11 := uf 11
              have hul := cell_lt u0
              clear uf
              go_wp2_with fail
              refine bodyPost_ret (v := .tuple #[(opRules L).v ⟨A, cc, At.none⟩, .bool false]) (by simp [results, Tryz.results104, go_sem, u0, u1, u2, u3, u4, u5, u6, u7, u8, u9, u10, u11, v0, v1, v2, v3, v4, v5, v6, v7, v8, v9, v10, v11, opRules, who0, RecL.zero, At.none, fld0, HL.out.2.1]) rfl ?_
              have hBX := HB4.out
              exact ⟨opRules L, ⟨A, cc, At.none⟩, by rw [HRF.out]; rfl, fun q hq => (by rw [HRF.out] at hq; cases hq), by go_grown⟩
          | false =>
            cases bN with
            | true =>
              go_upto_region 8 with (fail)
              go_wp2_with fail
              refine HNU.out.mono ?_
              rintro e w2 ⟨hnu, hb2⟩
              have HB4 := Lib.hid (HB3.out.trans (hb2.mono HB3.out.size))
              have HZ4 := Lib.hid (HZ3.out.below hb2)
              have HRO4 := Lib.hid (HRO3.out.below hb2)
              have HO4 := Lib.hid (show OwnR (w.heap.size + 2) w2 (.slice A m cc) m (nthR L) from own_below HO3.out hb2)
              have d5' : w2.cell? ⟨g, off + 5, none⟩ = some (.string s5) := ((bcell hb2).1 _ _ h5b).trans d5
              clear HNU hb2 d5
              rcases hnu with ⟨z, A2, cz, hz, hzl, rfl, hsz, hzc, hznew⟩ | ⟨hz, rfl⟩
              · match z, hzl with
                | [z0, z1, z2, z3, z4], _ =>
                  obtain ⟨gz, oz, rfl, e0⟩ := hsz 0 (by omega)
                  obtain ⟨_, _, ee, e1⟩ := hsz 1 (by omega)
                  cases ee
                  obtain ⟨_, _, ee, e2⟩ := hsz 2 (by omega)
                  cases ee
                  obtain ⟨_, _, ee, e3⟩ := hsz 3 (by omega)
                  cases ee
                  obtain ⟨_, _, ee, e4⟩ := hsz 4 (by omega)
                  cases ee
                  rw [Nat.add_zero] at e0
                  replace e0 : w2.cell? ⟨gz, oz, none⟩ = some (.int .i64 z0) := e0
                  replace e1 : w2.cell? ⟨gz, oz + 1, none⟩ = some (.int .i64 z1) := e1
                  replace e2 : w2.cell? ⟨gz, oz + 2, none⟩ = some (.int .i64 z2) := e2
                  replace e3 : w2.cell? ⟨gz, oz + 3, none⟩ = some (.int .i64 z3) := e3
                  replace e4 : w2.cell? ⟨gz, oz + 4, none⟩ = some (.int .i64 z4) := e4
                  have HRN := Lib.hid (show R = (rulesOf (ys2.map fun s => s.data.toList)).map ((L ++ [(⟨z0, z1, z2, z3, z4, false⟩ : RuleL)]) ++ ·) from by
                    rw [HRR.out]
                    show Option.map _ (rulesOf (s0.data.toList :: s1.data.toList :: s2.data.toList :: s3.data.toList :: s4.data.toList :: s5.data.toList :: (ys2.map fun s => s.data.toList))) = _
                    obtain ⟨q0, q1, q2, q3, q4, hq, hru⟩ := rule_nums (f := s5.data.toList) hz
                    cases hq
                    rw [rulesOf_six, hru]
                    rw [if_neg (of_decide_eq_false HBY.out), if_pos (of_decide_eq_true HBN.out)]
                    cases rulesOf (ys2.map fun s => s.data.toList) with
                    | none => rfl
                    | some l2 =>
                      show some (L ++ (_ :: l2)) = some (L ++ [_] ++ l2)
                      rw [List.append_assoc]
                      rfl)
                  have hS6 := six_at g off n2 c2 (by omega)
                  obtain ⟨off6, hoff6⟩ : ∃ x, (if c2 = 6 then off else off + 6) = x := ⟨_, rfl⟩
                  rw [hoff6] at hS6
                  unfold SixAt at hS6
                  have HSY := Lib.hid (show SlS w (some ⟨g, off6, none⟩) ys2 from by
                    rw [← hoff6]
                    by_cases h : c2 = 6
                    · have hy : ys2 = [] := List.eq_nil_of_length_eq_zero (by
                        have h1 : ys2.length + 6 = n2 := HL.out.1
                        omega)
                      rw [hy]
                      exact SlS.nil _ _
                    · rw [if_neg h]
                      exact slS_drop HY.out 6)
                  have HNB := Lib.hid (show n2 - 6 ≤ c2 - 6 ∧ ys2.length = n2 - 6 ∧ (L ++ [(⟨z0, z1, z2, z3, z4, false⟩ : RuleL)]).length = m + 1 ∧ 6 * (m + 1) + (n2 - 6) = n1 ∧ n2 - 6 < n2 from by
                    have h1 : ys2.length + 6 = n2 := HL.out.1
                    have h2 := HL.out.2.2
                    refine ⟨by omega, by omega, by rw [List.length_append, HL.out.2.1]; rfl, by omega, by omega⟩)
                  obtain ⟨x0, x1, x2, x3, x4, x5, x6, x7, x8, x9, x10, x11, xf⟩ := HRO4.out
                  have xl := cell_lt x0
                  have el := cell_lt e0
                  have dl := cell_lt d5'
                  clear hsz hzc hz hoff6 HRR HZ3 HB3
                  have hgz := hznew gz oz rfl
                  have hown0 : ∀ z, (Value.slice A m cc).ownBlock = some z → w.heap.size + 2 ≤ z ∧ z < wr.heap.size := fun z hz => World.ownsRow.lt HO3.out z hz
                  have HBL := Lib.hid (show gz < w2.heap.size ∧ g < w2.heap.size ∧ g < w.heap.size ∧ w.heap.size + 1 < w2.heap.size ∧ gz ≠ w.heap.size + 1 ∧ g ≠ w.heap.size + 1 ∧ (∀ z, (Value.slice A m cc).ownBlock = some z → z ≠ gz ∧ z ≠ g) from by
                    have h1 := cell_lt e0
                    have h2 := cell_lt d5'
                    have h3 := HG.out
                    have h4 := cell_lt HRO4.out.c0
                    have h5 := cell_lt HRO3.out.c0
                    exact ⟨h1, h2, h3, h4, by omega, by omega, fun z hz => by have := hown0 z hz; omega⟩)
                  have HS1 := Lib.hid (show ∀ V, Below w2.heap.size w2 V → V.cell? ⟨gz, oz, none⟩ = some (.int .i64 z0) ∧ V.cell? ⟨gz, oz + 1, none⟩ = some (.int .i64 z1) ∧ V.cell? ⟨gz, oz + 2, none⟩ = some (.int .i64 z2) ∧ V.cell? ⟨gz, oz + 3, none⟩ = some (.int .i64 z3) ∧ V.cell? ⟨gz, oz + 4, none⟩ = some (.int .i64 z4) ∧ V.cell? ⟨g, off + 5, none⟩ = some (.string s5) from fun V hV => ⟨(hV.cell (p := ⟨gz, oz, none⟩) HBL.out.1).trans e0, (hV.cell (p := ⟨gz, oz + 1, none⟩) HBL.out.1).trans e1, (hV.cell (p := ⟨gz, oz + 2, none⟩) HBL.out.1).trans e2, (hV.cell (p := ⟨gz, oz + 3, none⟩) HBL.out.1).trans e3, (hV.cell (p := ⟨gz, oz + 4, none⟩) HBL.out.1).trans e4, (hV.cell (p := ⟨g, off + 5, none⟩) HBL.out.2.1).trans d5'⟩)
                  have HSS := Lib.hid (show ∀ (V : World) u, V.cell? ⟨gz, oz, none⟩ = some (.int .i64 z0) ∧ V.cell? ⟨gz, oz + 1, none⟩ = some (.int .i64 z1) ∧ V.cell? ⟨gz, oz + 2, none⟩ = some (.int .i64 z2) ∧ V.cell? ⟨gz, oz + 3, none⟩ = some (.int .i64 z3) ∧ V.cell? ⟨gz, oz + 4, none⟩ = some (.int .i64 z4) ∧ V.cell? ⟨g, off + 5, none⟩ = some (.string s5) → (V.setCell ⟨w.heap.size + 1, 4, none⟩ u).cell? ⟨gz, oz, none⟩ = some (.int .i64 z0) ∧ (V.setCell ⟨w.heap.size + 1, 4, none⟩ u).cell? ⟨gz, oz + 1, none⟩ = some (.int .i64 z1) ∧ (V.setCell ⟨w.heap.size + 1, 4, none⟩ u).cell? ⟨gz, oz + 2, none⟩ = some (.int .i64 z2) ∧ (V.setCell ⟨w.heap.size + 1, 4, none⟩ u).cell? ⟨gz, oz + 3, none⟩ = some (.int .i64 z3) ∧ (V.setCell ⟨w.heap.size + 1, 4, none⟩ u).cell? ⟨gz, oz + 4, none⟩ = some (.int .i64 z4) ∧ (V.setCell ⟨w.heap.size + 1, 4, none⟩ u).cell? ⟨g, off + 5, none⟩ = some (.string s5) from fun V u ⟨q0, q1, q2, q3, q4, q5⟩ => by
                    have n1 := HBL.out.2.2.2.2.1
                    have n2 := HBL.out.2.2.2.2.2.1
                    refine ⟨?_, ?_, ?_, ?_, ?_, ?_⟩
                    all_goals
                      refine (World.cell?_setCell_other _ _ _ _ (fun e => ?_)).trans ?_
                      rotate_left
                      assumption
                      have e2 := congrArg Addr.block e
                      first | exact n1 e2.symm | exact n2 e2.symm)
                  have hA8 : Below w2.heap.size w2 (w2.alloc (.cells #[.int .i64 z0, .int .i64 z1, .int .i64 z2, .int .i64 z3, .int .i64 z4, .bool false] 51)).drew := ((Below.refl _ _).alloc (Nat.le_refl _) _).drew
                  have HSG := Lib.hid (show ∀ V, ((w2.alloc (.cells #[.int .i64 z0, .int .i64 z1, .int .i64 z2, .int .i64 z3, .int .i64 z4, .bool false] 51)).drew).grownBy V (Value.slice A m cc).ownBlock → V.cell? ⟨gz, oz, none⟩ = some (.int .i64 z0) ∧ V.cell? ⟨gz, oz + 1, none⟩ = some (.int .i64 z1) ∧ V.cell? ⟨gz, oz + 2, none⟩ = some (.int .i64 z2) ∧ V.cell? ⟨gz, oz + 3, none⟩ = some (.int .i64 z3) ∧ V.cell? ⟨gz, oz + 4, none⟩ = some (.int .i64 z4) ∧ V.cell? ⟨g, off + 5, none⟩ = some (.string s5) from fun V hg => by
                    obtain ⟨q0, q1, q2, q3, q4, q5⟩ := HS1.out _ hA8
                    have hf1 : ∀ k, V.cell? ⟨gz, k, none⟩ = _ := fun k => hg.cell_far ⟨gz, k, none⟩ (Nat.lt_of_lt_of_le HBL.out.1 hA8.size) (fun e => (HBL.out.2.2.2.2.2.2 gz e.symm).1 rfl)
                    have hf2 : ∀ k, V.cell? ⟨g, k, none⟩ = _ := fun k => hg.cell_far ⟨g, k, none⟩ (Nat.lt_of_lt_of_le HBL.out.2.1 hA8.size) (fun e => (HBL.out.2.2.2.2.2.2 g e.symm).2 rfl)
                    exact ⟨(hf1 _).trans q0, (hf1 _).trans q1, (hf1 _).trans q2, (hf1 _).trans q3, (hf1 _).trans q4, (hf2 _).trans q5⟩)
                  have HOA := Lib.hid (show OwnR (w.heap.size + 2) (w2.alloc (.cells #[.int .i64 z0, .int .i64 z1, .int .i64 z2, .int .i64 z3, .int .i64 z4, .bool false] 51)).drew (.slice A m cc) m (nthR L) from own_below HO4.out hA8)
                  have HRA := Lib.hid (HRO4.out.below hA8)
                  have HZA := Lib.hid (HZ4.out.below hA8)
                  have HBA := Lib.hid (HB4.out.trans (hA8.mono HB4.out.size))
                  have HNW := Lib.hid (show ∀ j u, (⟨z0, z1, z2, z3, z4, false⟩ : RuleL).cells[j]? = some u → (w2.alloc (.cells #[.int .i64 z0, .int .i64 z1, .int .i64 z2, .int .i64 z3, .int .i64 z4, .bool false] 51)).drew.cell? ((⟨w2.heap.size, 0, none⟩ : Addr).add j) = some u from fun j u hj => by
                    rw [addr_off, Nat.zero_add]
                    match j, hj with
                    | 0, hj => cases hj; simp [go_sem]
                    | 1, hj => cases hj; simp [go_sem]
                    | 2, hj => cases hj; simp [go_sem]
                    | 3, hj => cases hj; simp [go_sem]
                    | 4, hj => cases hj; simp [go_sem]
                    | 5, hj => cases hj; simp [go_sem]
                    | j + 6, hj => simp [RuleL.cells] at hj)
                  have HONE := Lib.hid (show ∀ u ∈ (⟨z0, z1, z2, z3, z4, false⟩ : RuleL).cells, u.oneCell' = true by simp [RuleL.cells, Value.oneCell'])
                  have HQ := Lib.hid (show m + 1 ≤ maxLen ∧ (m + 1) * 48 ≤ 140737488355328 ∧ w.heap.size + 2 ≤ (w2.alloc (.cells #[.int .i64 z0, .int .i64 z1, .int .i64 z2, .int .i64 z3, .int .i64 z4, .bool false] 51)).drew.heap.size from by
                    have h1 := HNL.out
                    have h2 := HL.out.2.2
                    have h3 := HBL.out.2.2.2.1
                    have h4 := hA8.size
                    refine ⟨by unfold maxLen; omega, by omega, by omega⟩)
                  have HS6 := Lib.hid hS6
                  clear hS6 h0 h6 hnc hA8 hgz hown0 hznew x0 x1 x2 x3 x5 x6 x7 x8 x9 x10 x11 el dl
                  go_upto_region 11 with (fail)
                  have x4d : w2.drew.cell? ⟨w.heap.size + 1, 4, none⟩ = some (.slice A m cc) := by simpa [go_sem] using x4
                  have hS0 : (fun V => V.cell? ⟨gz, oz, none⟩ = some (.int .i64 z0) ∧ V.cell? ⟨gz, oz + 1, none⟩ = some (.int .i64 z1) ∧ V.cell? ⟨gz, oz + 2, none⟩ = some (.int .i64 z2) ∧ V.cell? ⟨gz, oz + 3, none⟩ = some (.int .i64 z3) ∧ V.cell? ⟨gz, oz + 4, none⟩ = some (.int .i64 z4) ∧ V.cell? ⟨g, off + 5, none⟩ = some (.string s5) ∧ V.cell? ⟨w.heap.size + 1, 4, none⟩ = some (.slice A m cc)) w2.drew := by
                    obtain ⟨q0, q1, q2, q3, q4, q5⟩ := HS1.out _ (Below.refl w2.heap.size w2).drew
                    exact ⟨q0, q1, q2, q3, q4, q5, x4d⟩
                  refine wp_region_G (fun V => V.cell? ⟨gz, oz, none⟩ = some (.int .i64 z0) ∧ V.cell? ⟨gz, oz + 1, none⟩ = some (.int .i64 z1) ∧ V.cell? ⟨gz, oz + 2, none⟩ = some (.int .i64 z2) ∧ V.cell? ⟨gz, oz + 3, none⟩ = some (.int .i64 z3) ∧ V.cell? ⟨gz, oz + 4, none⟩ = some (.int .i64 z4) ∧ V.cell? ⟨g, off + 5, none⟩ = some (.string s5) ∧ V.cell? ⟨w.heap.size + 1, 4, none⟩ = some (.slice A m cc)) 25 (by kernel_rfl) ?_
                  refine wpAnyG_take (i := 0) (r := [23, 1, 0]) (v := ?_) rfl (by decide +kernel) (by decide +kernel) (by decide +kernel) (by decide +kernel) (by decide +kernel) (fun _ _ _ h => h) hS0 (Or.inl ⟨by rfl, ?_⟩) ?_
                  rotate_left
                  · intro V hSw
                    try dsimp only at hSw
                    go_simp
                    try with_reducible rfl
                  try simp only [Act.put, List.setIfInBounds_toArray, List.set_cons_zero, List.set_cons_succ]
                  refine wpAnyG_take (i := 1) (r := [23, 1]) (v := ?_) rfl (by decide +kernel) (by decide +kernel) (by decide +kernel) (by decide +kernel) (by decide +kernel) (fun _ _ _ h => h) hS0 (Or.inl ⟨by rfl, ?_⟩) ?_
                  rotate_left
                  · intro V hSw
                    try dsimp only at hSw
                    go_simp
                    try with_reducible rfl
                  try simp only [Act.put, List.setIfInBounds_toArray, List.set_cons_zero, List.set_cons_succ]
                  refine wpAnyG_take (i := 2) (r := [23, 22, 21, 4, 3, 2]) (v := ?_) rfl (by decide +kernel) (by decide +kernel) (by decide +kernel) (by decide +kernel) (by decide +kernel) (fun _ _ _ h => h) hS0 (Or.inl ⟨by rfl, ?_⟩) ?_
                  rotate_left
                  · intro V hSw
                    try dsimp only at hSw
                    go_simp
                    try with_reducible rfl
                  try simp only [Act.put, List.setIfInBounds_toArray, List.set_cons_zero, List.set_cons_succ]
                  refine wpAnyG_take (i := 3) (r := [23, 22, 21, 4, 3]) (v := ?_) rfl (by decide +kernel) (by decide +kernel) (by decide +kernel) (by decide +kernel) (by decide +kernel) (fun _ _ _ h => h) hS0 (Or.inl ⟨by rfl, ?_⟩) ?_
                  rotate_left
                  · intro V hSw
                    try dsimp only at hSw
                    go_simp
                    try with_reducible rfl
                  try simp only [Act.put, List.setIfInBounds_toArray, List.set_cons_zero, List.set_cons_succ]
                  refine wpAnyG_take (i := 4) (r := [23, 22, 21, 4]) (v := ?_) rfl (by decide +kernel) (by decide +kernel) (by decide +kernel) (by decide +kernel) (by decide +kernel) (fun _ _ _ h => h) hS0 (Or.inl ⟨by rfl, ?_⟩) ?_
                  rotate_left
                  · intro V hSw
                    try dsimp only at hSw
                    go_simp
                    try with_reducible rfl
                  try simp only [Act.put, List.setIfInBounds_toArray, List.set_cons_zero, List.set_cons_succ]
                  refine wpAnyG_take (i := 5) (r := [23, 22, 21, 7, 6, 5]) (v := ?_) rfl (by decide +kernel) (by decide +kernel) (by decide +kernel) (by decide +kernel) (by decide +kernel) (fun _ _ _ h => h) hS0 (Or.inl ⟨by rfl, ?_⟩) ?_
                  rotate_left
                  · intro V hSw
                    try dsimp only at hSw
                    go_simp
                    try with_reducible rfl
                  try simp only [Act.put, List.setIfInBounds_toArray, List.set_cons_zero, List.set_cons_succ]
                  refine wpAnyG_take (i := 6) (r := [23, 22, 21, 7, 6]) (v := ?_) rfl (by decide +kernel) (by decide +kernel) (by decide +kernel) (by decide +kernel) (by decide +kernel) (fun _ _ _ h => h) hS0 (Or.inl ⟨by rfl, ?_⟩) ?_
                  rotate_left
                  · intro V hSw
                    try dsimp only at hSw
                    go_simp
                    try with_reducible rfl
                  try simp only [Act.put, List.setIfInBounds_toArray, List.set_cons_zero, List.set_cons_succ]
                  refine wpAnyG_take (i := 7) (r := [23, 22, 21, 7]) (v := ?_) rfl (by decide +kernel) (by decide +kernel) (by decide +kernel) (by decide +kernel) (by decide +kernel) (fun _ _ _ h => h) hS0 (Or.inl ⟨by rfl, ?_⟩) ?_
                  rotate_left
                  · intro V hSw
                    try dsimp only at hSw
                    go_simp
                    try with_reducible rfl
                  try simp only [Act.put, List.setIfInBounds_toArray, List.set_cons_zero, List.set_cons_succ]
                  refine wpAnyG_take (i := 8) (r := [23, 22, 21, 10, 9, 8]) (v := ?_) rfl (by decide +kernel) (by decide +kernel) (by decide +kernel) (by decide +kernel) (by decide +kernel) (fun _ _ _ h => h) hS0 (Or.inl ⟨by rfl, ?_⟩) ?_
                  rotate_left
                  · intro V hSw
                    try dsimp only at hSw
                    go_simp
                    try with_reducible rfl
                  try simp only [Act.put, List.setIfInBounds_toArray, List.set_cons_zero, List.set_cons_succ]
                  refine wpAnyG_take (i := 9) (r := [23, 22, 21, 10, 9]) (v := ?_) rfl (by decide +kernel) (by decide +kernel) (by decide +kernel) (by decide +kernel) (by decide +kernel) (fun _ _ _ h => h) hS0 (Or.inl ⟨by rfl, ?_⟩) ?_
                  rotate_left
                  · intro V hSw
                    try dsimp only at hSw
                    go_simp
                    try with_reducible rfl
                  try simp only [Act.put, List.setIfInBounds_toArray, List.set_cons_zero, List.set_cons_succ]
                  refine wpAnyG_take (i := 10) (r := [23, 22, 21, 10]) (v := ?_) rfl (by decide +kernel) (by decide +kernel) (by decide +kernel) (by decide +kernel) (by decide +kernel) (fun _ _ _ h => h) hS0 (Or.inl ⟨by rfl, ?_⟩) ?_
                  rotate_left
                  · intro V hSw
                    try dsimp only at hSw
                    go_simp
                    try with_reducible rfl
                  try simp only [Act.put, List.setIfInBounds_toArray, List.set_cons_zero, List.set_cons_succ]
                  refine wpAnyG_take (i := 11) (r := [23, 22, 21, 13, 12, 11]) (v := ?_) rfl (by decide +kernel) (by decide +kernel) (by decide +kernel) (by decide +kernel) (by decide +kernel) (fun _ _ _ h => h) hS0 (Or.inl ⟨by rfl, ?_⟩) ?_
                  rotate_left
                  · intro V hSw
                    try dsimp only at hSw
                    go_simp
                    try with_reducible rfl
                  try simp only [Act.put, List.setIfInBounds_toArray, List.set_cons_zero, List.set_cons_succ]
                  refine wpAnyG_take (i := 12) (r := [23, 22, 21, 13, 12]) (v := ?_) rfl (by decide +kernel) (by decide +kernel) (by decide +kernel) (by decide +kernel) (by decide +kernel) (fun _ _ _ h => h) hS0 (Or.inl ⟨by rfl, ?_⟩) ?_
                  rotate_left
                  · intro V hSw
                    try dsimp only at hSw
                    go_simp
                    try with_reducible rfl
                  try simp only [Act.put, List.setIfInBounds_toArray, List.set_cons_zero, List.set_cons_succ]
                  refine wpAnyG_take (i := 13) (r := [23, 22, 21, 13]) (v := ?_) rfl (by decide +kernel) (by decide +kernel) (by decide +kernel) (by decide +kernel) (by decide +kernel) (fun _ _ _ h => h) hS0 (Or.inl ⟨by rfl, ?_⟩) ?_
                  rotate_left
                  · intro V hSw
                    try dsimp only at hSw
                    go_simp
                    try with_reducible rfl
                  try simp only [Act.put, List.setIfInBounds_toArray, List.set_cons_zero, List.set_cons_succ]
                  refine wpAnyG_take (i := 14) (r := [23, 22, 21, 16, 15, 14]) (v := ?_) rfl (by decide +kernel) (by decide +kernel) (by decide +kernel) (by decide +kernel) (by decide +kernel) (fun _ _ _ h => h) hS0 (Or.inl ⟨by rfl, ?_⟩) ?_
                  rotate_left
                  · intro V hSw
                    try dsimp only at hSw
                    go_simp
                    try with_reducible rfl
                  try simp only [Act.put, List.setIfInBounds_toArray, List.set_cons_zero, List.set_cons_succ]
                  refine wpAnyG_take (i := 15) (r := [23, 22, 21, 16, 15]) (v := ?_) rfl (by decide +kernel) (by decide +kernel) (by decide +kernel) (by decide +kernel) (by decide +kernel) (fun _ _ _ h => h) hS0 (Or.inl ⟨by rfl, ?_⟩) ?_
                  rotate_left
                  · intro V hSw
                    try dsimp only at hSw
                    go_simp
                    try with_reducible rfl
                  try simp only [Act.put, List.setIfInBounds_toArray, List.set_cons_zero, List.set_cons_succ]
                  refine wpAnyG_take (i := 16) (r := [23, 22, 21, 16]) (v := ?_) rfl (by decide +kernel) (by decide +kernel) (by decide +kernel) (by decide +kernel) (by decide +kernel) (fun _ _ _ h => h) hS0 (Or.inl ⟨by rfl, ?_⟩) ?_
                  rotate_left
                  · intro V hSw
                    try dsimp only at hSw
                    go_simp
                    try with_reducible rfl
                  try simp only [Act.put, List.setIfInBounds_toArray, List.set_cons_zero, List.set_cons_succ]
                  refine wpAnyG_take (i := 17) (r := [23, 22, 21, 20, 19, 18, 17]) (v := ?_) rfl (by decide +kernel) (by decide +kernel) (by decide +kernel) (by decide +kernel) (by decide +kernel) (fun _ _ _ h => h) hS0 (Or.inl ⟨by rfl, ?_⟩) ?_
                  rotate_left
                  · intro V hSw
                    try dsimp only at hSw
                    go_simp
                    try with_reducible rfl
                  try simp only [Act.put, List.setIfInBounds_toArray, List.set_cons_zero, List.set_cons_succ]
                  refine wpAnyG_take (i := 18) (r := [23, 22, 21, 20, 19, 18]) (v := ?_) rfl (by decide +kernel) (by decide +kernel) (by decide +kernel) (by decide +kernel) (by decide +kernel) (fun _ _ _ h => h) hS0 (Or.inl ⟨by rfl, ?_⟩) ?_
                  rotate_left
                  · intro V hSw
                    try dsimp only at hSw
                    go_simp
                    try with_reducible rfl
                  try simp only [Act.put, List.setIfInBounds_toArray, List.set_cons_zero, List.set_cons_succ]
                  refine wpAnyG_take (i := 19) (r := [23, 22, 21, 20, 19]) (v := ?_) rfl (by decide +kernel) (by decide +kernel) (by decide +kernel) (by decide +kernel) (by decide +kernel) (fun _ _ _ h => h) hS0 (Or.inl ⟨by rfl, ?_⟩) ?_
                  rotate_left
                  · intro V hSw
                    try dsimp only at hSw
                    go_simp
                    try with_reducible rfl
                  try simp only [Act.put, List.setIfInBounds_toArray, List.set_cons_zero, List.set_cons_succ]
                  refine wpAnyG_take (i := 20) (r := [23, 22, 21, 20]) (v := ?_) rfl (by decide +kernel) (by decide +kernel) (by decide +kernel) (by decide +kernel) (by decide +kernel) (fun _ _ _ h => h) hS0 (Or.inl ⟨by rfl, ?_⟩) ?_
                  rotate_left
                  · intro V hSw
                    try dsimp only at hSw
                    go_simp
                    try with_reducible rfl
                  try simp only [Act.put, List.setIfInBounds_toArray, List.set_cons_zero, List.set_cons_succ]
                  refine wpAnyG_take (i := 21) (r := [23, 22, 21]) (v := ?_) rfl (by decide +kernel) (by decide +kernel) (by decide +kernel) (by decide +kernel) (by decide +kernel) (fun _ _ _ h => h) hS0 (Or.inl ⟨by rfl, ?_⟩) ?_
                  rotate_left
                  · intro V hSw
                    try dsimp only at hSw
                    go_simp
                    try with_reducible rfl
                  try simp only [Act.put, List.setIfInBounds_toArray, List.set_cons_zero, List.set_cons_succ]
                  refine wpAnyG_one (i := 22) rfl (by decide +kernel) rfl (fun K hK => ?_)
                  go_simp
                  refine hK.out _ _ (fun _ => ?_) ?_
                  · obtain ⟨q0, q1, q2, q3, q4, q5⟩ := HS1.out _ ((Below.refl w2.heap.size w2).alloc (Nat.le_refl _) _).drew
                    exact ⟨q0, q1, q2, q3, q4, q5, HRA.out.c4⟩
                  clear hK K
                  try simp only [Act.put, List.setIfInBounds_toArray, List.set_cons_zero, List.set_cons_succ]
                  refine wpAnyG_one (i := 23) rfl (by decide +kernel) rfl (fun K hK => ?_)
                  refine step_append_lies _ rfl (.tmp 50) (.tmp 71) 36 rfl (w.heap.size + 2) 51 iR _ 6 48 Tryz.underlying36 hi hz0 hz1 hz2 rfl (by decide) (.slice A m cc) m (cellsR (nthR L) m) (by simp [Act.eval, Act.put]) HOA.out ⟨w2.heap.size, 0, none⟩ 1 1 (⟨z0, z1, z2, z3, z4, false⟩ : RuleL).cells (by simp [Act.eval, Act.put]) rfl HNW.out HONE.out (by decide) HQ.out.1 HQ.out.2.1 HQ.out.2.2 _ rfl ?_
                  intro g9 cap9 w9 hown hgrow hat hlt
                  have HOW := Lib.hid hown
                  have HGR := Lib.hid hgrow
                  have R9 := HRA.out.grown hgrow HOA.out (by omega)
                  have HR9 := Lib.hid R9
                  obtain ⟨y0, y1, y2, y3, y4, y5, y6, y7, y8, y9, y10, y11, yf⟩ := R9
                  have yf4 := yf 4
                  have yl := cell_lt y0
                  have hS9 := And.intro (HSG.out _ hgrow).1 (And.intro (HSG.out _ hgrow).2.1 (And.intro (HSG.out _ hgrow).2.2.1 (And.intro (HSG.out _ hgrow).2.2.2.1 (And.intro (HSG.out _ hgrow).2.2.2.2.1 (And.intro (HSG.out _ hgrow).2.2.2.2.2 y4)))))
                  refine hK.out _ _ (fun _ => hS9) ?_
                  clear hK K
                  try simp only [Act.put, List.setIfInBounds_toArray, List.set_cons_zero, List.set_cons_succ]
                  refine wpAnyG_take (i := 24) (r := [24]) (v := ?_) rfl (by decide +kernel) (by decide +kernel) (by decide +kernel) (by decide +kernel) (by decide +kernel) (fun _ _ _ h => h) hS9 (Or.inl ⟨by rfl, ?_⟩) ?_
                  rotate_left
                  · intro V hSw
                    try dsimp only at hSw
                    go_simp
                    try with_reducible rfl
                  try simp only [Act.put, List.setIfInBounds_toArray, List.set_cons_zero, List.set_cons_succ]
                  refine wpAnyG_one (i := 25) rfl (by decide +kernel) rfl (fun K hK => ?_)
                  go_simp
                  refine hK.out _ _ (fun h => absurd rfl h) ?_
                  clear hK K
                  refine wpAnyG_done (by kernel_rfl) ?_ _
                  all_goals clear hi5 hi5' hge6 hp
                  all_goals have hS6 := HS6.out
                  all_goals
                    go_wp2_with fail
                  all_goals
                    refine ⟨⟨off6, n2 - 6, c2 - 6, m + 1, ys2, L ++ [(⟨z0, z1, z2, z3, z4, false⟩ : RuleL)], some ⟨g9, 0, none⟩, cap9, rfl, HNB.out.1, ⟨HNB.out.2.1, HNB.out.2.2.1, HNB.out.2.2.2.1⟩, HSY.out, HRN.out, ?_, ?_, ?_, ?_⟩, ?_⟩
                    · exact (HZA.out.grown HGR.out HOA.out (by omega)).far (by show w.heap.size ≠ w.heap.size + 1; omega) _
                    · exact HR9.out.set
                    · have hcl : cellsR (nthR (L ++ [(⟨z0, z1, z2, z3, z4, false⟩ : RuleL)])) (m + 1) = cellsR (nthR L) m ++ (⟨z0, z1, z2, z3, z4, false⟩ : RuleL).cells := by
                        have := nthR_snoc L ⟨z0, z1, z2, z3, z4, false⟩
                        rw [HL.out.2.1] at this
                        exact this
                      show World.ownsRow _ _ _ _ _ _ _
                      rw [hcl]
                      exact own_set HOW.out (by show w.heap.size + 1 < w.heap.size + 2; omega)
                    · exact (HBA.out.grown HGR.out HBA.out.size (fun j hj => by have := (World.ownsRow.lt HOA.out j hj).1; omega)).setCell (by show w.heap.size ≤ w.heap.size + 1; omega) _
                    · have h9 := HNB.out.2.2.2.2
                      exact h9
              · have HRF := Lib.hid (show R = none from by
                  rw [HRR.out]
                  show Option.map _ (rulesOf (_ :: _ :: _ :: _ :: _ :: s5.data.toList :: _)) = none
                  rw [rulesOf_six, rule_none hz]
                  rfl)
                clear hz
                obtain ⟨x0, x1, x2, x3, x4, x5, x6, x7, x8, x9, x10, x11, xf⟩ := HRO4.out
                have xl := cell_lt x0
                obtain ⟨u0, u1, u2, u3, u4, u5, u6, u7, u8, u9, u10, u11, uf⟩ := HZ4.out
                have v0 := uf 0
                have v1 := uf 1
                have v2 := uf 2
                have v3 := uf 3
                have v4 := uf 4
                have v5 := uf 5
                have v6 := uf 6
                have v7 := uf 7
                have v8 := uf 8
                have v9 := uf 9
                have v10 := uf 10
                have v11 := uf 11
                have hul := cell_lt u0
                clear uf
                go_wp2_with fail
                refine bodyPost_ret (v := .tuple #[(opRules L).v ⟨A, cc, At.none⟩, .bool false]) (by simp [results, Tryz.results104, go_sem, u0, u1, u2, u3, u4, u5, u6, u7, u8, u9, u10, u11, v0, v1, v2, v3, v4, v5, v6, v7, v8, v9, v10, v11, opRules, who0, RecL.zero, At.none, fld0, HL.out.2.1]) rfl ?_
                have hBX := HB4.out
                exact ⟨opRules L, ⟨A, cc, At.none⟩, by rw [HRF.out]; rfl, fun q hq => (by rw [HRF.out] at hq; cases hq), by go_grown⟩
            | false =>
              have HRF := Lib.hid (show R = none from by
                rw [HRR.out]
                show Option.map _ (rulesOf (_ :: _ :: _ :: _ :: _ :: s5.data.toList :: _)) = none
                rw [rulesOf_six, ruleOf_word (of_decide_eq_false HBY.out) (of_decide_eq_false HBN.out)]
                rfl)
              obtain ⟨x0, x1, x2, x3, x4, x5, x6, x7, x8, x9, x10, x11, xf⟩ := HRO3.out
              have xl := cell_lt x0
              obtain ⟨u0, u1, u2, u3, u4, u5, u6, u7, u8, u9, u10, u11, uf⟩ := HZ3.out
              have v0 := uf 0
              have v1 := uf 1
              have v2 := uf 2
              have v3 := uf 3
              have v4 := uf 4
              have v5 := uf 5
              have v6 := uf 6
              have v7 := uf 7
              have v8 := uf 8
              have v9 := uf 9
              have v10 := uf 10
              have v11 := uf 11
              have hul := cell_lt u0
              clear uf
              go_wp2_with fail
              refine bodyPost_ret (v := .tuple #[(opRules L).v ⟨A, cc, At.none⟩, .bool false]) (by simp [results, Tryz.results104, go_sem, u0, u1, u2, u3, u4, u5, u6, u7, u8, u9, u10, u11, v0, v1, v2, v3, v4, v5, v6, v7, v8, v9, v10, v11, opRules, who0, RecL.zero, At.none, fld0, HL.out.2.1]) rfl ?_
              have hBX := HB3.out
              exact ⟨opRules L, ⟨A, cc, At.none⟩, by rw [HRF.out]; rfl, fun q hq => (by rw [HRF.out] at hq; cases hq), by go_grown⟩
        | [], HL, _, _ => exact absurd HL.out.1 (by intro k; exact h0 k.symm)
        | [_], HL, _, _ => exact absurd HL.out.1 (by intro k; have k2 : 1 = n2 := k; omega)
        | [_, _], HL, _, _ => exact absurd HL.out.1 (by intro k; have k2 : 2 = n2 := k; omega)
        | [_, _, _], HL, _, _ => exact absurd HL.out.1 (by intro k; have k2 : 3 = n2 := k; omega)
        | [_, _, _, _], HL, _, _ => exact absurd HL.out.1 (by intro k; have k2 : 4 = n2 := k; omega)
        | [_, _, _, _, _], HL, _, _ => exact absurd HL.out.1 (by intro k; have k2 : 5 = n2 := k; omega)

theorem win_at (g o c : Nat) (h : 5 ≤ c) : ∀ W : World, (Instr.slice 29 (.slice (some ⟨g, o, none⟩) 5 c) (some (.int .i64 1)) (some (.int .i64 4)) none).run Tryz.prog W = .ok (.slice (some ⟨g, o + 1, none⟩) 3 (c - 1 : Nat)) W := fun W =>
  by
  have ht : Tryz.prog.underlying 29 = some (.slice 9) := Tryz.underlying29
  have ht' : Tryz.prog.underlying 29 = some (.slice (Tryz.prog.elem 29)) := by simp [Program.elem, ht]
  have he : Tryz.prog.elem 29 = 9 := by simp [Program.elem, ht]
  rw [run_slice_lh W _ _ _ _ ht' .i64 .i64 1 4 (by omega) (by omega) (by omega), he, Tryz.sizeOf9]
  have hne : ¬ c = 1 := by omega
  simp [Result.andThen, sliced, Addr.add, hne]
theorem win_at6 (g o c : Nat) (h : 6 ≤ c) : ∀ W : World, (Instr.slice 29 (.slice (some ⟨g, o, none⟩) 6 c) (some (.int .i64 1)) (some (.int .i64 4)) none).run Tryz.prog W = .ok (.slice (some ⟨g, o + 1, none⟩) 3 (c - 1 : Nat)) W := fun W =>
  by
  have ht : Tryz.prog.underlying 29 = some (.slice 9) := Tryz.underlying29
  have ht' : Tryz.prog.underlying 29 = some (.slice (Tryz.prog.elem 29)) := by simp [Program.elem, ht]
  have he : Tryz.prog.elem 29 = 9 := by simp [Program.elem, ht]
  rw [run_slice_lh W _ _ _ _ ht' .i64 .i64 1 4 (by omega) (by omega) (by omega), he, Tryz.sizeOf9]
  have hne : ¬ c = 1 := by omega
  simp [Result.andThen, sliced, Addr.add, hne]

/-- an operation that is being put together from who asks, at block b -/
structure CO2 (b : Nat) (z0 z1 z2 kd : Int) (id : ByteArray) (ct : Int) (w : World) : Prop where
  c0 : w.cell? ⟨b, 0, none⟩ = some (.int .i64 kd)
  c1 : w.cell? ⟨b, 1, none⟩ = some (.int .i64 z0)
  c2 : w.cell? ⟨b, 2, none⟩ = some (.int .i64 z1)
  c3 : w.cell? ⟨b, 3, none⟩ = some (.int .i64 z2)
  c4 : w.cell? ⟨b, 4, none⟩ = some (.slice none 0 0)
  c5 : w.cell? ⟨b, 5, none⟩ = some (.string ⟨#[]⟩)
  c6 : w.cell? ⟨b, 6, none⟩ = some (.int .i64 ct)
  c7 : w.cell? ⟨b, 7, none⟩ = some (.slice none 0 0)
  c8 : w.cell? ⟨b, 8, none⟩ = some (.slice none 0 0)
  c9 : w.cell? ⟨b, 9, none⟩ = some (.string id)
  c10 : w.cell? ⟨b, 10, none⟩ = some (.string ⟨#[]⟩)
  c11 : w.cell? ⟨b, 11, none⟩ = some (.string ⟨#[]⟩)
  f : ∀ k, w.frozen? ⟨b, k, none⟩ = false
set_option maxHeartbeats 8000000 in
theorem said_put (g o c : Nat) (x0 s1 s2 s3 s4 : ByteArray) (w : World) (hE : Env w) (hs : SlS w (some ⟨g, o, none⟩) [x0, s1, s2, s3, s4]) (hc : 5 ≤ c) (h4 : s4.size < 4294967281) (t0 : (x0.toList == [114, 117, 108, 101, 115]) = false) (t1 : (x0.toList == [112, 117, 116]) = true) {R : Option OpL} (hR : putW [s1.data.toList, s2.data.toList, s3.data.toList, s4.data.toList] = R) :
    Calls Tryz.prog 104 #[.slice (some ⟨g, o, none⟩) 5 c] w (SaidTo R w) := by
  have hA : Below w.heap.size w (w.alloc (.cells #[.int .i64 0, .int .i64 0, .int .i64 0, .int .i64 0, .slice none 0 0, .string ⟨#[]⟩, .int .i64 0, .slice none 0 0, .slice none 0 0, .string ⟨#[]⟩, .string ⟨#[]⟩, .string ⟨#[]⟩] 43)) := (Below.refl _ _).alloc (Nat.le_refl _) _
  obtain ⟨W, hW⟩ : ∃ W, w.alloc (.cells #[.int .i64 0, .int .i64 0, .int .i64 0, .int .i64 0, .slice none 0 0, .string ⟨#[]⟩, .int .i64 0, .slice none 0 0, .slice none 0 0, .string ⟨#[]⟩, .string ⟨#[]⟩, .string ⟨#[]⟩] 43) = W := ⟨_, rfl⟩
  rw [hW] at hA
  have HZ : Hid (Zero12 w.heap.size W) := by rw [← hW]; exact Zero12.made w
  have HS := Lib.hid (hs.below hA)
  obtain ⟨_, _, e0, d0⟩ := HS.out 0 x0 rfl
  cases e0
  rw [Nat.add_zero] at d0
  have HNU := Lib.hid (refNums_any (some ⟨g, o + 1, none⟩) [s1, s2, s3] 3 (c - 1) W (fun k s hk => by
    match k, hk with
    | 0, hk => cases hk; exact HS.out.at1 0 s1 rfl
    | 1, hk => cases hk; exact HS.out.at1 1 s2 rfl
    | 2, hk => cases hk; exact HS.out.at1 2 s3 rfl
    | k + 3, hk => simp at hk) rfl (by omega))
  have hwin := win_at g o c hc
  obtain ⟨c1, hc1⟩ : ∃ c1, c - 1 = c1 := ⟨_, rfl⟩
  rw [hc1] at hwin HNU
  have HA := Lib.hid hA
  have HE := Lib.hid (hE.below hA)
  have HW := Lib.hid hW
  have HR := Lib.hid hR
  have H4 := Lib.hid h4
  have dl := cell_lt d0
  clear hs hE hA hW hR hc hc1 h4
  go_enter Tryz.func104, Tryz.ntmps104
  go_upto_region 1 with (fail)
  rw [HW.out]
  go_upto_region 14 with (fail)
  go_wp2_with fail
  refine HNU.out.mono ?_
  rintro e w2 ⟨hnu, hb2⟩
  have HB2 := Lib.hid (HA.out.trans (hb2.mono HA.out.size))
  have HZ2 := Lib.hid (HZ.out.below hb2)
  have HE2 := Lib.hid (HE.out.below hb2)
  have HS2 := Lib.hid (HS.out.below hb2)
  clear hb2 HNU d0 dl hwin
  rcases hnu with ⟨z, A2, cz, hz, hzl, rfl, hsz, hzc, hznew⟩ | ⟨hz, rfl⟩
  · match z, hzl with
    | [z0, z1, z2], _ =>
      obtain ⟨gz, oz, rfl, e0⟩ := hsz 0 (by omega)
      obtain ⟨_, _, ee, e1⟩ := hsz 1 (by omega)
      cases ee
      obtain ⟨_, _, ee, e2⟩ := hsz 2 (by omega)
      cases ee
      rw [Nat.add_zero] at e0
      replace e0 : w2.cell? ⟨gz, oz, none⟩ = some (.int .i64 z0) := e0
      replace e1 : w2.cell? ⟨gz, oz + 1, none⟩ = some (.int .i64 z1) := e1
      replace e2 : w2.cell? ⟨gz, oz + 2, none⟩ = some (.int .i64 z2) := e2
      have el := cell_lt e0
      have HWO := Lib.hid (show whoOf s1.data.toList s2.data.toList s3.data.toList = some ⟨z0, z1, z2⟩ from by
        obtain ⟨q0, q1, q2, hq, hwo⟩ := whoOf_nums hz
        cases hq
        exact hwo)
      clear hsz hzc hznew hz
      go_upto_region 17 with (fail)
      go_region
      obtain ⟨w3, hw3⟩ : ∃ w3, (w2.alloc (.cells #[.int .i64 2, .int .i64 z0, .int .i64 z1, .int .i64 z2, .slice none 0 0, .string ⟨#[]⟩, .int .i64 0, .slice none 0 0, .slice none 0 0, .string ⟨#[]⟩, .string ⟨#[]⟩, .string ⟨#[]⟩] 43)).drew = w3 := ⟨_, rfl⟩
      have h23 : Below w2.heap.size w2 w3 := hw3 ▸ ((Below.refl _ _).alloc (Nat.le_refl _) _).drew
      have HB23 := Lib.hid h23
      have HK3 := Lib.hid (show CO2 w2.heap.size z0 z1 z2 2 ⟨#[]⟩ 0 w3 from by rw [← hw3]; constructor <;> simp [go_sem])
      have HB3 := Lib.hid (HB2.out.trans (h23.mono HB2.out.size))
      have HZ3 := Lib.hid (HZ2.out.below h23)
      have HE3 := Lib.hid (HE2.out.below h23)
      have HS3 := Lib.hid (HS2.out.below h23)
      rw [hw3]
      obtain ⟨_, _, ee, d0⟩ := HS3.out 0 x0 rfl
      cases ee
      obtain ⟨_, _, ee, d4⟩ := HS3.out 4 s4 rfl
      cases ee
      rw [Nat.add_zero] at d0
      have dl := cell_lt d0
      have hne := Lib.hid (show w.heap.size ≠ w2.heap.size from by have := cell_lt HZ2.out.c0; omega)
      obtain ⟨k0, k1, k2, k3, k4, k5, k6, k7, k8, k9, k10, k11, kf⟩ := HK3.out
      have kl := cell_lt k0
      have kf0 := kf 0
      have HGN := Lib.hid (show g ≠ w2.heap.size from by
        obtain ⟨_, _, ee, q0⟩ := HS2.out 0 x0 rfl
        cases ee
        have := cell_lt q0
        omega)
      have hgn := HGN.out
      have HRD := Lib.hid (refRead_new s4 w3 HE3.out H4.out)
      obtain ⟨RR, hRR⟩ : ∃ RR, rdRec s4.data.toList = RR := ⟨_, rfl⟩
      obtain ⟨er, her⟩ : ∃ er, rdErr s4.data.toList = er := ⟨_, rfl⟩
      unfold ReadNew at HRD
      rw [hRR, her] at HRD
      have HIS := Lib.hid (show R.isSome = decide (er = 0) from by
        rw [← HR.out, putW_is, HWO.out, her]
        rfl)
      have HSOME := Lib.hid (show ∀ q, R = some q → q = opPut ⟨z0, z1, z2⟩ RR ∧ RR.Ok from fun q hq => by
        have := putW_some (HR.out.trans hq)
        rw [HWO.out, hRR] at this
        exact this)
      clear hRR her hw3 h23 e0 e1 e2 el
      go_upto_region 19 with (fail)
      clear d0
      go_wp2_with fail
      refine HRD.out.mono ?_
      rintro e w4 ⟨p', rfl, hi4, hb4, hpf⟩
      have HB4 := Lib.hid (HB3.out.trans (hb4.mono HB3.out.size))
      have HZ4 := Lib.hid (HZ3.out.below hb4)
      obtain ⟨hc4, hf4⟩ := bcell hb4
      have HK4 := Lib.hid (show CO2 w2.heap.size z0 z1 z2 2 ⟨#[]⟩ 0 w4 from ⟨(hc4 _ _ kl).trans k0, (hc4 _ _ kl).trans k1, (hc4 _ _ kl).trans k2, (hc4 _ _ kl).trans k3, (hc4 _ _ kl).trans k4, (hc4 _ _ kl).trans k5, (hc4 _ _ kl).trans k6, (hc4 _ _ kl).trans k7, (hc4 _ _ kl).trans k8, (hc4 _ _ kl).trans k9, (hc4 _ _ kl).trans k10, (hc4 _ _ kl).trans k11, fun k => (hf4 _ _ kl).trans (kf k)⟩)
      have HPF := Lib.hid (show ∀ b off, (p'.fa = some ⟨b, off, none⟩ ∨ p'.ra = some ⟨b, off, none⟩) → w2.heap.size < b ∧ w.heap.size < b from fun b off h => by
        have h1 := HB2.out.size
        rcases h with h | h
        · have := hpf.1 b off h
          omega
        · have := hpf.2 b off h
          omega)
      have HI4 := Lib.hid hi4
      obtain ⟨w5, hw5⟩ : ∃ w5, w4.alloc (.cells #[.string RR.id, .int .i64 RR.cats, .slice p'.fa RR.fs.length p'.fc, .slice p'.ra RR.rs.length p'.rc] 39) = w5 := ⟨_, rfl⟩
      have h45 : Below w4.heap.size w4 w5 := hw5 ▸ (Below.refl _ _).alloc (Nat.le_refl _) _
      have r0 : w5.cell? ⟨w4.heap.size, 0, none⟩ = some (.string RR.id) := by rw [← hw5]; simp [go_sem]
      have r1 : w5.cell? ⟨w4.heap.size, 1, none⟩ = some (.int .i64 RR.cats) := by rw [← hw5]; simp [go_sem]
      have r2 : w5.cell? ⟨w4.heap.size, 2, none⟩ = some (.slice p'.fa RR.fs.length p'.fc) := by rw [← hw5]; simp [go_sem]
      have r3 : w5.cell? ⟨w4.heap.size, 3, none⟩ = some (.slice p'.ra RR.rs.length p'.rc) := by rw [← hw5]; simp [go_sem]
      have HB5 := Lib.hid (HB4.out.trans (h45.mono HB4.out.size))
      have HZ5 := Lib.hid (HZ4.out.below h45)
      have HI5 := Lib.hid (HI4.out.below h45)
      obtain ⟨hc5, hf5⟩ := bcell h45
      have hl4 := cell_lt HK4.out.c0
      have HK5 := Lib.hid (show CO2 w2.heap.size z0 z1 z2 2 ⟨#[]⟩ 0 w5 from ⟨(hc5 _ _ hl4).trans HK4.out.c0, (hc5 _ _ hl4).trans HK4.out.c1, (hc5 _ _ hl4).trans HK4.out.c2, (hc5 _ _ hl4).trans HK4.out.c3, (hc5 _ _ hl4).trans HK4.out.c4, (hc5 _ _ hl4).trans HK4.out.c5, (hc5 _ _ hl4).trans HK4.out.c6, (hc5 _ _ hl4).trans HK4.out.c7, (hc5 _ _ hl4).trans HK4.out.c8, (hc5 _ _ hl4).trans HK4.out.c9, (hc5 _ _ hl4).trans HK4.out.c10, (hc5 _ _ hl4).trans HK4.out.c11, fun k => (hf5 _ _ hl4).trans (HK4.out.f k)⟩)
      have HW5 := Lib.hid hw5
      clear hw5 h45 hc5 hf5 hl4 hc4 hf4 hi4 hb4 hpf k0 k1 k2 k3 k4 k5 k6 k7 k8 k9 k10 k11 kf kl kf0 HRD dl d4
      obtain ⟨k0, k1, k2, k3, k4, k5, k6, k7, k8, k9, k10, k11, kf⟩ := HK5.out
      have kl := cell_lt k0
      have kf5 := kf 5
      have kf6 := kf 6
      have kf7 := kf 7
      have kf8 := kf 8
      obtain ⟨u0, u1, u2, u3, u4, u5, u6, u7, u8, u9, u10, u11, uf⟩ := HZ5.out
      have v0 := uf 0
      have v1 := uf 1
      have v2 := uf 2
      have v3 := uf 3
      have v4 := uf 4
      have v5 := uf 5
      have v6 := uf 6
      have v7 := uf 7
      have v8 := uf 8
      have v9 := uf 9
      have v10 := uf 10
      have v11 := uf 11
      have hul := cell_lt u0
      clear uf
      have hne2 := hne.out
      have hZL := HB2.out.size
      obtain ⟨bq, hbq⟩ : ∃ bq, (er == 0) = bq := ⟨_, rfl⟩
      have HBQ := Lib.hid (show R.isSome = bq from by rw [HIS.out, ← hbq]; by_cases h : er = 0 <;> simp [h])
      go_upto_region 20 with (fail)
      rw [HW5.out]
      go_wp2_with fail
      refine bodyPost_ret (v := .tuple #[(opPut ⟨z0, z1, z2⟩ RR).v ⟨none, 0, p'⟩, .bool bq]) (by simp [results, Tryz.results104, go_sem, u0, u1, u2, u3, u4, u5, u6, u7, u8, u9, u10, u11, v0, v1, v2, v3, v4, v5, v6, v7, v8, v9, v10, v11, opPut, fld0, hbq]) rfl ?_
      have hBX := HB5.out
      refine ⟨opPut ⟨z0, z1, z2⟩ RR, ⟨none, 0, p'⟩, by rw [HBQ.out], fun q hq => ?_, by go_grown⟩
      obtain ⟨rfl, hok⟩ := HSOME.out q hq
      refine ⟨rfl, opPut_in ?_ hok, fun b off h => (by
        rcases h with h | h | h
        · cases h
        · exact Nat.le_of_lt (HPF.out b off (.inl h)).2
        · exact Nat.le_of_lt (HPF.out b off (.inr h)).2)⟩
      iterate 12 refine RecL.in_.far ?_ (fun b off h => Nat.ne_of_gt (HPF.out b off h).2) _
      iterate 4 refine RecL.in_.far ?_ (fun b off h => Nat.ne_of_gt (HPF.out b off h).1) _
      exact HI5.out
  · have HRF := Lib.hid (show R = none from by
      rw [← HR.out]
      show (match whoOf _ _ _, recOf _ with
        | some x, some q => some (opPut x q)
        | _, _ => none) = none
      rw [whoOf_none hz])
    clear hz
    obtain ⟨u0, u1, u2, u3, u4, u5, u6, u7, u8, u9, u10, u11, uf⟩ := HZ2.out
    have v0 := uf 0
    have v1 := uf 1
    have v2 := uf 2
    have v3 := uf 3
    have v4 := uf 4
    have v5 := uf 5
    have v6 := uf 6
    have v7 := uf 7
    have v8 := uf 8
    have v9 := uf 9
    have v10 := uf 10
    have v11 := uf 11
    have hul := cell_lt u0
    clear uf
    go_wp2_with fail
    refine bodyPost_ret (v := .tuple #[OpL.zero.v ⟨none, 0, At.none⟩, .bool false]) (by simp [results, Tryz.results104, go_sem, u0, u1, u2, u3, u4, u5, u6, u7, u8, u9, u10, u11, v0, v1, v2, v3, v4, v5, v6, v7, v8, v9, v10, v11, OpL.zero, RecL.zero, At.none, fld0, who0]) rfl ?_
    have hBX := HB2.out
    exact ⟨OpL.zero, ⟨none, 0, At.none⟩, by rw [HRF.out]; rfl, fun q hq => (by rw [HRF.out] at hq; cases hq), by go_grown⟩

set_option maxHeartbeats 8000000 in
theorem said_cut (g o c : Nat) (x0 s1 s2 s3 s4 s5 : ByteArray) (w : World) (hE : Env w) (hs : SlS w (some ⟨g, o, none⟩) [x0, s1, s2, s3, s4, s5]) (hc : 6 ≤ c) (t0 : (x0.toList == [114, 117, 108, 101, 115]) = false) (t1 : (x0.toList == [112, 117, 116]) = false) (t2 : (x0.toList == [99, 117, 116]) = true) {R : Option OpL} (hR : cutW [s1.data.toList, s2.data.toList, s3.data.toList, s4.data.toList, s5.data.toList] = R) :
    Calls Tryz.prog 104 #[.slice (some ⟨g, o, none⟩) 6 c] w (SaidTo R w) := by
  have hA : Below w.heap.size w (w.alloc (.cells #[.int .i64 0, .int .i64 0, .int .i64 0, .int .i64 0, .slice none 0 0, .string ⟨#[]⟩, .int .i64 0, .slice none 0 0, .slice none 0 0, .string ⟨#[]⟩, .string ⟨#[]⟩, .string ⟨#[]⟩] 43)) := (Below.refl _ _).alloc (Nat.le_refl _) _
  obtain ⟨W, hW⟩ : ∃ W, w.alloc (.cells #[.int .i64 0, .int .i64 0, .int .i64 0, .int .i64 0, .slice none 0 0, .string ⟨#[]⟩, .int .i64 0, .slice none 0 0, .slice none 0 0, .string ⟨#[]⟩, .string ⟨#[]⟩, .string ⟨#[]⟩] 43) = W := ⟨_, rfl⟩
  rw [hW] at hA
  have HZ : Hid (Zero12 w.heap.size W) := by rw [← hW]; exact Zero12.made w
  have HS := Lib.hid (hs.below hA)
  obtain ⟨_, _, e0, d0⟩ := HS.out 0 x0 rfl
  cases e0
  rw [Nat.add_zero] at d0
  have HNU := Lib.hid (refNums_any (some ⟨g, o + 1, none⟩) [s1, s2, s3] 3 (c - 1) W (fun k s hk => by
    match k, hk with
    | 0, hk => cases hk; exact HS.out.at1 0 s1 rfl
    | 1, hk => cases hk; exact HS.out.at1 1 s2 rfl
    | 2, hk => cases hk; exact HS.out.at1 2 s3 rfl
    | k + 3, hk => simp at hk) rfl (by omega))
  have hwin := win_at6 g o c hc
  obtain ⟨c1, hc1⟩ : ∃ c1, c - 1 = c1 := ⟨_, rfl⟩
  rw [hc1] at hwin HNU
  have HA := Lib.hid hA
  have HE := Lib.hid (hE.below hA)
  have HW := Lib.hid hW
  have HR := Lib.hid hR
  have dl := cell_lt d0
  clear hs hE hA hW hR hc hc1
  go_enter Tryz.func104, Tryz.ntmps104
  go_upto_region 1 with (fail)
  rw [HW.out]
  go_upto_region 14 with (fail)
  go_wp2_with fail
  refine HNU.out.mono ?_
  rintro e w2 ⟨hnu, hb2⟩
  have HB2 := Lib.hid (HA.out.trans (hb2.mono HA.out.size))
  have HZ2 := Lib.hid (HZ.out.below hb2)
  have HE2 := Lib.hid (HE.out.below hb2)
  have HS2 := Lib.hid (HS.out.below hb2)
  clear hb2 HNU d0 dl hwin
  rcases hnu with ⟨z, A2, cz, hz, hzl, rfl, hsz, hzc, hznew⟩ | ⟨hz, rfl⟩
  · match z, hzl with
    | [z0, z1, z2], _ =>
      obtain ⟨gz, oz, rfl, e0⟩ := hsz 0 (by omega)
      obtain ⟨_, _, ee, e1⟩ := hsz 1 (by omega)
      cases ee
      obtain ⟨_, _, ee, e2⟩ := hsz 2 (by omega)
      cases ee
      rw [Nat.add_zero] at e0
      replace e0 : w2.cell? ⟨gz, oz, none⟩ = some (.int .i64 z0) := e0
      replace e1 : w2.cell? ⟨gz, oz + 1, none⟩ = some (.int .i64 z1) := e1
      replace e2 : w2.cell? ⟨gz, oz + 2, none⟩ = some (.int .i64 z2) := e2
      have el := cell_lt e0
      have HWO := Lib.hid (show whoOf s1.data.toList s2.data.toList s3.data.toList = some ⟨z0, z1, z2⟩ from by
        obtain ⟨q0, q1, q2, hq, hwo⟩ := whoOf_nums hz
        cases hq
        exact hwo)
      clear hsz hzc hznew hz
      go_upto_region 17 with (fail)
      go_region
      obtain ⟨w3, hw3⟩ : ∃ w3, (w2.alloc (.cells #[.int .i64 2, .int .i64 z0, .int .i64 z1, .int .i64 z2, .slice none 0 0, .string ⟨#[]⟩, .int .i64 0, .slice none 0 0, .slice none 0 0, .string ⟨#[]⟩, .string ⟨#[]⟩, .string ⟨#[]⟩] 43)).drew = w3 := ⟨_, rfl⟩
      have h23 : Below w2.heap.size w2 w3 := hw3 ▸ ((Below.refl _ _).alloc (Nat.le_refl _) _).drew
      have HB23 := Lib.hid h23
      have HK3 := Lib.hid (show CO2 w2.heap.size z0 z1 z2 2 ⟨#[]⟩ 0 w3 from by rw [← hw3]; constructor <;> simp [go_sem])
      have HB3 := Lib.hid (HB2.out.trans (h23.mono HB2.out.size))
      have HZ3 := Lib.hid (HZ2.out.below h23)
      have HE3 := Lib.hid (HE2.out.below h23)
      have HS3 := Lib.hid (HS2.out.below h23)
      rw [hw3]
      obtain ⟨_, _, ee, d0⟩ := HS3.out 0 x0 rfl
      cases ee
      obtain ⟨_, _, ee, d4⟩ := HS3.out 4 s4 rfl
      cases ee
      obtain ⟨_, _, ee, d5⟩ := HS3.out 5 s5 rfl
      cases ee
      rw [Nat.add_zero] at d0
      have dl := cell_lt d0
      have hne := Lib.hid (show w.heap.size ≠ w2.heap.size from by have := cell_lt HZ2.out.c0; omega)
      obtain ⟨k0, k1, k2, k3, k4, k5, k6, k7, k8, k9, k10, k11, kf⟩ := HK3.out
      have kl := cell_lt k0
      have kf0 := kf 0
      have kf9 := kf 9
      have HGN := Lib.hid (show g ≠ w2.heap.size from by
        obtain ⟨_, _, ee, q0⟩ := HS2.out 0 x0 rfl
        cases ee
        have := cell_lt q0
        omega)
      have hgn := HGN.out
      clear hw3 h23 e0 e1 e2 el
      go_upto_region 22 with (fail)
      go_region
      obtain ⟨w4, hw4⟩ : ∃ w4, ((w3.setCell ⟨w2.heap.size, 0, none⟩ (.int .i64 3)).setCell ⟨w2.heap.size, 9, none⟩ (.string s4)).drew = w4 := ⟨_, rfl⟩
      have hb34 : Below w2.heap.size w2 w4 := by
        have h := HB23.out
        rw [← hw4]
        exact ((h.setCell (Nat.le_refl _) _).setCell (Nat.le_refl _) _).drew
      have HK4 := Lib.hid (show CO2 w2.heap.size z0 z1 z2 3 s4 0 w4 from by
        rw [← hw4]
        constructor <;> simp [go_sem, k0, k1, k2, k3, k4, k5, k6, k7, k8, k9, k10, k11, kf])
      have HB4 := Lib.hid (HB2.out.trans (hb34.mono HB2.out.size))
      have HZ4 := Lib.hid (HZ2.out.below hb34)
      have HE4 := Lib.hid (HE2.out.below hb34)
      have HS4 := Lib.hid (HS2.out.below hb34)
      rw [hw4]
      clear hw4 hb34 k0 k1 k2 k3 k4 k5 k6 k7 k8 k9 k10 k11 kf kl kf0 kf9 d0 dl d4 d5
      obtain ⟨_, _, ee, d5⟩ := HS4.out 5 s5 rfl
      cases ee
      have dl := cell_lt d5
      obtain ⟨M, hM⟩ : ∃ M, numL s5.data.toList = M := ⟨_, rfl⟩
      have hnum := refNum_any s5 w4
      unfold NumTo at hnum
      rw [hM] at hnum
      have HNUM := Lib.hid hnum
      have HM := Lib.hid hM
      have HRS := Lib.hid (show R.isSome = M.isSome ∧ ∀ q, M = some q → R = some (opCut ⟨z0, z1, z2⟩ s4 q) from by
        rw [← HR.out]
        have e : cutW [s1.data.toList, s2.data.toList, s3.data.toList, s4.data.toList, s5.data.toList] = match whoOf s1.data.toList s2.data.toList s3.data.toList, numL s5.data.toList with
            | some x, some q => some (opCut x (bs s4.data.toList) q)
            | _, _ => none := rfl
        rw [e, HWO.out, hM]
        cases M with
        | none => exact ⟨rfl, fun q h => by cases h⟩
        | some q2 => exact ⟨rfl, fun q h => by cases h; rw [bs_data]⟩)
      clear hnum hM
      go_wp2_with fail
      refine HNUM.out.mono ?_
      rintro e w5 ⟨⟨nv, rfl, hnv⟩, hb5⟩
      have HNV := Lib.hid hnv
      have HB5 := Lib.hid (HB4.out.trans (hb5.mono HB4.out.size))
      have HZ5 := Lib.hid (HZ4.out.below hb5)
      obtain ⟨hc5, hf5⟩ := bcell hb5
      have hl4 := cell_lt HK4.out.c0
      have HK5 := Lib.hid (show CO2 w2.heap.size z0 z1 z2 3 s4 0 w5 from ⟨(hc5 _ _ hl4).trans HK4.out.c0, (hc5 _ _ hl4).trans HK4.out.c1, (hc5 _ _ hl4).trans HK4.out.c2, (hc5 _ _ hl4).trans HK4.out.c3, (hc5 _ _ hl4).trans HK4.out.c4, (hc5 _ _ hl4).trans HK4.out.c5, (hc5 _ _ hl4).trans HK4.out.c6, (hc5 _ _ hl4).trans HK4.out.c7, (hc5 _ _ hl4).trans HK4.out.c8, (hc5 _ _ hl4).trans HK4.out.c9, (hc5 _ _ hl4).trans HK4.out.c10, (hc5 _ _ hl4).trans HK4.out.c11, fun k => (hf5 _ _ hl4).trans (HK4.out.f k)⟩)
      clear hnv hb5 hc5 hf5 hl4 d5 dl HNUM
      obtain ⟨k0, k1, k2, k3, k4, k5, k6, k7, k8, k9, k10, k11, kf⟩ := HK5.out
      have kl := cell_lt k0
      have kf6 := kf 6
      obtain ⟨u0, u1, u2, u3, u4, u5, u6, u7, u8, u9, u10, u11, uf⟩ := HZ5.out
      have v0 := uf 0
      have v1 := uf 1
      have v2 := uf 2
      have v3 := uf 3
      have v4 := uf 4
      have v5 := uf 5
      have v6 := uf 6
      have v7 := uf 7
      have v8 := uf 8
      have v9 := uf 9
      have v10 := uf 10
      have v11 := uf 11
      have hul := cell_lt u0
      clear uf
      have hne2 := hne.out
      go_wp2_with fail
      refine bodyPost_ret (v := .tuple #[(opCut ⟨z0, z1, z2⟩ s4 nv).v ⟨none, 0, At.none⟩, .bool M.isSome]) (by simp [results, Tryz.results104, go_sem, u0, u1, u2, u3, u4, u5, u6, u7, u8, u9, u10, u11, v0, v1, v2, v3, v4, v5, v6, v7, v8, v9, v10, v11, opCut, At.none, fld0]) rfl ?_
      have hBX := HB5.out
      have hZL := HB2.out.size
      refine ⟨opCut ⟨z0, z1, z2⟩ s4 nv, ⟨none, 0, At.none⟩, by rw [HRS.out.1], fun q hq => ?_, by go_grown⟩
      cases M with
      | none =>
        have h := HRS.out.1
        rw [hq] at h
        cases h
      | some q2 =>
        have h := HRS.out.2 q2 rfl
        rw [hq] at h
        cases h
        obtain rfl := HNV.out q2 rfl
        exact ⟨rfl, opCut_in _, OpP.none_from _⟩
  · have HRF := Lib.hid (show R = none from by
      rw [← HR.out]
      show (match whoOf _ _ _, numL _ with
        | some x, some q => some (opCut x (bs s4.data.toList) q)
        | _, _ => none) = none
      rw [whoOf_none hz])
    clear hz
    obtain ⟨u0, u1, u2, u3, u4, u5, u6, u7, u8, u9, u10, u11, uf⟩ := HZ2.out
    have v0 := uf 0
    have v1 := uf 1
    have v2 := uf 2
    have v3 := uf 3
    have v4 := uf 4
    have v5 := uf 5
    have v6 := uf 6
    have v7 := uf 7
    have v8 := uf 8
    have v9 := uf 9
    have v10 := uf 10
    have v11 := uf 11
    have hul := cell_lt u0
    clear uf
    go_wp2_with fail
    refine bodyPost_ret (v := .tuple #[OpL.zero.v ⟨none, 0, At.none⟩, .bool false]) (by simp [results, Tryz.results104, go_sem, u0, u1, u2, u3, u4, u5, u6, u7, u8, u9, u10, u11, v0, v1, v2, v3, v4, v5, v6, v7, v8, v9, v10, v11, OpL.zero, RecL.zero, At.none, fld0, who0]) rfl ?_
    have hBX := HB2.out
    exact ⟨OpL.zero, ⟨none, 0, At.none⟩, by rw [HRF.out]; rfl, fun q hq => (by rw [HRF.out] at hq; cases hq), by go_grown⟩

set_option maxHeartbeats 4000000 in
theorem said_no (g o c n : Nat) (x0 : ByteArray) (w : World) (hd0 : w.cell? ⟨g, o, none⟩ = some (.string x0)) (hn : 1 ≤ n) {b1 b2 : Bool} (t0 : (x0.toList == [114, 117, 108, 101, 115]) = false) (t1 : (x0.toList == [112, 117, 116]) = b1) (t2 : (x0.toList == [99, 117, 116]) = b2) (h5 : b1 = true → n ≠ 5) (h6 : b2 = true → n ≠ 6) :
    Calls Tryz.prog 104 #[.slice (some ⟨g, o, none⟩) n c] w (SaidTo none w) := by
  have hA : Below w.heap.size w (w.alloc (.cells #[.int .i64 0, .int .i64 0, .int .i64 0, .int .i64 0, .slice none 0 0, .string ⟨#[]⟩, .int .i64 0, .slice none 0 0, .slice none 0 0, .string ⟨#[]⟩, .string ⟨#[]⟩, .string ⟨#[]⟩] 43)) := (Below.refl _ _).alloc (Nat.le_refl _) _
  obtain ⟨W, hW⟩ : ∃ W, w.alloc (.cells #[.int .i64 0, .int .i64 0, .int .i64 0, .int .i64 0, .slice none 0 0, .string ⟨#[]⟩, .int .i64 0, .slice none 0 0, .slice none 0 0, .string ⟨#[]⟩, .string ⟨#[]⟩, .string ⟨#[]⟩] 43) = W := ⟨_, rfl⟩
  rw [hW] at hA
  have HZ : Hid (Zero12 w.heap.size W) := by rw [← hW]; exact Zero12.made w
  have hc0 : W.cell? ⟨g, o, none⟩ = some (.string x0) := ((bcell hA).1 _ _ (cell_lt hd0)).trans hd0
  have HA := Lib.hid hA
  have HW := Lib.hid hW
  have hi3 : 0 < n := by omega
  have hi4 : (0 : Int) < (n : Int) := by omega
  have q5 : b1 = true → ((n : Int) == 5) = false := fun e => by have := h5 e; simp; omega
  have q6 : b2 = true → ((n : Int) == 6) = false := fun e => by have := h6 e; simp; omega
  clear hA hW hd0 hn h5 h6
  obtain ⟨u0, u1, u2, u3, u4, u5, u6, u7, u8, u9, u10, u11, uf⟩ := HZ.out
  have v0 := uf 0
  have v1 := uf 1
  have v2 := uf 2
  have v3 := uf 3
  have v4 := uf 4
  have v5 := uf 5
  have v6 := uf 6
  have v7 := uf 7
  have v8 := uf 8
  have v9 := uf 9
  have v10 := uf 10
  have v11 := uf 11
  have hul := cell_lt u0
  clear uf
  cases b1 with
  | true =>
    have q5' := q5 rfl
    clear q5
    cases b2 with
    | true =>
      have q6' := q6 rfl
      clear q6
      go_enter Tryz.func104, Tryz.ntmps104
      go_upto_region 1 with (fail)
      rw [HW.out]
      go_wp2_with fail
      refine bodyPost_ret (v := .tuple #[OpL.zero.v ⟨none, 0, At.none⟩, .bool false]) (by simp [results, Tryz.results104, go_sem, u0, u1, u2, u3, u4, u5, u6, u7, u8, u9, u10, u11, v0, v1, v2, v3, v4, v5, v6, v7, v8, v9, v10, v11, OpL.zero, RecL.zero, At.none, fld0, who0]) rfl ?_
      have hBX := HA.out
      exact ⟨OpL.zero, ⟨none, 0, At.none⟩, rfl, fun q hq => (by cases hq), by go_grown⟩
    | false =>
      clear q6
      go_enter Tryz.func104, Tryz.ntmps104
      go_upto_region 1 with (fail)
      rw [HW.out]
      go_wp2_with fail
      refine bodyPost_ret (v := .tuple #[OpL.zero.v ⟨none, 0, At.none⟩, .bool false]) (by simp [results, Tryz.results104, go_sem, u0, u1, u2, u3, u4, u5, u6, u7, u8, u9, u10, u11, v0, v1, v2, v3, v4, v5, v6, v7, v8, v9, v10, v11, OpL.zero, RecL.zero, At.none, fld0, who0]) rfl ?_
      have hBX := HA.out
      exact ⟨OpL.zero, ⟨none, 0, At.none⟩, rfl, fun q hq => (by cases hq), by go_grown⟩
  | false =>
    clear q5
    cases b2 with
    | true =>
      have q6' := q6 rfl
      clear q6
      go_enter Tryz.func104, Tryz.ntmps104
      go_upto_region 1 with (fail)
      rw [HW.out]
      go_wp2_with fail
      refine bodyPost_ret (v := .tuple #[OpL.zero.v ⟨none, 0, At.none⟩, .bool false]) (by simp [results, Tryz.results104, go_sem, u0, u1, u2, u3, u4, u5, u6, u7, u8, u9, u10, u11, v0, v1, v2, v3, v4, v5, v6, v7, v8, v9, v10, v11, OpL.zero, RecL.zero, At.none, fld0, who0]) rfl ?_
      have hBX := HA.out
      exact ⟨OpL.zero, ⟨none, 0, At.none⟩, rfl, fun q hq => (by cases hq), by go_grown⟩
    | false =>
      clear q6
      go_enter Tryz.func104, Tryz.ntmps104
      go_upto_region 1 with (fail)
      rw [HW.out]
      go_wp2_with fail
      refine bodyPost_ret (v := .tuple #[OpL.zero.v ⟨none, 0, At.none⟩, .bool false]) (by simp [results, Tryz.results104, go_sem, u0, u1, u2, u3, u4, u5, u6, u7, u8, u9, u10, u11, v0, v1, v2, v3, v4, v5, v6, v7, v8, v9, v10, v11, OpL.zero, RecL.zero, At.none, fld0, who0]) rfl ?_
      have hBX := HA.out
      exact ⟨OpL.zero, ⟨none, 0, At.none⟩, rfl, fun q hq => (by cases hq), by go_grown⟩

theorem said_any (a : Option Addr) (c n : Nat) (x0 : ByteArray) (r : List ByteArray) (w : World) (hE : Env w) (hs : SlS w a (x0 :: r)) (hn : r.length + 1 = n) (hc : n ≤ c) (hNl : n ≤ 9000000000) (hx : ∀ x ∈ r, x.size < 4294967281) :
    Calls Tryz.prog 104 #[.slice a n c] w (SaidTo (opOf ((x0 :: r).map fun s => s.data.toList)) w) := by
  obtain ⟨g, o, rfl, hd0⟩ := hs 0 x0 rfl
  rw [Nat.add_zero] at hd0
  rw [List.map_cons, opOf_split]
  obtain ⟨b0, hb0⟩ : ∃ b, decide (x0.data.toList = wRules) = b := ⟨_, rfl⟩
  obtain ⟨b1, hb1⟩ : ∃ b, decide (x0.data.toList = wPut) = b := ⟨_, rfl⟩
  obtain ⟨b2, hb2⟩ : ∃ b, decide (x0.data.toList = wCut) = b := ⟨_, rfl⟩
  have t0 : (x0.toList == [114, 117, 108, 101, 115]) = b0 := lit_test hb0
  have t1 : (x0.toList == [112, 117, 116]) = b1 := lit_test hb1
  have t2 : (x0.toList == [99, 117, 116]) = b2 := lit_test hb2
  cases b0 with
  | true =>
    rw [if_pos (of_decide_eq_true hb0)]
    have hT := tail_at g o n c (by omega)
    have hst : SlS w (some ⟨g, if c = 1 then o else o + 1, none⟩) r := by
      by_cases h : c = 1
      · obtain rfl : r = [] := List.eq_nil_of_length_eq_zero (by omega)
        exact SlS.nil _ _
      · rw [if_neg h]
        exact slS_tail hs
    exact said_rules g o _ c n _ _ x0 r w hd0 hT hst (by omega) (by omega) (by omega) (by omega) t0 rfl
  | false =>
    rw [if_neg (of_decide_eq_false hb0)]
    by_cases hp : b1 = true ∧ n = 5
    · obtain ⟨rfl, rfl⟩ := hp
      rw [if_pos (of_decide_eq_true hb1)]
      match r, hn with
      | [s1, s2, s3, s4], _ => exact said_put g o c x0 s1 s2 s3 s4 w hE hs hc (hx s4 (by simp)) t0 t1 rfl
    · by_cases hq : b2 = true ∧ n = 6
      · obtain ⟨rfl, rfl⟩ := hq
        have h1 : b1 = false := by
          cases b1 with
          | true =>
            have e1 := of_decide_eq_true hb1
            have e2 := of_decide_eq_true hb2
            rw [e1] at e2
            exact absurd e2 (by decide)
          | false => rfl
        subst h1
        rw [if_neg (of_decide_eq_false hb1), if_pos (of_decide_eq_true hb2)]
        match r, hn with
        | [s1, s2, s3, s4, s5], _ => exact said_cut g o c x0 s1 s2 s3 s4 s5 w hE hs hc t0 t1 t2 rfl
      · have hno : (if x0.data.toList = wPut then putW (r.map fun s => s.data.toList) else if x0.data.toList = wCut then cutW (r.map fun s => s.data.toList) else none) = none := by
          by_cases h1 : x0.data.toList = wPut
          · rw [if_pos h1]
            refine putW_len ?_
            rw [List.length_map]
            have e : b1 = true := by rw [← hb1]; exact decide_eq_true h1
            have : n ≠ 5 := fun k => hp ⟨e, k⟩
            omega
          · rw [if_neg h1]
            by_cases h2 : x0.data.toList = wCut
            · rw [if_pos h2]
              refine cutW_len ?_
              rw [List.length_map]
              have e : b2 = true := by rw [← hb2]; exact decide_eq_true h2
              have : n ≠ 6 := fun k => hq ⟨e, k⟩
              omega
            · rw [if_neg h2]
        rw [hno]
        exact said_no g o c n x0 w hd0 (by omega) t0 t1 t2 (fun e k => hp ⟨e, k⟩) (fun e k => hq ⟨e, k⟩)
end Go.Proofs.YtepenlciaanoeaaGreatDoor
