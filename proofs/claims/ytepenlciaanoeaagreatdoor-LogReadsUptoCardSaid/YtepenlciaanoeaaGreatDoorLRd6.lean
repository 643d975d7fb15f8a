/- The contract of log.readOp. -/
import Derived.Test.YtepenlciaanoeaaGreatDoorLRdA
import Derived.Test.YtepenlciaanoeaaGreatDoorLRules
set_option linter.unusedVariables false
set_option linter.unusedSimpArgs false
set_option maxRecDepth 100000
namespace Go.Proofs.YtepenlciaanoeaaGreatDoor
open Go.RowKit Go.Sort

theorem opOf_split (a : List UInt8) (ws : List (List UInt8)) : opOf (a :: ws) = if a = wRules then (rulesOf ws).map opRules else if a = wPut then putW ws else if a = wCut then cutW ws else none := rfl
theorem SlR.far {w : World} {a : Option Addr} {n : Nat} {rs : Nat → RuleL} (h : SlR w a n rs) {p : Addr} (hne : ∀ b off, a = some ⟨b, off, none⟩ → b ≠ p.block) (u : Value) : SlR (w.setCell p u) a n rs := fun k hk => by
  obtain ⟨b, off, e, c0, c1, c2, c3, c4, c5⟩ := h k hk
  have hb := hne b off e
  refine ⟨b, off, e, ?_, ?_, ?_, ?_, ?_, ?_⟩ <;>
  · rw [World.cell?_setCell_other _ _ _ _ (fun e2 => hb (by have := congrArg Addr.block e2; simpa using this.symm))]
    assumption
theorem OpL.in_.far {o : OpL} {P : OpP} {w : World} {q : Addr} (h : o.in_ P w) (hne : ∀ b off, (P.ra = some ⟨b, off, none⟩ ∨ P.p.fa = some ⟨b, off, none⟩ ∨ P.p.ra = some ⟨b, off, none⟩) → b ≠ q.block) (v : Value) : o.in_ P (w.setCell q v) :=
  ⟨h.rs.far (fun b off e => hne b off (.inl e)) v, h.rl, h.rm, h.r.far (fun b off e => hne b off (.inr e)) v, h.sh, h.fsh⟩
theorem opRules_in {l : List RuleL} {A : Option Addr} {c B : Nat} {w : World} (h : OwnR B w (.slice A l.length c) l.length (nthR l)) : (opRules l).in_ ⟨A, c, At.none⟩ w :=
  ⟨(OwnR.slr h).1, (OwnR.slr h).2.1, (OwnR.slr h).2.2, ⟨SlF.nil _ _, SlS.nil _ _, Nat.le_refl _, Nat.le_refl _, Nat.zero_le _, Nat.zero_le _⟩, ⟨Nat.zero_le _, fun f h => (by cases h), fun s h => (by cases h)⟩, ⟨Nat.zero_le _, Nat.zero_le _⟩⟩
theorem slS_tail {w : World} {g o : Nat} {x : ByteArray} {r : List ByteArray} (h : SlS w (some ⟨g, o, none⟩) (x :: r)) : SlS w (some ⟨g, o + 1, none⟩) r := fun k s hk => by
  obtain ⟨b, off, e, hc⟩ := h (k + 1) s hk
  cases e
  exact ⟨_, _, rfl, by rw [show o + 1 + k = o + (k + 1) by omega]; exact hc⟩
theorem lit_test {s : ByteArray} {l : List UInt8} {b : Bool} (h : decide (s.data.toList = l) = b) : (s.toList == l) = b := by
  rw [← h, Lib.toList_data, Bool.eq_iff_iff, beq_iff_eq, decide_eq_true_eq]

/-! ## the arms -/
/-- words[1:], of a list that ends where its room ends or does not -/
def TailAt (g o o1 n c n1 c1 : Nat) : Prop := ∀ W : World, (Instr.slice 29 (.slice (some ⟨g, o, none⟩) n c) (some (.int .i64 1)) none none).run Tryz.prog W = .ok (.slice (some ⟨g, o1, none⟩) n1 c1) W
theorem tail_at (g o n c : Nat) (h1 : 1 ≤ n) : TailAt g o (if c = 1 then o else o + 1) n c (n - 1) (c - 1) := fun W => by
  have ht : Tryz.prog.underlying 29 = some (.slice 9) := Tryz.underlying29
  have ht' : Tryz.prog.underlying 29 = some (.slice (Tryz.prog.elem 29)) := by simp [Program.elem, ht]
  have he : Tryz.prog.elem 29 = 9 := by simp [Program.elem, ht]
  rw [run_slice_l W _ _ _ _ ht' .i64 1 (by omega) (by omega), he, Tryz.sizeOf9]
  by_cases hc : c = 1
  · subst hc
    simp [Result.andThen, sliced]
  · simp [Result.andThen, sliced, Addr.add, hc]

set_option maxHeartbeats 4000000 in
theorem readOp_rules (g o o1 c n n1 c1 : Nat) (x0 : ByteArray) (r : List ByteArray) (w : World) (hE : Env w) (hd0 : w.cell? ⟨g, o, none⟩ = some (.string x0)) (hT : TailAt g o o1 n c n1 c1) (hst : SlS w (some ⟨g, o1, none⟩) r) (hr : r.length = n1) (hc : n1 ≤ c1) (hNl : n1 ≤ 9000000000) (hn : 1 ≤ n) (ht : (x0.toList == [114, 117, 108, 101, 115]) = true) {R : Option (List RuleL)} (hR : rulesOf (r.map fun s => s.data.toList) = R) :
    Calls Tryz.prog 99 #[.slice (some ⟨g, o, none⟩) n c] w (OpTo (R.map opRules) w) := by
  have hA : Below w.heap.size w (w.alloc (.cells #[.int .i64 0, .int .i64 0, .int .i64 0, .int .i64 0, .slice none 0 0, .string ⟨#[]⟩, .int .i64 0, .slice none 0 0, .slice none 0 0, .string ⟨#[]⟩, .string ⟨#[]⟩, .string ⟨#[]⟩] 43)) := (Below.refl _ _).alloc (Nat.le_refl _) _
  obtain ⟨W, hW⟩ : ∃ W, w.alloc (.cells #[.int .i64 0, .int .i64 0, .int .i64 0, .int .i64 0, .slice none 0 0, .string ⟨#[]⟩, .int .i64 0, .slice none 0 0, .slice none 0 0, .string ⟨#[]⟩, .string ⟨#[]⟩, .string ⟨#[]⟩] 43) = W := ⟨_, rfl⟩
  rw [hW] at hA
  have hsz : W.heap.size = w.heap.size + 1 := by rw [← hW]; simp
  have HZ : Hid (Zero12 w.heap.size W) := by rw [← hW]; exact Zero12.made w
  have hc0 : W.cell? ⟨g, o, none⟩ = some (.string x0) := ((bcell hA).1 _ _ (cell_lt hd0)).trans hd0
  have HA := Lib.hid hA
  have HW := Lib.hid hW
  have HSZ := Lib.hid hsz
  have HEW := Lib.hid (hE.below hA)
  have HST := Lib.hid (hst.below hA)
  have HRR := Lib.hid (readRules_any g o1 n1 c1 r W HEW.out HST.out hr hc hNl)
  rw [hR] at HRR
  have hi3 : 0 < n := by omega
  have hi4 : (0 : Int) < (n : Int) := by omega
  unfold TailAt at hT
  clear hst hE hA hW hsz hd0 hR hn hr hc hNl
  go_enter Tryz.func99, Tryz.ntmps99
  go_upto_region 1 with (fail)
  rw [HW.out]
  go_upto_region 3 with (fail)
  clear hi3 hi4
  go_wp2_with fail
  refine HRR.out.mono ?_
  rintro e w1 (⟨l, A, cc, hl, rfl, hown, hb⟩ | ⟨hl, rfl, hb⟩)
  · have HB := Lib.hid (HA.out.trans (hb.mono HA.out.size))
    have HL := Lib.hid hl
    have HO := Lib.hid hown
    obtain ⟨u0, u1, u2, u3, u4, u5, u6, u7, u8, u9, u10, u11, uf⟩ := HZ.out.below hb
    have v0 := uf 0
    have v1 := uf 1
    have v2 := uf 2
    have v3 := uf 3
    have v4 := uf 4
    have v5 := uf 5
    have v6 := uf 6
    have v7 := uf 7
    have v8 := uf 8
    have v9 := uf 9
    have v10 := uf 10
    have v11 := uf 11
    have hul := cell_lt u0
    clear uf
    clear hl hown hb
    go_wp2_with fail
    refine bodyPost_ret (v := .tuple #[(opRules l).v ⟨A, cc, At.none⟩, .bool true]) (by simp [results, Tryz.results99, go_sem, u0, u1, u2, u3, u4, u5, u6, u7, u8, u9, u10, u11, v0, v1, v2, v3, v4, v5, v6, v7, v8, v9, v10, v11, opRules, who0, RecL.zero, At.none, fld0]) rfl ?_
    have hBX := HB.out
    refine ⟨opRules l, ⟨A, cc, At.none⟩, by rw [HL.out]; rfl, fun q hq => ?_, by go_grown, fun b off h => ?_⟩
    · rw [HL.out] at hq
      cases hq
      refine ⟨rfl, opRules_in (B := w.heap.size + 1) ?_⟩
      unfold OwnR
      repeat refine own_set ?_ (show w.heap.size < w.heap.size + 1 by omega)
      have := HO.out
      rw [HSZ.out] at this
      exact this
    · rcases h with h | h | h
      · replace h : A = some ⟨b, off, none⟩ := h
        subst h
        have := (World.ownsRow.lt HO.out b rfl).1
        have h2 := HSZ.out
        omega
      · cases h
      · cases h
  · have HB := Lib.hid (HA.out.trans (hb.mono HA.out.size))
    have HL := Lib.hid hl
    obtain ⟨u0, u1, u2, u3, u4, u5, u6, u7, u8, u9, u10, u11, uf⟩ := HZ.out.below hb
    have v0 := uf 0
    have v1 := uf 1
    have v2 := uf 2
    have v3 := uf 3
    have v4 := uf 4
    have v5 := uf 5
    have v6 := uf 6
    have v7 := uf 7
    have v8 := uf 8
    have v9 := uf 9
    have v10 := uf 10
    have v11 := uf 11
    have hul := cell_lt u0
    clear uf
    clear hl hb
    go_wp2_with fail
    refine bodyPost_ret (v := .tuple #[(opRules []).v ⟨none, 0, At.none⟩, .bool false]) (by simp [results, Tryz.results99, go_sem, u0, u1, u2, u3, u4, u5, u6, u7, u8, u9, u10, u11, v0, v1, v2, v3, v4, v5, v6, v7, v8, v9, v10, v11, opRules, who0, RecL.zero, At.none, fld0]) rfl ?_
    have hBX := HB.out
    refine ⟨opRules [], ⟨none, 0, At.none⟩, by rw [HL.out]; rfl, fun q hq => ?_, by go_grown, OpP.none_from _⟩
    rw [HL.out] at hq
    cases hq

set_option maxHeartbeats 4000000 in
theorem readOp_put (g o o1 c n n1 c1 : Nat) (x0 : ByteArray) (r : List ByteArray) (w : World) (hE : Env w) (hd0 : w.cell? ⟨g, o, none⟩ = some (.string x0)) (hT : TailAt g o o1 n c n1 c1) (hst : SlS w (some ⟨g, o1, none⟩) r) (hr : r.length = n1) (hc : n1 ≤ c1) (hn : 1 ≤ n) (hx : ∀ x ∈ r, x.size < 4294967281) (t0 : (x0.toList == [114, 117, 108, 101, 115]) = false) (t1 : (x0.toList == [112, 117, 116]) = true) {R : Option OpL} (hR : putW (r.map fun s => s.data.toList) = R) :
    Calls Tryz.prog 99 #[.slice (some ⟨g, o, none⟩) n c] w (OpTo R w) := by
  have hA : Below w.heap.size w (w.alloc (.cells #[.int .i64 0, .int .i64 0, .int .i64 0, .int .i64 0, .slice none 0 0, .string ⟨#[]⟩, .int .i64 0, .slice none 0 0, .slice none 0 0, .string ⟨#[]⟩, .string ⟨#[]⟩, .string ⟨#[]⟩] 43)) := (Below.refl _ _).alloc (Nat.le_refl _) _
  obtain ⟨W, hW⟩ : ∃ W, w.alloc (.cells #[.int .i64 0, .int .i64 0, .int .i64 0, .int .i64 0, .slice none 0 0, .string ⟨#[]⟩, .int .i64 0, .slice none 0 0, .slice none 0 0, .string ⟨#[]⟩, .string ⟨#[]⟩, .string ⟨#[]⟩] 43) = W := ⟨_, rfl⟩
  rw [hW] at hA
  have hsz : W.heap.size = w.heap.size + 1 := by rw [← hW]; simp
  have HZ : Hid (Zero12 w.heap.size W) := by rw [← hW]; exact Zero12.made w
  have hc0 : W.cell? ⟨g, o, none⟩ = some (.string x0) := ((bcell hA).1 _ _ (cell_lt hd0)).trans hd0
  have HA := Lib.hid hA
  have HW := Lib.hid hW
  have HSZ := Lib.hid hsz
  have HEW := Lib.hid (hE.below hA)
  have HST := Lib.hid (hst.below hA)
  have HRR := Lib.hid (readPut_any g o1 c1 n1 r W HEW.out HST.out hr hc hx)
  rw [hR] at HRR
  have hi3 : 0 < n := by omega
  have hi4 : (0 : Int) < (n : Int) := by omega
  unfold TailAt at hT
  clear hst hE hA hW hsz hd0 hR hn hr hc hx
  go_enter Tryz.func99, Tryz.ntmps99
  go_upto_region 1 with (fail)
  rw [HW.out]
  go_upto_region 6 with (fail)
  clear hi3 hi4
  go_wp2_with fail
  refine HRR.out.mono ?_
  rintro e w1 ⟨q, P, rfl, hq, hb, hpf⟩
  have HB := Lib.hid (HA.out.trans (hb.mono HA.out.size))
  have HQ := Lib.hid hq
  have HPF := Lib.hid (show P.from_ (w.heap.size + 1) from fun b off h => by
    have h1 := hpf b off h
    have h2 := HSZ.out
    omega)
  obtain ⟨u0, u1, u2, u3, u4, u5, u6, u7, u8, u9, u10, u11, uf⟩ := HZ.out.below hb
  have v0 := uf 0
  have v1 := uf 1
  have v2 := uf 2
  have v3 := uf 3
  have v4 := uf 4
  have v5 := uf 5
  have v6 := uf 6
  have v7 := uf 7
  have v8 := uf 8
  have v9 := uf 9
  have v10 := uf 10
  have v11 := uf 11
  have hul := cell_lt u0
  clear uf
  clear hq hb hpf
  go_wp2_with fail
  refine bodyPost_ret (v := .tuple #[q.v P, .bool R.isSome]) (by simp [results, Tryz.results99, go_sem, u0, u1, u2, u3, u4, u5, u6, u7, u8, u9, u10, u11, v0, v1, v2, v3, v4, v5, v6, v7, v8, v9, v10, v11]) rfl ?_
  have hBX := HB.out
  refine ⟨q, P, rfl, fun o2 ho2 => ?_, by go_grown, fun b off h => Nat.le_of_lt (HPF.out b off h)⟩
  obtain ⟨h1, h2⟩ := HQ.out o2 ho2
  refine ⟨h1, ?_⟩
  iterate 12 refine OpL.in_.far ?_ (fun b off h => Nat.ne_of_gt (show w.heap.size < b from HPF.out b off h)) _
  exact h2

set_option maxHeartbeats 4000000 in
theorem readOp_cut (g o o1 c n n1 c1 : Nat) (x0 : ByteArray) (r : List ByteArray) (w : World) (hE : Env w) (hd0 : w.cell? ⟨g, o, none⟩ = some (.string x0)) (hT : TailAt g o o1 n c n1 c1) (hst : SlS w (some ⟨g, o1, none⟩) r) (hr : r.length = n1) (hc : n1 ≤ c1) (hn : 1 ≤ n) (hx : ∀ x ∈ r, x.size < 4294967281) (t0 : (x0.toList == [114, 117, 108, 101, 115]) = false) (t1 : (x0.toList == [112, 117, 116]) = false) (t2 : (x0.toList == [99, 117, 116]) = true) {R : Option OpL} (hR : cutW (r.map fun s => s.data.toList) = R) :
    Calls Tryz.prog 99 #[.slice (some ⟨g, o, none⟩) n c] w (OpTo R w) := by
  have hA : Below w.heap.size w (w.alloc (.cells #[.int .i64 0, .int .i64 0, .int .i64 0, .int .i64 0, .slice none 0 0, .string ⟨#[]⟩, .int .i64 0, .slice none 0 0, .slice none 0 0, .string ⟨#[]⟩, .string ⟨#[]⟩, .string ⟨#[]⟩] 43)) := (Below.refl _ _).alloc (Nat.le_refl _) _
  obtain ⟨W, hW⟩ : ∃ W, w.alloc (.cells #[.int .i64 0, .int .i64 0, .int .i64 0, .int .i64 0, .slice none 0 0, .string ⟨#[]⟩, .int .i64 0, .slice none 0 0, .slice none 0 0, .string ⟨#[]⟩, .string ⟨#[]⟩, .string ⟨#[]⟩] 43) = W := ⟨_, rfl⟩
  rw [hW] at hA
  have hsz : W.heap.size = w.heap.size + 1 := by rw [← hW]; simp
  have HZ : Hid (Zero12 w.heap.size W) := by rw [← hW]; exact Zero12.made w
  have hc0 : W.cell? ⟨g, o, none⟩ = some (.string x0) := ((bcell hA).1 _ _ (cell_lt hd0)).trans hd0
  have HA := Lib.hid hA
  have HW := Lib.hid hW
  have HSZ := Lib.hid hsz
  have HEW := Lib.hid (hE.below hA)
  have HST := Lib.hid (hst.below hA)
  have HRR := Lib.hid (readCut_any g o1 c1 n1 r W HEW.out HST.out hr hc)
  rw [hR] at HRR
  have hi3 : 0 < n := by omega
  have hi4 : (0 : Int) < (n : Int) := by omega
  unfold TailAt at hT
  clear hst hE hA hW hsz hd0 hR hn hr hc hx
  go_enter Tryz.func99, Tryz.ntmps99
  go_upto_region 1 with (fail)
  rw [HW.out]
  go_upto_region 8 with (fail)
  clear hi3 hi4
  go_wp2_with fail
  refine HRR.out.mono ?_
  rintro e w1 ⟨q, P, rfl, hq, hb, hpf⟩
  have HB := Lib.hid (HA.out.trans (hb.mono HA.out.size))
  have HQ := Lib.hid hq
  have HPF := Lib.hid (show P.from_ (w.heap.size + 1) from fun b off h => by
    have h1 := hpf b off h
    have h2 := HSZ.out
    omega)
  obtain ⟨u0, u1, u2, u3, u4, u5, u6, u7, u8, u9, u10, u11, uf⟩ := HZ.out.below hb
  have v0 := uf 0
  have v1 := uf 1
  have v2 := uf 2
  have v3 := uf 3
  have v4 := uf 4
  have v5 := uf 5
  have v6 := uf 6
  have v7 := uf 7
  have v8 := uf 8
  have v9 := uf 9
  have v10 := uf 10
  have v11 := uf 11
  have hul := cell_lt u0
  clear uf
  clear hq hb hpf
  go_wp2_with fail
  refine bodyPost_ret (v := .tuple #[q.v P, .bool R.isSome]) (by simp [results, Tryz.results99, go_sem, u0, u1, u2, u3, u4, u5, u6, u7, u8, u9, u10, u11, v0, v1, v2, v3, v4, v5, v6, v7, v8, v9, v10, v11]) rfl ?_
  have hBX := HB.out
  refine ⟨q, P, rfl, fun o2 ho2 => ?_, by go_grown, fun b off h => Nat.le_of_lt (HPF.out b off h)⟩
  obtain ⟨h1, h2⟩ := HQ.out o2 ho2
  refine ⟨h1, ?_⟩
  iterate 12 refine OpL.in_.far ?_ (fun b off h => Nat.ne_of_gt (show w.heap.size < b from HPF.out b off h)) _
  exact h2

set_option maxHeartbeats 4000000 in
theorem readOp_no (a : Option Addr) (g o c n : Nat) (x0 : ByteArray) (w : World) (hE : Env w) (hd0 : w.cell? ⟨g, o, none⟩ = some (.string x0)) (hn : 1 ≤ n) (t0 : (x0.toList == [114, 117, 108, 101, 115]) = false) (t1 : (x0.toList == [112, 117, 116]) = false) (t2 : (x0.toList == [99, 117, 116]) = false) :
    Calls Tryz.prog 99 #[.slice (some ⟨g, o, none⟩) n c] w (OpTo none w) := by
  have hA : Below w.heap.size w (w.alloc (.cells #[.int .i64 0, .int .i64 0, .int .i64 0, .int .i64 0, .slice none 0 0, .string ⟨#[]⟩, .int .i64 0, .slice none 0 0, .slice none 0 0, .string ⟨#[]⟩, .string ⟨#[]⟩, .string ⟨#[]⟩] 43)) := (Below.refl _ _).alloc (Nat.le_refl _) _
  obtain ⟨W, hW⟩ : ∃ W, w.alloc (.cells #[.int .i64 0, .int .i64 0, .int .i64 0, .int .i64 0, .slice none 0 0, .string ⟨#[]⟩, .int .i64 0, .slice none 0 0, .slice none 0 0, .string ⟨#[]⟩, .string ⟨#[]⟩, .string ⟨#[]⟩] 43) = W := ⟨_, rfl⟩
  rw [hW] at hA
  have hsz : W.heap.size = w.heap.size + 1 := by rw [← hW]; simp
  have HZ : Hid (Zero12 w.heap.size W) := by rw [← hW]; exact Zero12.made w
  have hc0 : W.cell? ⟨g, o, none⟩ = some (.string x0) := ((bcell hA).1 _ _ (cell_lt hd0)).trans hd0
  have HA := Lib.hid hA
  have HW := Lib.hid hW
  have HSZ := Lib.hid hsz
  have HEW := Lib.hid (hE.below hA)
  have hi3 : 0 < n := by omega
  have hi4 : (0 : Int) < (n : Int) := by omega
  clear hE hA hW hsz hd0 hn
  go_enter Tryz.func99, Tryz.ntmps99
  go_upto_region 1 with (fail)
  rw [HW.out]
  obtain ⟨u0, u1, u2, u3, u4, u5, u6, u7, u8, u9, u10, u11, uf⟩ := HZ.out
  have v0 := uf 0
  have v1 := uf 1
  have v2 := uf 2
  have v3 := uf 3
  have v4 := uf 4
  have v5 := uf 5
  have v6 := uf 6
  have v7 := uf 7
  have v8 := uf 8
  have v9 := uf 9
  have v10 := uf 10
  have v11 := uf 11
  have hul := cell_lt u0
  clear uf
  go_wp2_with fail
  refine bodyPost_ret (v := .tuple #[OpL.zero.v ⟨none, 0, At.none⟩, .bool false]) (by simp [results, Tryz.results99, go_sem, u0, u1, u2, u3, u4, u5, u6, u7, u8, u9, u10, u11, v0, v1, v2, v3, v4, v5, v6, v7, v8, v9, v10, v11, OpL.zero, RecL.zero, At.none, fld0, who0]) rfl ?_
  have hBX := HA.out
  exact ⟨OpL.zero, ⟨none, 0, At.none⟩, rfl, fun q hq => (by cases hq), by go_grown, OpP.none_from _⟩

theorem readOp_any (a : Option Addr) (c n : Nat) (x0 : ByteArray) (r : List ByteArray) (w : World) (hE : Env w) (hs : SlS w a (x0 :: r)) (hn : r.length + 1 = n) (hc : n ≤ c) (hNl : n ≤ 9000000000) (hx : ∀ x ∈ r, x.size < 4294967281) :
    Calls Tryz.prog 99 #[.slice a n c] w (OpTo (opOf ((x0 :: r).map fun s => s.data.toList)) w) := by
  obtain ⟨g, o, rfl, hd0⟩ := hs 0 x0 rfl
  rw [Nat.add_zero] at hd0
  have hT := tail_at g o n c (by omega)
  have hst : SlS w (some ⟨g, if c = 1 then o else o + 1, none⟩) r := by
    by_cases h : c = 1
    · obtain rfl : r = [] := List.eq_nil_of_length_eq_zero (by omega)
      exact SlS.nil _ _
    · rw [if_neg h]
      exact slS_tail hs
  rw [List.map_cons, opOf_split]
  obtain ⟨b0, hb0⟩ : ∃ b, decide (x0.data.toList = wRules) = b := ⟨_, rfl⟩
  obtain ⟨b1, hb1⟩ : ∃ b, decide (x0.data.toList = wPut) = b := ⟨_, rfl⟩
  obtain ⟨b2, hb2⟩ : ∃ b, decide (x0.data.toList = wCut) = b := ⟨_, rfl⟩
  have t0 : (x0.toList == [114, 117, 108, 101, 115]) = b0 := lit_test hb0
  have t1 : (x0.toList == [112, 117, 116]) = b1 := lit_test hb1
  have t2 : (x0.toList == [99, 117, 116]) = b2 := lit_test hb2
  cases b0 with
  | true =>
    rw [if_pos (of_decide_eq_true hb0)]
    exact readOp_rules g o _ c n _ _ x0 r w hE hd0 hT hst (by omega) (by omega) (by omega) (by omega) t0 rfl
  | false =>
    rw [if_neg (of_decide_eq_false hb0)]
    cases b1 with
    | true =>
      rw [if_pos (of_decide_eq_true hb1)]
      exact readOp_put g o _ c n _ _ x0 r w hE hd0 hT hst (by omega) (by omega) (by omega) hx t0 t1 rfl
    | false =>
      rw [if_neg (of_decide_eq_false hb1)]
      cases b2 with
      | true =>
        rw [if_pos (of_decide_eq_true hb2)]
        exact readOp_cut g o _ c n _ _ x0 r w hE hd0 hT hst (by omega) (by omega) (by omega) hx t0 t1 t2 rfl
      | false =>
        rw [if_neg (of_decide_eq_false hb2)]
        exact readOp_no none g o c n x0 w hE hd0 (by omega) t0 t1 t2
end Go.Proofs.YtepenlciaanoeaaGreatDoor
