/- wyref.Read once more: what it answers is new. -/
import Derived.Test.YtepenlciaanoeaaGreatDoorRRefRead
set_option linter.unusedVariables false
set_option linter.unusedSimpArgs false
set_option maxRecDepth 100000
namespace Go.Proofs.YtepenlciaanoeaaGreatDoor
open Go.RowKit Go.Sort

set_option maxHeartbeats 1000000 in
theorem refRead_new (s : ByteArray) (w : World) (hE : Env w) (hs : s.size < 4294967281) :
    Calls Tryz.prog 174 #[.string s] w (ReadNew s.data.toList w) := by
  obtain ⟨iF, hi, hz0, hz1, hz2⟩ := info_parts Tryz.infoField
  obtain ⟨iS, si, sz0, sz1, sz2⟩ := info_parts Tryz.infoStr
  have HE := Lib.hid hE
  obtain ⟨L, hL⟩ : ∃ L, L = s.data.toList := ⟨_, rfl⟩
  have HLS : Hid (s.size = L.length) := by rw [hL]; exact size_len s
  rw [← hL]
  have HL := Lib.hid hL
  obtain ⟨N, hN⟩ : ∃ N, N = Lib.countB s ⟨#[59]⟩ := ⟨_, rfl⟩
  have hcn := countB_eq 59 s
  rw [← hN, ← hL] at hcn
  have HC := Lib.hid (count_any s 59 (w.alloc (.cells #[.string ⟨#[]⟩, .int .i64 0, .slice none 0 0, .slice none 0 0] 39)) (hE.below ((Below.refl _ _).alloc (Nat.le_refl _) _)) hs)
  rw [← hN] at HC
  have hA : Below w.heap.size w (w.alloc (.cells #[.string ⟨#[]⟩, .int .i64 0, .slice none 0 0, .slice none 0 0] 39)) := (Below.refl _ _).alloc (Nat.le_refl _) _
  have Z0 := RB.made ⟨#[]⟩ w
  have h2 : w.heap.size ≤ w.heap.size := Nat.le_refl _
  clear hE hL hN
  go_enter Tryz.func174, Tryz.ntmps174
  go_wp2_with fail
  refine HC.out.mono ?_
  rintro e w1 ⟨rfl, hb1⟩
  have hB1 : Below w.heap.size w w1 := hA.trans (hb1.mono hA.size)
  have Z1 := Z0.below hb1
  clear HC Z0 hA hb1
  by_cases h3 : N = 3
  · subst h3
    obtain ⟨a, b, c, d, hp⟩ : ∃ a b c d, splitC 59 L = [a, b, c, d] := by
      match h : splitC 59 L, hcn with
      | [a, b, c, d], _ => exact ⟨a, b, c, d, rfl⟩
    obtain ⟨k1, k2, k3⟩ := four_cuts hp
    obtain ⟨L1, hL1⟩ : ∃ L1, L1 = b ++ 59 :: (c ++ 59 :: d) := ⟨_, rfl⟩
    obtain ⟨L2, hL2⟩ : ∃ L2, L2 = c ++ 59 :: d := ⟨_, rfl⟩
    rw [← hL2] at hL1 k1 k2 k3
    rw [← hL1] at k1 k2
    have HK1 := Lib.hid k1; have HK2 := Lib.hid k2; have HK3 := Lib.hid k3
    have HP := Lib.hid hp
    have hle : L.length = a.length + 1 + L1.length := by
      have e := join_splitC 59 L
      rw [hp, joinC_cons, joinC_cons, joinC_cons, Lib.join_one] at e
      rw [hL1, hL2, ← e]
      simp
      omega
    have hle1 : L1.length = b.length + 1 + L2.length := by rw [hL1]; simp; omega
    have hle2 : L2.length = c.length + 1 + d.length := by rw [hL2]; simp; omega
    have HS : Hid (L1.length < 4294967281 ∧ L2.length < 4294967281 ∧ c.length < 4294967281 ∧ d.length < 4294967281 ∧ a.length < 4294967281) := by
      have := HLS.out
      refine ⟨?_, ?_, ?_, ?_, ?_⟩ <;> omega
    clear k1 k2 k3 hp hL1 hL2 hcn hle hle1 hle2
    go_wp2_with fail
    refine (cut_is (a := a) (r := L1) (m := true) s 59 w1 (HE.out.below hB1) hs (by rw [← HL.out]; exact HK1.out)).mono ?_
    rintro e w2 ⟨rfl, hb2⟩
    have hB2 := hB1.trans (hb2.mono hB1.size)
    have Z2 := Z1.below hb2
    clear Z1 hb2 hB1
    go_wp2_with fail
    refine (cut_is (a := b) (r := L2) (m := true) (bs L1) 59 w2 (HE.out.below hB2) (by rw [bs_size]; exact HS.out.1) (by rw [data_bs]; exact HK2.out)).mono ?_
    rintro e w3 ⟨rfl, hb3⟩
    have hB3 := hB2.trans (hb3.mono hB2.size)
    have Z3 := Z2.below hb3
    clear Z2 hb3 hB2
    go_wp2_with fail
    refine (cut_is (a := c) (r := d) (m := true) (bs L2) 59 w3 (HE.out.below hB3) (by rw [bs_size]; exact HS.out.2.1) (by rw [data_bs]; exact HK3.out)).mono ?_
    rintro e w4 ⟨rfl, hb4⟩
    have hB4 := hB3.trans (hb4.mono hB3.size)
    have Z4 := Z3.below hb4
    clear Z3 hb4 hB3
    have R4 := RB.made (bs a) w4
    have hB4a := hB4.alloc hB4.size (.cells #[.string (bs a), .int .i64 0, .slice none 0 0, .slice none 0 0] 39)
    have Z4a := Z4.below ((Below.refl w4.heap.size w4).alloc (Nat.le_refl _) (.cells #[.string (bs a), .int .i64 0, .slice none 0 0, .slice none 0 0] 39))
    go_wp2_with fail
    refine (refNum_any (bs b) _).mono ?_
    rintro e w5 ⟨⟨n, rfl, hn⟩, hb5⟩
    rw [data_bs] at hn ⊢
    have hB5 := hB4a.trans (hb5.mono hB4a.size)
    have Z5 := Z4a.below hb5
    have R5 := R4.below hb5
    have hbw : w.heap.size < w4.heap.size := by have := Z4.lt; omega
    have hb5s : w4.heap.size < w5.heap.size := R5.lt
    have hB6 : Below w.heap.size w (w5.setCell ⟨w4.heap.size, 1, none⟩ (.int .i64 n)) := hB5.setCell (by show w.heap.size ≤ w4.heap.size; omega) _
    have Z6 : ZB w.heap.size (w5.setCell ⟨w4.heap.size, 1, none⟩ (.int .i64 n)) := Z5.far (by show w.heap.size ≠ w4.heap.size; omega) _
    have R6 : RB w4.heap.size (bs a) n (.slice none 0 0) (.slice none 0 0) (w5.setCell ⟨w4.heap.size, 1, none⟩ (.int .i64 n)) := R5.num
    obtain ⟨x0, x1, x2, x3, y0, y1, y2, y3⟩ := id R5
    clear Z4 R4 hB4a Z4a hB4 hb5 Z5 R5 hB5
    have HN : Hid (numL b = none ∨ numL b = some n) := by
      cases hh : numL b with
      | none => exact .inl rfl
      | some m => exact .inr (by rw [hn m hh])
    obtain ⟨mc, hmc⟩ : ∃ mc, (numL b).isSome = mc := ⟨_, rfl⟩
    rw [hmc]
    have HM := Lib.hid hmc
    clear hn hmc
    cases mc with
    | false =>
      have hr : rdRec L = RecL.zero ∧ rdErr L = 10 := by
        have e : recL L = none := by
          unfold recL
          rw [HP.out]
          show (match numL b, fieldsL (piecesC 44 c) with
            | some n, some fs => some (⟨bs a, n, fs, (piecesC 44 d).map bs⟩ : RecL)
            | _, _ => none) = none
          have : numL b = none := by
            cases hh : numL b with
            | none => rfl
            | some m => exact absurd HM.out (by rw [hh]; simp)
          rw [this]
        unfold rdRec rdErr
        rw [e]
        exact ⟨rfl, rfl⟩
      have HR := Lib.hid hr
      have HB6 := Lib.hid hB6
      obtain ⟨o0, o1, o2, o3, z0, z1, z2, z3⟩ := Z6
      clear hr R6 hB6
      go_wp2_with fail
      refine bodyPost_ret (v := .tuple #[RecL.zero.v At.none, .int .i64 10]) (by simp [results, Tryz.results174, go_sem, o0, o1, o2, o3, z0, z1, z2, z3, RecL.zero, At.none]) rfl ?_
      unfold ReadNew
      rw [HR.out.1, HR.out.2]
      exact ⟨At.none, rfl, zero_in _, (((HB6.out.setCell h2 _).setCell h2 _).setCell h2 _).setCell h2 _, At.none_from _⟩
    | true =>
      have HN2 : Hid (numL b = some n) := by
        rcases HN.out with hh | hh
        · exact absurd HM.out (by rw [hh]; decide)
        · exact hh
      obtain ⟨w6, hw6⟩ : ∃ w6, w6 = w5.setCell ⟨w4.heap.size, 1, none⟩ (.int .i64 n) := ⟨_, rfl⟩
      rw [← hw6] at hB6 Z6 R6
      have HB6 := Lib.hid hB6; have HZ6 := Lib.hid Z6; have HR6 := Lib.hid R6
      clear hB6 Z6 R6
      go_upto_region 11 with (fail)
      rw [← hw6]
      clear hw6 x0 x1 x2 x3 y0 y1 y2 y3
      go_wp2_with fail
      obtain ⟨mb0, hmb0⟩ : ∃ mb0, mb0 = !(bs c).toList.isEmpty := ⟨_, rfl⟩
      rw [← hmb0]
      have HMB := Lib.hid (more_first hmb0)
      clear hmb0
      go_loopw [8, 13] (fun f m wr => ∃ (done : List (List UInt8)) (fs : List FieldL) (A : Option Addr) (cc : Nat) (rest : List UInt8) (mb : Bool), f = .string (bs rest) ∧ m = .bool mb ∧ Hid (OwnF (w4.heap.size + 1) wr (.slice A fs.length cc) fs) ∧ Hid (fieldsL done = some fs) ∧ Hid (Left c done rest mb) ∧ Hid (Below w.heap.size w wr) ∧ Hid (ZB w.heap.size wr) ∧ Hid (RB w4.heap.size (bs a) n (.slice A fs.length cc) (.slice none 0 0) wr)) (fun f m _ => if isT m then lenOf f + 1 else 0)
      case atStart => exact ⟨[], [], none, 0, c, mb0, rfl, rfl, World.ownsRow_nil _ _ _ _, rfl, HMB, HB6, HZ6, HR6⟩
      case round =>
        clear HB6 HZ6 HR6 HMB
        obtain ⟨done, fs, A, cc, rest, mb, rfl, rfl, HO, HF, HL2, HB, HZ, HR⟩ := hrel
        cases mb with
        | true =>
          obtain ⟨x, r, m2, hcut, hleft, hdec, hxl⟩ := HL2.out.step
          have HCUT := Lib.hid hcut
          have HLEFT := Lib.hid hleft
          have hfl := fieldsL_length HF.out
          have hdl := HL2.out.le
          have HXL := Lib.hid hxl
          clear hcut hleft hxl
          go_wp2_with fail
          refine (cut_is (a := x) (r := r) (m := m2) (bs rest) 44 wr (HE.out.below HB.out) (by rw [bs_size]; have := HL2.out.short; have := HS.out.2.2.1; omega) (by rw [data_bs]; exact HCUT.out)).mono ?_
          rintro e w7 ⟨rfl, hb7⟩
          have HB7 := Lib.hid (HB.out.trans (hb7.mono HB.out.size))
          have HO7 := Lib.hid (OwnF.below HO.out hb7)
          have HZ7 := Lib.hid (HZ.out.below hb7)
          have HR7 := Lib.hid (HR.out.below hb7)
          clear HB HO HZ HR hb7
          go_wp2_with fail
          refine (index_any (bs x) w7).mono ?_
          rintro e w8 ⟨rfl, rfl⟩
          rw [data_bs]
          by_cases hm : 61 ∈ x
          · obtain ⟨k, v, hx, hk⟩ := cut_list hm
            have hcx := cut_hit v hk
            rw [← hx] at hcx
            have hix : Lib.indexByte x 61 = (k.length : Nat) := by rw [hx]; exact ix_hit v hk
            rw [hix]
            obtain ⟨K, hK⟩ : ∃ K, K = k.length := ⟨_, rfl⟩
            rw [← hK]
            obtain ⟨f, hf⟩ : ∃ f : FieldL, f = ⟨bs k, bs v⟩ := ⟨_, rfl⟩
            have hKx : (bs x).size = K + 1 + v.length := by rw [bs_size, hK, hx]; simp; omega
            have hKb : (bs x).size ≤ 4294967281 := by
              rw [bs_size]
              have h1 := HXL.out
              have h2 := HL2.out.short
              have h3 := HS.out.2.2.1
              omega
            have hx1 : (bs x).extract 0 K = f.key := by
              rw [hf]
              apply data_inj
              rw [ext_data, data_bs, data_bs, hx, hK]
              simp
            have hx2 : (bs x).extract (K + 1) (bs x).size = f.val := by
              rw [hf]
              apply data_inj
              rw [ext_data, data_bs, data_bs, hKx, hx, hK, ← List.drop_drop]
              simp
            have HSN := Lib.hid (show fieldsL (done ++ [x]) = some (fs ++ [f]) by
              have := fieldsL_snoc HF.out (x := x) (by rw [hcx])
              rw [hcx] at this
              rw [hf]
              exact this)
            obtain ⟨X, hX⟩ : ∃ X, X = bs x := ⟨_, rfl⟩
            rw [← hX] at hKx hKb hx1 hx2 ⊢
            obtain ⟨x0, x1, x2, x3, y0, y1, y2, y3⟩ := id HR7.out
            have bl := HR7.out.lt
            have i0 : (0 : Int) ≤ (K : Int) := by omega
            have i1 : ¬ (K : Int) < 0 := by omega
            have j1 : (K : Int) ≤ (X.size : Int) := by omega
            have j2 : (K : Int) + 1 ≤ (X.size : Int) := by omega
            have hw1 : IntKind.i64.wrap ((K : Int) + 1) = (K : Int) + 1 := by rw [IntKind.wrap_i64]; omega
            have hb1 : (0 : Int) ≤ (K : Int) + 1 := by omega
            have htn : ((K : Int) + 1).toNat = K + 1 := by omega
            have hA8 : Below w8.heap.size w8 (w8.alloc (.cells #[.string f.key, .string f.val] 41)).drew := ((Below.refl _ _).alloc (Nat.le_refl _) _).drew
            have HOA := Lib.hid (OwnF.below HO7.out hA8)
            have HRA := Lib.hid (HR7.out.below hA8)
            have HZA := Lib.hid (HZ7.out.below hA8)
            have HBA := Lib.hid (HB7.out.trans (hA8.mono HB7.out.size))
            have HNW : Hid (∀ j u, (cellsF [f])[j]? = some u → (w8.alloc (.cells #[.string f.key, .string f.val] 41)).drew.cell? ((⟨w8.heap.size, 0, none⟩ : Addr).add j) = some u) := cell_two w8 f _
            have hq1 : fs.length + 1 ≤ maxLen := by have := HS.out.2.2.1; unfold maxLen; omega
            have hq2 : (fs.length + 1) * 32 ≤ 140737488355328 := by have := HS.out.2.2.1; omega
            have hq3 : w4.heap.size + 1 ≤ (w8.alloc (.cells #[.string f.key, .string f.val] 41)).drew.heap.size := by simp; omega
            have HQ := Lib.hid (And.intro hq1 (And.intro hq2 hq3))
            clear hcx hix hK hf hx hk hm hKx hKb hX hfl hdl hA8 hq1 hq2 hq3
            go_upto_region 18 with (fail)
            go_region_law (refine step_append_lies _ rfl (.tmp 67) (.tmp 76) 37 rfl (w4.heap.size + 1) 41 iF _ 2 32 Tryz.underlying37 hi hz0 hz1 hz2 rfl (by decide) (.slice A fs.length cc) fs.length (cellsF fs) (by simp [Act.eval, Act.put]) HOA.out ⟨w8.heap.size, 0, none⟩ 1 1 (cellsF [f]) (by simp [Act.eval, Act.put]) rfl HNW.out (cellsF_one [f]) (by decide) HQ.out.1 HQ.out.2.1 HQ.out.2.2 _ rfl ?_; intro g cap w9 hown hgrow hat hlt; have HOW := Lib.hid hown; have HGR := Lib.hid hgrow; have R9 := HRA.out.grown hgrow HOA.out (Nat.lt_succ_self _); have HR9 := Lib.hid R9; obtain ⟨x0, x1, x2, x3, y0, y1, y2, y3⟩ := R9; clear hown hgrow hat)
            all_goals
              go_wp2_with fail
            all_goals
              have hln : (fs ++ [f]).length = fs.length + 1 := by simp
              have hON : OwnF (w4.heap.size + 1) w9 (.slice (some ⟨g, 0, none⟩) (fs.length + 1) cap) (fs ++ [f]) := by
                unfold OwnF
                rw [cellsF_append, hln]
                exact HOW.out
              refine ⟨⟨done ++ [x], fs ++ [f], some ⟨g, 0, none⟩, cap, r, m2, rfl, rfl, ?_, HSN, HLEFT, ?_, ?_, ?_⟩, ?_⟩
              · rw [hln]
                exact own_set hON (Nat.lt_succ_self _)
              · exact (HBA.out.grown HGR.out HBA.out.size (fun j hj => by have := (World.ownsRow.lt HOA.out j hj).1; omega)).setCell (by show w.heap.size ≤ w4.heap.size; omega) _
              · exact (HZA.out.grown HGR.out HOA.out (by omega)).far (by show w.heap.size ≠ w4.heap.size; omega) _
              · rw [hln]
                exact HR9.out.flds
              · show (if m2 = true then (bs r).size + 1 else 0) < (bs rest).size + 1
                rw [bs_size, bs_size]
                split
                · rename_i e
                  have := hdec e
                  omega
                · omega
          · have hno : fieldsL (piecesC 44 c) = none := by
              rw [HLEFT.out.eq, List.append_assoc]
              exact fieldsL_bad HF.out (by rw [cut_miss hm])
            have hr : rdRec L = RecL.zero ∧ rdErr L = 10 := by
              have e : recL L = none := by
                unfold recL
                rw [HP.out]
                show (match numL b, fieldsL (piecesC 44 c) with
                  | some n, some fs => some (⟨bs a, n, fs, (piecesC 44 d).map bs⟩ : RecL)
                  | _, _ => none) = none
                rw [hno, HN2.out]
              unfold rdRec rdErr
              rw [e]
              exact ⟨rfl, rfl⟩
            have HR0 := Lib.hid hr
            have HBX := Lib.hid HB7.out
            obtain ⟨o0, o1, o2, o3, z0, z1, z2, z3⟩ := id HZ7.out
            rw [ix_miss hm]
            clear hr hno hm hfl hdl
            go_wp2_with fail
            refine bodyPost_ret (v := .tuple #[RecL.zero.v At.none, .int .i64 10]) (by simp [results, Tryz.results174, go_sem, o0, o1, o2, o3, z0, z1, z2, z3, RecL.zero, At.none]) rfl ?_
            unfold ReadNew
            rw [HR0.out.1, HR0.out.2]
            exact ⟨At.none, rfl, zero_in _, (((HBX.out.setCell h2 _).setCell h2 _).setCell h2 _).setCell h2 _, At.none_from _⟩
        | false =>
          have hfs : fieldsL (piecesC 44 c) = some fs := by
            rw [HL2.out.eq, if_neg (by simp), List.append_nil]
            exact HF.out
          have HFS := Lib.hid hfs
          obtain ⟨mb1, hmb1⟩ : ∃ mb1, mb1 = !(bs d).toList.isEmpty := ⟨_, rfl⟩
          have HMB1 := Lib.hid (more_first hmb1)
          clear hfs
          go_wp2_with fail
          rw [← hmb1]
          clear hmb1
          go_loopw [9, 16] (fun f m wr => ∃ (done : List (List UInt8)) (rs : List ByteArray) (A2 : Option Addr) (c2 : Nat) (rest : List UInt8) (mb : Bool), f = .string (bs rest) ∧ m = .bool mb ∧ Hid (OwnS (w4.heap.size + 1) wr (.slice A2 rs.length c2) rs) ∧ Hid (rs = done.map bs) ∧ Hid (Left d done rest mb) ∧ Hid (Below w.heap.size w wr) ∧ Hid (ZB w.heap.size wr) ∧ Hid (RB w4.heap.size (bs a) n (.slice A fs.length cc) (.slice A2 rs.length c2) wr) ∧ Hid (OwnF (w4.heap.size + 1) wr (.slice A fs.length cc) fs)) (fun f m _ => if isT m then lenOf f + 1 else 0)
          case atStart => exact ⟨[], [], none, 0, d, mb1, rfl, rfl, World.ownsRow_nil _ _ _ _, rfl, HMB1, HB, HZ, HR, HO⟩
          case round =>
            clear HMB1 HB HZ HR HO HF HL2
            obtain ⟨done2, rs, A2, c2, rest2, mb2, rfl, rfl, HO, HRS, HL2, HB, HZ, HR, HOF⟩ := hrel
            cases mb2 with
            | true =>
              obtain ⟨x, r, m2, hcut, hleft, hdec, hxl⟩ := HL2.out.step
              have HCUT := Lib.hid hcut
              have HLEFT := Lib.hid hleft
              have hdl := HL2.out.le
              have hrl : rs.length = done2.length := by rw [HRS.out, List.length_map]
              have hrb : rs.length ≤ 4294967300 := by have := HS.out.2.2.2.1; omega
              obtain ⟨X, hX⟩ : ∃ X, X = bs x := ⟨_, rfl⟩
              have HX := Lib.hid hX
              clear hcut hleft hxl hrl hdl
              go_wp2_with fail
              refine (cut_is (a := x) (r := r) (m := m2) (bs rest2) 44 wr (HE.out.below HB.out) (by rw [bs_size]; have := HL2.out.short; have := HS.out.2.2.2.1; omega) (by rw [data_bs]; exact HCUT.out)).mono ?_
              rintro e w7 ⟨rfl, hb7⟩
              rw [← hX]
              have HB7 := Lib.hid (HB.out.trans (hb7.mono HB.out.size))
              have HO7 := Lib.hid (OwnS.below HO.out hb7)
              have HF7 := Lib.hid (OwnF.below HOF.out hb7)
              have HZ7 := Lib.hid (HZ.out.below hb7)
              have HR7 := Lib.hid (HR.out.below hb7)
              have hA8 : Below w7.heap.size w7 (w7.alloc (.cells #[.string X] 9)) := (Below.refl _ _).alloc (Nat.le_refl _) _
              have HOA := Lib.hid (OwnS.below HO7.out hA8)
              have HFA := Lib.hid (OwnF.below HF7.out hA8)
              have HRA := Lib.hid (HR7.out.below hA8)
              have HZA := Lib.hid (HZ7.out.below hA8)
              have HBA := Lib.hid (HB7.out.trans (hA8.mono HB7.out.size))
              obtain ⟨x0, x1, x2, x3, y0, y1, y2, y3⟩ := id HR7.out
              have bl := HR7.out.lt
              have hq3 : w4.heap.size + 1 ≤ (w7.alloc (.cells #[.string X] 9)).heap.size := by simp; omega
              have HQ := Lib.hid hq3
              clear HB HO HOF HZ HR hb7 hX hA8 hq3
              go_wp2_with (at_builtin; refine wpList_append_lies _ rfl _ _ 29 rfl (w4.heap.size + 1) 9 iS _ 1 16 Tryz.underlying29 si sz0 sz1 sz2 rfl (by decide) (.slice A2 rs.length c2) rs.length (cellsS rs) rfl HOA.out ⟨w7.heap.size, 0, none⟩ 1 1 (cellsS [X]) rfl rfl (cell_str w7 X _) (cellsS_one [X]) (by decide) ?c1 ?c2 HQ.out _ rfl ?_)
              case c1 => unfold maxLen; omega
              case c2 => omega
              intro g cap w9 hown hgrow hat hlt
              have R9 := HRA.out.grown hgrow HOA.out (Nat.lt_succ_self _)
              have HOW := Lib.hid hown
              have HGR := Lib.hid hgrow
              have HR9 := Lib.hid R9
              obtain ⟨v0, v1, v2, v3, y0, y1, y2, y3⟩ := R9
              clear hown hgrow hat x0 x1 x2 x3
              go_wp2_with fail
              have hln : (rs ++ [X]).length = rs.length + 1 := by simp
              have hON : OwnS (w4.heap.size + 1) w9 (.slice (some ⟨g, 0, none⟩) (rs.length + 1) cap) (rs ++ [X]) := by
                unfold OwnS
                have e : cellsS (rs ++ [X]) = cellsS rs ++ cellsS [X] := by unfold cellsS; rw [List.map_append]
                rw [e, hln]
                exact HOW.out
              refine ⟨⟨done2 ++ [x], rs ++ [X], some ⟨g, 0, none⟩, cap, r, m2, rfl, rfl, ?_, ?_, HLEFT, ?_, ?_, ?_, ?_⟩, ?_⟩
              · rw [hln]
                exact own_set hON (Nat.lt_succ_self _)
              · show rs ++ [X] = (done2 ++ [x]).map bs
                rw [List.map_append, HRS.out, HX.out]
                rfl
              · exact (HBA.out.grown HGR.out HBA.out.size (fun j hj => by have := (World.ownsRow.lt HOA.out j hj).1; omega)).setCell (by show w.heap.size ≤ w4.heap.size; omega) _
              · exact (HZA.out.grown HGR.out HOA.out (by omega)).far (by show w.heap.size ≠ w4.heap.size; omega) _
              · rw [hln]
                exact HR9.out.refs
              · exact own_set (World.ownsRow.kept HFA.out HGR.out (own_apart HFA.out HOA.out)) (Nat.lt_succ_self _)
              · show (if m2 = true then (bs r).size + 1 else 0) < (bs rest2).size + 1
                rw [bs_size, bs_size]
                split
                · rename_i e
                  have := hdec e
                  omega
                · omega
            | false =>
              have hrs : rs = (piecesC 44 d).map bs := by
                rw [HL2.out.eq, if_neg (by simp), List.append_nil]
                exact HRS.out
              have HRL : Hid (recL L = some ⟨bs a, n, fs, rs⟩) := by
                show recL L = _
                unfold recL
                rw [HP.out]
                show (match numL b, fieldsL (piecesC 44 c) with
                  | some n, some fs => some (⟨bs a, n, fs, (piecesC 44 d).map bs⟩ : RecL)
                  | _, _ => none) = _
                rw [HN2.out, HFS.out, hrs]
              obtain ⟨R, hRe⟩ : ∃ R, R = (⟨bs a, n, fs, rs⟩ : RecL) := ⟨_, rfl⟩
              obtain ⟨p, hp⟩ : ∃ p, p = (⟨A, cc, A2, c2⟩ : At) := ⟨_, rfl⟩
              have hin : R.in_ p wr := by
                rw [hRe, hp]
                have h1 := OwnF.sl HOF.out
                have h2 := OwnS.sl HO.out
                exact ⟨h1.1, h2.1, h1.2.1, h2.2.1, h1.2.2, h2.2.2⟩
              have hsh : R.short := by
                have b1 := HS.out.2.2.1
                have b2 := HS.out.2.2.2.1
                have b3 := HS.out.2.2.2.2
                rw [hRe]
                refine ⟨?_, fun f hf => ?_, fun s hs => ?_⟩
                · show (bs a).size ≤ maxLen
                  rw [bs_size]
                  unfold maxLen
                  omega
                · have h1 := text_fieldsL HFS.out
                  have h2 : fieldText f ∈ piecesC 44 c := h1 ▸ List.mem_map_of_mem hf
                  have h3 := piecesC_le h2
                  have h4 := Lib.size_eq f.key
                  have h5 := Lib.size_eq f.val
                  unfold fieldText at h3
                  rw [List.length_append, List.length_cons] at h3
                  unfold FieldL.short maxLen
                  omega
                · have hs2 : s ∈ (piecesC 44 d).map bs := hrs ▸ hs
                  obtain ⟨y, hy, rfl⟩ := List.mem_map.1 hs2
                  have h3 := piecesC_le hy
                  rw [bs_size]
                  unfold maxLen
                  omega
              have hn1 : ∀ b off, p.fa = some ⟨b, off, none⟩ → b ≠ w.heap.size := fun b off e => by
                rw [hp] at e
                have := (World.ownsRow.lt HOF.out b (by rw [show A = _ from e]; rfl)).1
                omega
              have hn2 : ∀ b off, p.ra = some ⟨b, off, none⟩ → b ≠ w.heap.size := fun b off e => by
                rw [hp] at e
                have := (World.ownsRow.lt HO.out b (by rw [show A2 = _ from e]; rfl)).1
                omega
              have HFR := Lib.hid (show p.from_ (w.heap.size + 1) from ⟨fun b off e => by
                rw [hp] at e
                have := (World.ownsRow.lt HOF.out b (by rw [show A = _ from e]; rfl)).1
                omega, fun b off e => by
                rw [hp] at e
                have := (World.ownsRow.lt HO.out b (by rw [show A2 = _ from e]; rfl)).1
                omega⟩)
              have hrb : RecBlk R p w4.heap.size wr := by
                rw [hRe, hp]
                exact ⟨HR.out.c0, HR.out.c1, HR.out.c2, HR.out.c3⟩
              rw [← hRe] at HRL
              obtain ⟨er, her⟩ : ∃ er, R.err = er := ⟨_, rfl⟩
              have HREC := Lib.hid (refRecord_any R p wr hin hsh)
              rw [her] at HREC
              have HER := Lib.hid her
              have HIN := Lib.hid hin
              have HB2 := Lib.hid HB.out
              have HN1 := Lib.hid hn1
              have HN2' := Lib.hid hn2
              have HRB := Lib.hid hrb
              obtain ⟨x0, x1, x2, x3⟩ := hrb
              have bl := cell_lt x0
              clear hRe hp hrs hsh her hin hn1 hn2 HO HOF HR HL2 HRS HB
              go_wp2_with fail
              refine HREC.out.mono ?_
              rintro e w7 ⟨rfl, hb7⟩
              obtain ⟨o0, o1, o2, o3, z0, z1, z2, z3⟩ := HZ.out.below hb7
              obtain ⟨s0, s1, s2, s3⟩ := HRB.out.below hb7
              have HB7 := Lib.hid (HB2.out.trans (hb7.mono HB2.out.size))
              have HI7 := Lib.hid (HIN.out.below hb7)
              clear x0 x1 x2 x3 bl hb7
              have bl := cell_lt s0
              by_cases he0 : er = 0
              · have hr : rdRec L = R ∧ rdErr L = 0 := by
                  unfold rdRec rdErr
                  rw [HRL.out]
                  show (if R.err = 0 then R else RecL.zero) = R ∧ R.err = 0
                  rw [HER.out, if_pos he0]
                  exact ⟨rfl, he0⟩
                have HRR := Lib.hid hr
                subst he0
                clear hr
                go_wp2_with fail
                refine bodyPost_ret (v := .tuple #[R.v p, .int .i64 0]) (by simp [results, Tryz.results174, go_sem, o0, o1, o2, o3, z0, z1, z2, z3]) rfl ?_
                unfold ReadNew
                rw [HRR.out.1, HRR.out.2]
                have hi := HI7.out
                have hm1 := HN1.out
                have hm2 := HN2'.out
                exact ⟨p, rfl, ⟨(((hi.hf.far hm1 _).far hm1 _).far hm1 _).far hm1 _, (((hi.hr.far hm2 _).far hm2 _).far hm2 _).far hm2 _, hi.fl, hi.rl, hi.fm, hi.rm⟩, (((HB7.out.setCell h2 _).setCell h2 _).setCell h2 _).setCell h2 _, HFR.out⟩
              · have hr : rdRec L = RecL.zero ∧ rdErr L = er := by
                  unfold rdRec rdErr
                  rw [HRL.out]
                  show (if R.err = 0 then R else RecL.zero) = RecL.zero ∧ R.err = er
                  rw [HER.out, if_neg he0]
                  exact ⟨rfl, rfl⟩
                have HRR := Lib.hid hr
                have he1 : (er == 0) = false := by simpa using he0
                clear hr
                go_wp2_with fail
                refine bodyPost_ret (v := .tuple #[RecL.zero.v At.none, .int .i64 er]) (by simp [results, Tryz.results174, go_sem, o0, o1, o2, o3, z0, z1, z2, z3, RecL.zero, At.none]) rfl ?_
                unfold ReadNew
                rw [HRR.out.1, HRR.out.2]
                exact ⟨At.none, rfl, zero_in _, (((HB7.out.setCell h2 _).setCell h2 _).setCell h2 _).setCell h2 _, At.none_from _⟩
  · have hr : rdRec L = RecL.zero ∧ rdErr L = 10 := by
      have e : recL L = none := by
        unfold recL
        split
        · rename_i h
          rw [h] at hcn
          simp at hcn
          omega
        · rfl
      unfold rdRec rdErr
      rw [e]
      exact ⟨rfl, rfl⟩
    have HR := Lib.hid hr
    have h5 : ((N : Int) == 3) = false := by simp; omega
    have h6 : ¬ (N : Int) = 3 := by omega
    obtain ⟨o0, o1, o2, o3, z0, z1, z2, z3⟩ := Z1
    clear hr hcn h3
    go_wp2_with fail
    refine bodyPost_ret (v := .tuple #[RecL.zero.v At.none, .int .i64 10]) (by simp [results, Tryz.results174, go_sem, o0, o1, o2, o3, z0, z1, z2, z3, RecL.zero, At.none]) rfl ?_
    unfold ReadNew
    rw [HR.out.1, HR.out.2]
    exact ⟨At.none, rfl, zero_in _, (((hB1.setCell h2 _).setCell h2 _).setCell h2 _).setCell h2 _, At.none_from _⟩
end Go.Proofs.YtepenlciaanoeaaGreatDoor
