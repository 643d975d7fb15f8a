/- LogBad: a line that is wrong is told, whatever stands ahead, and behind: the walk. -/
import Derived.Test.YtbchfodmdgogjaaGreatDoorLWrtn
import Derived.Test.YtbchfodmdgogjaaGreatDoorLAll
import Derived.Test.YtbchfodmdgogjaaGreatDoorLLit
set_option linter.unusedVariables false
set_option linter.unusedSimpArgs false
set_option maxRecDepth 100000
namespace Go.Proofs.YtbchfodmdgogjaaGreatDoor
open Go.RowKit Go.Sort

theorem SlO.take {w : World} {a : Option Addr} {l : List OO} (h : SlO w a l) (n : Nat) : SlO w a (l.take n) := fun k x hk => h k x (by
  rw [List.getElem?_take] at hk
  split at hk
  · exact hk
  · cases hk)
theorem cut_ahead : ∀ l : List UInt8, 10 ∉ (Lib.cut l [10]).1 ∧ (Lib.cut l [10]).1.length ≤ l.length := fun l => by
  by_cases h : (10 : UInt8) ∈ l
  · obtain ⟨a, r, rfl, ha⟩ := cut_list h
    rw [cut_hit r ha]
    exact ⟨ha, by simp⟩
  · rw [cut_miss h]
    exact ⟨h, Nat.le_refl _⟩
theorem recErr_ne7 (r : RecL) : r.err ≠ 7 := by
  unfold RecL.err
  split
  · decide
  · split
    · decide
    · split
      · decide
      · split <;> decide
theorem logErr_ne7 (o : OpL) : logErr o ≠ 7 := by
  unfold logErr
  split
  · rcases rulesErr_cases o.n o.rs with h | h | h | h <;> rw [h] <;> decide
  · split
    · split
      · exact recErr_ne7 _
      · decide
    · split
      · split
        · split <;> decide
        · decide
      · decide
theorem ckE_ne7 (line : List UInt8) : ckE line ≠ 7 := by
  unfold ckE
  split
  · decide
  · unfold ckN
    split
    · decide
    · split
      · decide
      · split <;> decide
theorem lineOp_not7 {line : List UInt8} (h : lineOp line = .error 7) : False := by
  rw [lineOp_ck] at h
  split at h
  · unfold opEnd at h
    split at h
    · cases h
    · split at h
      · injection h with h
        exact logErr_ne7 _ h
      · cases h
  · injection h with h
    exact ckE_ne7 _ h
/-- a line, and what stands ahead and behind -/
theorem bad_all {M M' : List OpL} {line : List UInt8} {X : Except Int (OpL × Nat)} (hM : ∀ o ∈ M, logErr o = 0) (hM' : ∀ o ∈ M', logErr o = 0) (hl : 10 ∉ line) (hX : rdOp (line ++ [10]) = X) :
    ∃ y, AllTo (logText M ++ line ++ [10] ++ logText M') y ∧ ((∃ e, X = .error e ∧ e ≠ 7 ∧ e ≠ 0 ∧ y = .error e) ∨ ∃ p l, X = .ok p ∧ y = .ok (l, (logText M ++ line ++ [10] ++ logText M').length)) := by
  have hrest : rdOp (line ++ [10] ++ logText M') = match lineOp line with
      | .error e => (Except.error e : Except Int (OpL × Nat))
      | .ok o => .ok (o, line.length + 1) := by
    have e : line ++ [10] ++ logText M' = line ++ 10 :: logText M' := by simp
    rw [e]
    exact rdOp_hit hl
  have hx : X = match lineOp line with
      | .error e => (Except.error e : Except Int (OpL × Nat))
      | .ok o => .ok (o, line.length + 1) := by rw [← hX]; exact rdOp_hit hl
  have e0 : logText M ++ line ++ [10] ++ logText M' = logText M ++ (line ++ [10] ++ logText M') := by simp
  rw [e0]
  cases hlo : lineOp line with
  | error e =>
    rw [hlo] at hrest hx
    have h7 : e ≠ 7 := fun k => by
      subst k
      have h10 : (10 : UInt8) ∈ line ++ [10] := by simp
      exact lineOp_not7 hlo
    exact ⟨_, all_lines hM (.bad hrest h7), .inl ⟨e, hx, h7, rd_error (hX.trans hx), rfl⟩⟩
  | ok o =>
    rw [hlo] at hrest hx
    have h2 := AllTo.more hrest (x := .ok (M'.map OpL.plain, (logText M').length)) (by
      have e : (line ++ [10] ++ logText M').drop (line.length + 1) = logText M' := by
        rw [List.drop_left' (by simp)]
      rw [e]
      exact all_log hM')
    refine ⟨_, all_lines hM h2, .inr ⟨_, M.map OpL.plain ++ ([o] ++ M'.map OpL.plain), hx, ?_⟩⟩
    have e : (logText M ++ (line ++ [10] ++ logText M')).length = (logText M).length + (line.length + 1 + (logText M').length) := by simp only [List.length_append, List.length_singleton]
    rw [e]
    rfl

set_option maxHeartbeats 4000000 in
theorem logBad_walk (a : Option Addr) (cap : Nat) (l : List OO) (a' : Option Addr) (cap' : Nat) (l' : List OO) (s : ByteArray) (w : World) (hE : Env w) (hs : SlO w a l) (hl : l.length ≤ cap) (hm : cap ≤ maxLen) (hs' : SlO w a' l') (hl' : l'.length ≤ cap') (hm' : cap' ≤ maxLen) (hz : s.size ≤ 1048576) :
    Calls Tryz.prog 8 #[.slice a l.length cap, .slice a' l'.length cap', .string s] w fun e w' => e = .returned (.bool true) ∧ Below w.heap.size w w' := by
  have HE := Lib.hid hE
  have HS := Lib.hid hs
  have HS' := Lib.hid hs'
  obtain ⟨N, hN⟩ : ∃ N, l.length = N := ⟨_, rfl⟩
  obtain ⟨N', hN'⟩ : ∃ N, l'.length = N := ⟨_, rfl⟩
  rw [hN] at hl ⊢
  rw [hN'] at hl' ⊢
  unfold maxLen at hm hm'
  obtain ⟨K, hK⟩ : ∃ K, K = min N 6 := ⟨_, rfl⟩
  obtain ⟨K', hK'⟩ : ∃ K, K = min N' 6 := ⟨_, rfl⟩
  have k1 : K ≤ N := by omega
  have k2 : K ≤ 6 := by omega
  have k1' : K' ≤ N' := by omega
  have k2' : K' ≤ 6 := by omega
  have hmin : min (N : Int) 6 = (K : Int) := by omega
  have hmin' : min (N' : Int) 6 = (K' : Int) := by omega
  have HN := Lib.hid (show (l.take K).length = K by rw [List.length_take]; omega)
  have HN' := Lib.hid (show (l'.take K').length = K' by rw [List.length_take]; omega)
  have HKM := Lib.hid (show K ≤ maxLen ∧ K' ≤ maxLen by unfold maxLen; omega)
  have HALL := Lib.hid (logAll_short ⟨#[114, 117, 108, 101, 115, 32, 61, 49, 54, 53, 49, 10, 114, 117, 108, 101, 115, 32, 61, 49, 54, 53, 50, 10]⟩ _ w HE.out (show 24 ≤ 20000 by omega) ru_all_bad)
  have i1 : (K : Int) ≤ (cap : Int) := by omega
  have i2 : (K' : Int) ≤ (cap' : Int) := by omega
  have i3 : (0 : Int) ≤ (K : Int) := by omega
  have i4 : (0 : Int) ≤ (K' : Int) := by omega
  obtain ⟨hc10, hclen⟩ := cut_ahead s.data.toList
  obtain ⟨LN, hLN⟩ : ∃ LN, (Lib.cut s.data.toList [10]).1 = LN := ⟨_, rfl⟩
  rw [hLN] at hc10 hclen
  rw [← Lib.size_eq] at hclen
  have HCUT := Lib.hid (fun W (hW : Env W) => hLN ▸ cut_any s 10 W hW (by omega))
  have HC10 := Lib.hid hc10
  have HCL := Lib.hid (show LN.length ≤ 1048576 by omega)
  clear hE hs hs' hN hN' hK hK' hl hl' hm hm' hLN hc10 hclen hz
  go_enter Tryz.func8, Tryz.ntmps8
  go_wp2_with fail
  refine HALL.out.mono ?_
  rintro e w1 ⟨hb1, rfl⟩
  have HB1 := Lib.hid hb1
  clear hb1 HALL
  go_wp2_with fail
  refine (written_any a (l.take K) K cap w1 (HE.out.below HB1.out) ((HS.out.take K).below HB1.out) HN.out HKM.out.1).mono ?_
  rintro e w2 ⟨M, L, n, A, c, rfl, _, _, hMe, hMl, _, hb2⟩
  have HB2 := Lib.hid (HB1.out.trans (hb2.mono HB1.out.size))
  have HME := Lib.hid hMe
  have HML := Lib.hid hMl
  obtain ⟨S, hS⟩ : ∃ S, bs (logText M) = S := ⟨_, rfl⟩
  rw [hS]
  have HSS := Lib.hid hS
  clear hb2 hMe hMl hS
  go_wp2_with fail
  refine (written_any a' (l'.take K') K' cap' w2 (HE.out.below HB2.out) ((HS'.out.take K').below HB2.out) HN'.out HKM.out.2).mono ?_
  rintro e w3 ⟨M', L', n', A', c', rfl, _, _, hMe', hMl', _, hb3⟩
  have HB3 := Lib.hid (HB2.out.trans (hb3.mono HB2.out.size))
  have HME' := Lib.hid hMe'
  have HML' := Lib.hid hMl'
  obtain ⟨S', hS'⟩ : ∃ S, bs (logText M') = S := ⟨_, rfl⟩
  rw [hS']
  have HSS' := Lib.hid hS'
  clear hb3 hMe' hMl' hS'
  go_wp2_with fail
  refine (HCUT.out w3 (HE.out.below HB3.out)).mono ?_
  rintro e w4 ⟨rfl, hb4⟩
  have HB4 := Lib.hid (HB3.out.trans (hb4.mono HB3.out.size))
  obtain ⟨X, hX⟩ : ∃ X, rdOp (LN ++ [10]) = X := ⟨_, rfl⟩
  obtain ⟨y, hy1, hy2⟩ := bad_all HME.out HME'.out HC10.out hX
  obtain ⟨LB, hLB⟩ : ∃ LB, bs LN ++ ⟨#[10]⟩ = LB := ⟨_, rfl⟩
  have hLBd : LB.data.toList = LN ++ [10] := by rw [← hLB, data_append, data_bs]
  have hLBz : LB.size ≤ 1048577 := by
    rw [Lib.size_eq, hLBd, List.length_append, List.length_singleton]
    have := HCL.out
    omega
  have hrd := logRead_any LB w4 (HE.out.below HB4.out) (by omega)
  rw [hLBd, hX] at hrd
  have HRD := Lib.hid hrd
  obtain ⟨B1, hB1⟩ : ∃ B1, S ++ bs LN = B1 := ⟨_, rfl⟩
  obtain ⟨B2, hB2⟩ : ∃ B2, B1 ++ ⟨#[10]⟩ = B2 := ⟨_, rfl⟩
  obtain ⟨Z, hZ⟩ : ∃ Z, B2 ++ S' = Z := ⟨_, rfl⟩
  have hz1 : S.size ≤ 20000 := by rw [← HSS.out, bs_size]; exact HML.out
  have hz2 : S'.size ≤ 20000 := by rw [← HSS'.out, bs_size]; exact HML'.out
  have hzl : (bs LN).size ≤ 1048576 := by rw [bs_size]; exact HCL.out
  have s1 : B1.size ≤ 1068576 := by rw [Lib.size_eq, ← hB1, data_append, List.length_append, ← Lib.size_eq, ← Lib.size_eq]; omega
  have s2 : B2.size ≤ 1068577 := by
    rw [Lib.size_eq, ← hB2, data_append, List.length_append, ← Lib.size_eq]
    show B1.size + 1 ≤ _
    omega
  have a0 : ∀ W, (Op.stringOp .add (bs LN) ⟨#[10]⟩).run Tryz.prog W = .ok (.string LB) W := fun W => by
    rw [run_string_add_sum W _ _ (by show (bs LN).size + 1 ≤ _; omega), hLB]
  have a1 : ∀ W, (Op.stringOp .add S (bs LN)).run Tryz.prog W = .ok (.string B1) W := fun W => by
    rw [run_string_add_sum W _ _ (by omega), hB1]
  have a2 : ∀ W, (Op.stringOp .add B1 ⟨#[10]⟩).run Tryz.prog W = .ok (.string B2) W := fun W => by
    rw [run_string_add_sum W _ _ (by show B1.size + 1 ≤ _; omega), hB2]
  have a3 : ∀ W, (Op.stringOp .add B2 S').run Tryz.prog W = .ok (.string Z) W := fun W => by
    rw [run_string_add_sum W _ _ (by omega), hZ]
  have hZd : Z.data.toList = logText M ++ LN ++ [10] ++ logText M' := by
    rw [← hZ, data_append, ← hB2, data_append, ← hB1, data_append, ← HSS.out, ← HSS'.out, data_bs, data_bs, data_bs]
  rw [← hZd, ← Lib.size_eq] at hy2
  rw [← hZd] at hy1
  have HY1 := Lib.hid hy1
  have HY2 := Lib.hid hy2
  clear hb4 hX hy1 hy2 hLB hLBd hLBz hrd hB1 hB2 hZ hz1 hz2 hzl s1 s2 hZd
  go_wp2_with fail
  refine HRD.out.mono ?_
  rintro e w5 ⟨P, rfl, _, hb5, _⟩
  have HB5 := Lib.hid (HB4.out.trans (hb5.mono HB4.out.size))
  obtain ⟨o, ho⟩ : ∃ o, opO X = o := ⟨_, rfl⟩
  obtain ⟨m, hm⟩ : ∃ m, opN X = m := ⟨_, rfl⟩
  obtain ⟨er, her⟩ : ∃ er, opE X = er := ⟨_, rfl⟩
  rw [ho, hm, her]
  have HER := Lib.hid her
  obtain ⟨w6, hw6⟩ : ∃ w6, w5.alloc (.cells #[.int .i64 o.kind, .int .i64 o.who.role, .int .i64 o.who.why, .int .i64 o.who.time, .slice P.ra o.n P.rc, .string o.r.id, .int .i64 o.r.cats, .slice P.p.fa o.r.fs.length P.p.fc, .slice P.p.ra o.r.rs.length P.p.rc, .string o.id, .string o.f.key, .string o.f.val] 32) = w6 := ⟨_, rfl⟩
  have h56 : Below w5.heap.size w5 w6 := hw6 ▸ (Below.refl _ _).alloc (Nat.le_refl _) _
  have HB6 := Lib.hid (HB5.out.trans (h56.mono HB5.out.size))
  have HW6 := Lib.hid hw6
  clear hb5 ho hm her hw6 h56 HRD
  by_cases hfit : Z.size ≤ 20000
  · have hf1 : ¬ (20000 : Int) < (Z.size : Int) := by omega
    have HA2 := Lib.hid (logAll_short Z y w6 (HE.out.below HB6.out) hfit HY1.out)
    clear hfit
    go_upto_region 10 with (fail)
    rw [HW6.out]
    go_wp2_with fail
    refine HA2.out.mono ?_
    rintro e w7 ⟨hb7, hr⟩
    have HB7 := Lib.hid (HB6.out.trans (hb7.mono HB6.out.size))
    clear hb7
    rcases HY2.out with ⟨e1, hXe, h7, he0, hye⟩ | ⟨p, l2, hXo, hyo⟩
    · rw [hye] at hr
      replace hr : e = .returned (.tuple #[.slice none 0 0, .int .i64 0, .int .i64 e1]) := hr
      subst hr
      have he : er = e1 := by
        have h := HER.out
        rw [hXe] at h
        exact h.symm
      subst he
      have he0f : (er == 0) = false := by simpa using he0
      have he1 : (er != 0) = true := by simp [bne, he0f]
      clear hye hXe h7
      go_wp2_with fail
      go_ret
      exact ⟨rfl, HB7.out⟩
    · rw [hyo] at hr
      obtain ⟨L7, n7, A7, c7, rfl, _, _, _⟩ := hr
      have he : er = 0 := by
        have h := HER.out
        rw [hXo] at h
        exact h.symm
      subst he
      clear hyo hXo
      go_wp2_with fail
      go_ret
      exact ⟨rfl, HB7.out⟩
  · have hf1 : (20000 : Int) < (Z.size : Int) := by omega
    clear hfit
    go_upto_region 10 with (fail)
    rw [HW6.out]
    go_wp2_with fail
    go_ret
    exact ⟨rfl, HB6.out⟩
end Go.Proofs.YtbchfodmdgogjaaGreatDoor
