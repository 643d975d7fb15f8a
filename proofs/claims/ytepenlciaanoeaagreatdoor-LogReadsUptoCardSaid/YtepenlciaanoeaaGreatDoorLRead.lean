/- The contract of log.Read. -/
import Derived.Test.YtepenlciaanoeaaGreatDoorLRd6
import Derived.Test.YtepenlciaanoeaaGreatDoorLChk
set_option linter.unusedVariables false
set_option linter.unusedSimpArgs false
set_option maxRecDepth 100000
namespace Go.Proofs.YtepenlciaanoeaaGreatDoor
open Go.RowKit Go.Sort

/-! ## what a line says, in parts -/
theorem rdOp_none {s : List UInt8} (h : 10 ∉ s) : rdOp s = .error 7 := by
  unfold rdOp
  rw [if_neg h]
theorem rdOp_hit {a r : List UInt8} (ha : 10 ∉ a) : rdOp (a ++ 10 :: r) = match lineOp a with
    | .error e => (Except.error e : Except Int (OpL × Nat))
    | .ok o => .ok (o, a.length + 1) := by
  unfold rdOp
  rw [if_pos (by simp), cut_hit r ha]
  cases lineOp a <;> rfl
theorem rdOp_err {a r : List UInt8} {e : Int} (ha : 10 ∉ a) (h : lineOp a = .error e) : rdOp (a ++ 10 :: r) = .error e := by
  rw [rdOp_hit ha, h]
theorem rdOp_ok {a r : List UInt8} {o : OpL} (ha : 10 ∉ a) (h : lineOp a = .ok o) : rdOp (a ++ 10 :: r) = .ok (o, a.length + 1) := by
  rw [rdOp_hit ha, h]
theorem lineOp_bad {line : List UInt8} (h : ckE line ≠ 0) : lineOp line = .error (ckE line) := by rw [lineOp_ck, if_neg h]
theorem lineOp_good {line : List UInt8} (h : ckE line = 0) : lineOp line = opEnd (splitC 32 (ckS line)) := by rw [lineOp_ck, if_pos h]
theorem opEnd_none {ws : List (List UInt8)} (h : opOf ws = none) : opEnd ws = .error 10 := by unfold opEnd; rw [h]
theorem opEnd_err {ws : List (List UInt8)} {o : OpL} (h : opOf ws = some o) (h2 : logErr o ≠ 0) : opEnd ws = .error (logErr o) := by
  unfold opEnd
  rw [h]
  exact if_pos h2
theorem opEnd_ok {ws : List (List UInt8)} {o : OpL} (h : opOf ws = some o) (h2 : logErr o = 0) : opEnd ws = .ok o := by
  unfold opEnd
  rw [h]
  exact if_neg (fun k => k h2)
theorem ckS_len (line : List UInt8) : (ckS line).length ≤ line.length := by
  cases hm : markL line with
  | none =>
    rw [ckS_none hm]
    exact Nat.zero_le _
  | some p =>
    obtain ⟨a, b⟩ := p
    rw [ckS_some hm, (markL_some hm).1]
    split
    · simp
    · exact Nat.zero_le _
theorem splitC_len (c : UInt8) : ∀ l : List UInt8, (splitC c l).length ≤ l.length + 1 ∧ 1 ≤ (splitC c l).length
  | [] => ⟨Nat.le_refl _, Nat.le_refl _⟩
  | b :: r => by
    have ih := splitC_len c r
    unfold splitC
    split
    · simp only [List.length_cons]
      omega
    · split
      · simp
      · rename_i y ys hs
        rw [hs] at ih
        simp only [List.length_cons] at ih ⊢
        omega
theorem splitC_piece {c : UInt8} : ∀ {l x : List UInt8}, x ∈ splitC c l → x.length ≤ l.length
  | [], x, h => by
    rw [splitC] at h
    rw [List.mem_singleton.1 h]
    exact Nat.le_refl _
  | b :: r, x, h => by
    unfold splitC at h
    split at h
    · rcases List.mem_cons.1 h with rfl | h
      · exact Nat.zero_le _
      · have := splitC_piece h
        simp only [List.length_cons]
        omega
    · split at h
      · rw [List.mem_singleton.1 h]
        simp
      · rename_i y ys hs
        rcases List.mem_cons.1 h with rfl | h
        · have := splitC_piece (c := c) (l := r) (x := y) (by rw [hs]; simp)
          simp only [List.length_cons]
          omega
        · have := splitC_piece (c := c) (l := r) (x := x) (by rw [hs]; exact List.mem_cons_of_mem _ h)
          simp only [List.length_cons]
          omega

/-- what log.Read answers -/
def LReadTo (X : Except Int (OpL × Nat)) (w : World) (e : Ending) (w' : World) : Prop :=
  ∃ P : OpP, e = .returned (.tuple #[(opO X).v P, .int .i64 (opN X : Nat), .int .i64 (opE X)]) ∧ (opO X).in_ P w' ∧ Below w.heap.size w w' ∧ P.from_ w.heap.size
theorem opZero_in (w : World) : OpL.zero.in_ ⟨none, 0, At.none⟩ w := ⟨fun k hk => absurd hk (Nat.not_lt_zero k), Nat.le_refl _, Nat.zero_le _, ⟨SlF.nil _ _, SlS.nil _ _, Nat.le_refl _, Nat.le_refl _, Nat.zero_le _, Nat.zero_le _⟩, ⟨Nat.zero_le _, fun f h => (by cases h), fun s h => (by cases h)⟩, ⟨Nat.zero_le _, Nat.zero_le _⟩⟩

set_option maxHeartbeats 4000000 in
theorem logRead_any (s : ByteArray) (w : World) (hE : Env w) (hs : s.size < 4294967281) :
    Calls Tryz.prog 19 #[.string s] w (LReadTo (rdOp s.data.toList) w) := by
  have hA : Below w.heap.size w (w.alloc (.cells #[.int .i64 0, .int .i64 0, .int .i64 0, .int .i64 0, .slice none 0 0, .string ⟨#[]⟩, .int .i64 0, .slice none 0 0, .slice none 0 0, .string ⟨#[]⟩, .string ⟨#[]⟩, .string ⟨#[]⟩] 43)) := (Below.refl _ _).alloc (Nat.le_refl _) _
  obtain ⟨W, hW⟩ : ∃ W, w.alloc (.cells #[.int .i64 0, .int .i64 0, .int .i64 0, .int .i64 0, .slice none 0 0, .string ⟨#[]⟩, .int .i64 0, .slice none 0 0, .slice none 0 0, .string ⟨#[]⟩, .string ⟨#[]⟩, .string ⟨#[]⟩] 43) = W := ⟨_, rfl⟩
  have hsz : W.heap.size = w.heap.size + 1 := by rw [← hW]; simp
  have HZ : Hid (Zero12 w.heap.size W) := by rw [← hW]; exact Zero12.made w
  rw [hW] at hA
  have HE := Lib.hid (hE.below hA)
  have hcut := cut_any s 10 W (hE.below hA) hs
  have HA := Lib.hid hA
  have HW := Lib.hid hW
  have HSZ := Lib.hid hsz
  obtain ⟨X, hX⟩ : ∃ X, X = rdOp s.data.toList := ⟨_, rfl⟩
  rw [← hX]
  have hsl := Lib.size_eq s
  clear hE hA hW hsz
  by_cases hm : (10 : UInt8) ∈ s.data.toList
  · obtain ⟨a, r, hab, ha⟩ := cut_list hm
    rw [hab, cut_hit r ha] at hcut
    rw [hab] at hX
    have HCUT := Lib.hid hcut
    have hal : a.length + 1 ≤ s.size := by rw [hsl, hab]; simp
    obtain ⟨K, hK⟩ : ∃ K, K = a.length := ⟨_, rfl⟩
    rw [← hK] at hal
    have HK := Lib.hid hK
    have hbs : (bs a).size = K := by rw [bs_size, hK]
    have hw1 : wrap64 ((K : Int) + 1) = ((K + 1 : Nat) : Int) := by unfold wrap64; omega
    have HCK := Lib.hid (fun V (hV : Env V) => checkSum_any (bs a) V hV (by rw [hbs]; omega))
    rw [data_bs] at HCK
    obtain ⟨ce, hce⟩ : ∃ ce, ckE a = ce := ⟨_, rfl⟩
    obtain ⟨cs, hcs⟩ : ∃ cs, ckS a = cs := ⟨_, rfl⟩
    rw [hce, hcs] at HCK
    have HCE := Lib.hid hce
    have HCS := Lib.hid hcs
    have hcl : cs.length ≤ K := by rw [← hcs, hK]; exact ckS_len a
    have HX0 := Lib.hid hX
    have HAN := Lib.hid ha
    clear hm hcut hab hX hce hcs hK ha
    go_enter Tryz.func19, Tryz.ntmps19
    go_upto_region 1 with (fail)
    rw [HW.out]
    go_wp2_with fail
    refine HCUT.out.mono ?_
    rintro e w1 ⟨rfl, hb1⟩
    have HB1 := Lib.hid (HA.out.trans (hb1.mono HA.out.size))
    have HE1 := Lib.hid (HE.out.below hb1)
    have HZ1 := Lib.hid (HZ.out.below hb1)
    clear hb1
    go_wp2_with fail
    refine (HCK.out w1 HE1.out).mono ?_
    rintro e w2 ⟨rfl, hb2⟩
    have HB2 := Lib.hid (HB1.out.trans (hb2.mono HB1.out.size))
    have HE2 := Lib.hid (HE1.out.below hb2)
    have HZ2 := Lib.hid (HZ1.out.below hb2)
    clear hb2
    by_cases h0 : ce = 0
    · subst h0
      have HSP := Lib.hid (split_any (bs cs) 32 w2 HE2.out (by rw [bs_size]; omega))
      rw [data_bs] at HSP
      have hlo := lineOp_good HCE.out
      rw [HCS.out] at hlo
      have HLO := Lib.hid hlo
      obtain ⟨hpl, hp1⟩ := splitC_len 32 cs
      have HPL := Lib.hid (fun x (hx : x ∈ splitC 32 cs) => splitC_piece hx)
      obtain ⟨ps, hps⟩ : ∃ ps, ps = splitC 32 cs := ⟨_, rfl⟩
      rw [← hps] at HSP HLO hpl hp1 HPL
      obtain ⟨R, hR⟩ : ∃ R, opOf ps = R := ⟨_, rfl⟩
      have HRR := Lib.hid hR
      obtain ⟨m, hm⟩ : ∃ m, ps.length = m := ⟨_, rfl⟩
      rw [hm] at hpl hp1
      have HM := Lib.hid hm
      clear hlo hps hR hm
      go_wp2_with fail
      refine HSP.out.mono ?_
      rintro e w3 ⟨A, c, rfl, hsl3, hlc3, hcm3, hb3, hfr3⟩
      rw [List.length_map, HM.out] at hlc3 ⊢
      have hro : Calls Tryz.prog 99 #[.slice A m c] w3 (OpTo R w3) := by
        have hne : ps.map bs ≠ [] := fun e => by
          have := congrArg List.length e
          rw [List.length_map, HM.out] at this
          simp at this
          omega
        obtain ⟨x0, xr, hxs⟩ := List.exists_cons_of_ne_nil hne
        have hrl : xr.length + 1 = m := by
          have := congrArg List.length hxs
          rw [List.length_map, HM.out] at this
          simpa using this.symm
        have := readOp_any A c m x0 xr w3 (HE2.out.below hb3) (hxs ▸ hsl3) hrl hlc3 (by omega) (fun x hx => by
          have hx2 : x ∈ ps.map bs := by rw [hxs]; exact List.mem_cons_of_mem _ hx
          obtain ⟨y, hy, rfl⟩ := List.mem_map.1 hx2
          have := HPL.out y hy
          rw [bs_size]
          omega)
        rw [← hxs, List.map_map, show ((fun s : ByteArray => s.data.toList) ∘ bs) = id from funext fun l => data_bs l, List.map_id, HRR.out] at this
        exact this
      have HRO := Lib.hid hro
      have HB3 := Lib.hid (HB2.out.trans (hb3.mono HB2.out.size))
      have HE3 := Lib.hid (HE2.out.below hb3)
      have HZ3 := Lib.hid (HZ2.out.below hb3)
      clear hsl3 hlc3 hcm3 hb3 hfr3 hro
      go_wp2_with fail
      refine HRO.out.mono ?_
      rintro e w4 ⟨q, P, rfl, hq, hb4, hpf⟩
      have HB4 := Lib.hid (HB3.out.trans (hb4.mono HB3.out.size))
      have HE4 := Lib.hid (HE3.out.below hb4)
      have HZ4 := Lib.hid (HZ3.out.below hb4)
      have HQ := Lib.hid hq
      have HPF := Lib.hid (show P.from_ (w.heap.size + 1) from fun b off h => by
        have h1 := hpf b off h
        have h2 := HB3.out.size
        have h3 := HZ3.out.c0
        have := cell_lt h3
        omega)
      obtain ⟨w5, hw5⟩ : ∃ w5, w4.alloc (.cells #[.int .i64 q.kind, .int .i64 q.who.role, .int .i64 q.who.why, .int .i64 q.who.time, .slice P.ra q.n P.rc, .string q.r.id, .int .i64 q.r.cats, .slice P.p.fa q.r.fs.length P.p.fc, .slice P.p.ra q.r.rs.length P.p.rc, .string q.id, .string q.f.key, .string q.f.val] 43) = w5 := ⟨_, rfl⟩
      have h45 : Below w4.heap.size w4 w5 := hw5 ▸ (Below.refl _ _).alloc (Nat.le_refl _) _
      have HO5 := Lib.hid (show OpAt w5 w4.heap.size 0 ⟨q, P⟩ from by rw [← hw5]; constructor <;> simp [go_sem])
      have HB5 := Lib.hid (HB4.out.trans (h45.mono HB4.out.size))
      have HE5 := Lib.hid (HE4.out.below h45)
      have HZ5 := Lib.hid (HZ4.out.below h45)
      have HW5 := Lib.hid hw5
      have H45 := Lib.hid h45
      clear hq hb4 hpf hw5 h45
      cases R with
      | none =>
        have HX : Hid (X = .error 10) := by
          show X = _
          rw [HX0.out]
          exact rdOp_err HAN.out (HLO.out.trans (opEnd_none HRR.out))
        obtain ⟨u0, u1, u2, u3, u4, u5, u6, u7, u8, u9, u10, u11, uf⟩ := HZ5.out
        have v0 := uf 0
        have v1 := uf 1
        have v2 := uf 2
        have v3 := uf 3
        have v4 := uf 4
        have v5 := uf 5
        have v6 := uf 6
        have v7 := uf 7
        have v8 := uf 8
        have v9 := uf 9
        have v10 := uf 10
        have v11 := uf 11
        have hul := cell_lt u0
        clear uf
        go_upto_region 8 with (fail)
        rw [HW5.out]
        go_wp2_with fail
        refine bodyPost_ret (v := .tuple #[OpL.zero.v ⟨none, 0, At.none⟩, .int .i64 0, .int .i64 10]) (by simp [results, Tryz.results19, go_sem, u0, u1, u2, u3, u4, u5, u6, u7, u8, u9, u10, u11, v0, v1, v2, v3, v4, v5, v6, v7, v8, v9, v10, v11, OpL.zero, RecL.zero, At.none, fld0, who0]) rfl ?_
        have hBX := HB5.out
        rw [HX.out]
        exact ⟨⟨none, 0, At.none⟩, rfl, opZero_in _, by go_grown, OpP.none_from _⟩
      | some o =>
        obtain ⟨rfl, hoi⟩ := HQ.out o rfl
        have HI5 := Lib.hid (hoi.below H45.out)
        obtain ⟨er, her⟩ : ∃ er, logErr q = er := ⟨_, rfl⟩
        have HER := Lib.hid her
        have HCC := Lib.hid (logCheck_is q P w5 HI5.out her)
        clear hoi her
        obtain ⟨x0, x1, x2, x3, x4, x5, x6, x7, x8, x9, x10, x11⟩ := HO5.out
        simp only [Nat.zero_add] at x0 x1 x2 x3 x4 x5 x6 x7 x8 x9 x10 x11
        go_upto_region 8 with (fail)
        rw [HW5.out]
        go_wp2_with fail
        refine HCC.out.mono ?_
        rintro e w6 ⟨rfl, hb6⟩
        have HB6 := Lib.hid (HB5.out.trans (hb6.mono HB5.out.size))
        have HZ6 := Lib.hid (HZ5.out.below hb6)
        have HI6 := Lib.hid (HI5.out.below hb6)
        have HO6 := Lib.hid (HO5.out.below hb6)
        clear hb6 x0 x1 x2 x3 x4 x5 x6 x7 x8 x9 x10 x11
        by_cases he0 : er = 0
        · subst he0
          have HX : Hid (X = .ok (q, K + 1)) := by
            show X = _
            rw [HX0.out, HK.out]
            exact rdOp_ok HAN.out (HLO.out.trans (opEnd_ok HRR.out HER.out))
          obtain ⟨x0, x1, x2, x3, x4, x5, x6, x7, x8, x9, x10, x11⟩ := HO6.out
          simp only [Nat.zero_add] at x0 x1 x2 x3 x4 x5 x6 x7 x8 x9 x10 x11
          have hxl := cell_lt x0
          obtain ⟨u0, u1, u2, u3, u4, u5, u6, u7, u8, u9, u10, u11, uf⟩ := HZ6.out
          have v0 := uf 0
          have v1 := uf 1
          have v2 := uf 2
          have v3 := uf 3
          have v4 := uf 4
          have v5 := uf 5
          have v6 := uf 6
          have v7 := uf 7
          have v8 := uf 8
          have v9 := uf 9
          have v10 := uf 10
          have v11 := uf 11
          have hul := cell_lt u0
          clear uf
          go_wp2_with fail
          refine bodyPost_ret (v := .tuple #[q.v P, .int .i64 ((K + 1 : Nat) : Int), .int .i64 0]) (by simp [results, Tryz.results19, go_sem, u0, u1, u2, u3, u4, u5, u6, u7, u8, u9, u10, u11, v0, v1, v2, v3, v4, v5, v6, v7, v8, v9, v10, v11]) rfl ?_
          have hBX := HB6.out
          rw [HX.out]
          refine ⟨P, rfl, ?_, by go_grown, fun b off h => Nat.le_of_lt (HPF.out b off h)⟩
          iterate 12 refine OpL.in_.far ?_ (fun b off h => Nat.ne_of_gt (show w.heap.size < b from HPF.out b off h)) _
          exact HI6.out
        · have he0f : (er == 0) = false := by simpa using he0
          have HX : Hid (X = .error er) := by
            show X = _
            rw [HX0.out, ← HER.out]
            exact rdOp_err HAN.out (HLO.out.trans (opEnd_err HRR.out (fun k => he0 (HER.out.symm.trans k))))
          obtain ⟨u0, u1, u2, u3, u4, u5, u6, u7, u8, u9, u10, u11, uf⟩ := HZ6.out
          have v0 := uf 0
          have v1 := uf 1
          have v2 := uf 2
          have v3 := uf 3
          have v4 := uf 4
          have v5 := uf 5
          have v6 := uf 6
          have v7 := uf 7
          have v8 := uf 8
          have v9 := uf 9
          have v10 := uf 10
          have v11 := uf 11
          have hul := cell_lt u0
          clear uf
          go_wp2_with fail
          refine bodyPost_ret (v := .tuple #[OpL.zero.v ⟨none, 0, At.none⟩, .int .i64 0, .int .i64 er]) (by simp [results, Tryz.results19, go_sem, u0, u1, u2, u3, u4, u5, u6, u7, u8, u9, u10, u11, v0, v1, v2, v3, v4, v5, v6, v7, v8, v9, v10, v11, OpL.zero, RecL.zero, At.none, fld0, who0]) rfl ?_
          have hBX := HB6.out
          rw [HX.out]
          exact ⟨⟨none, 0, At.none⟩, rfl, opZero_in _, by go_grown, OpP.none_from _⟩
    · have h0f : (ce == 0) = false := by simpa using h0
      have HX : Hid (X = .error ce) := by
        show X = _
        rw [HX0.out, ← HCE.out]
        exact rdOp_err HAN.out (lineOp_bad (fun k => h0 (HCE.out.symm.trans k)))
      obtain ⟨u0, u1, u2, u3, u4, u5, u6, u7, u8, u9, u10, u11, uf⟩ := HZ2.out
      have v0 := uf 0
      have v1 := uf 1
      have v2 := uf 2
      have v3 := uf 3
      have v4 := uf 4
      have v5 := uf 5
      have v6 := uf 6
      have v7 := uf 7
      have v8 := uf 8
      have v9 := uf 9
      have v10 := uf 10
      have v11 := uf 11
      have hul := cell_lt u0
      clear uf
      go_wp2_with fail
      refine bodyPost_ret (v := .tuple #[OpL.zero.v ⟨none, 0, At.none⟩, .int .i64 0, .int .i64 ce]) (by simp [results, Tryz.results19, go_sem, u0, u1, u2, u3, u4, u5, u6, u7, u8, u9, u10, u11, v0, v1, v2, v3, v4, v5, v6, v7, v8, v9, v10, v11, OpL.zero, RecL.zero, At.none, fld0, who0]) rfl ?_
      have hBX := HB2.out
      rw [HX.out]
      exact ⟨⟨none, 0, At.none⟩, rfl, opZero_in _, by go_grown, OpP.none_from _⟩
  · have HX : Hid (X = .error 7) := by
      show X = _
      rw [hX]
      exact rdOp_none hm
    rw [cut_miss hm] at hcut
    have HCUT := Lib.hid hcut
    clear hcut hX hm
    go_enter Tryz.func19, Tryz.ntmps19
    go_upto_region 1 with (fail)
    rw [HW.out]
    go_wp2_with fail
    refine HCUT.out.mono ?_
    rintro e w1 ⟨rfl, hb1⟩
    have HB1 := Lib.hid (HA.out.trans (hb1.mono HA.out.size))
    obtain ⟨u0, u1, u2, u3, u4, u5, u6, u7, u8, u9, u10, u11, uf⟩ := (HZ.out.below hb1)
    have v0 := uf 0
    have v1 := uf 1
    have v2 := uf 2
    have v3 := uf 3
    have v4 := uf 4
    have v5 := uf 5
    have v6 := uf 6
    have v7 := uf 7
    have v8 := uf 8
    have v9 := uf 9
    have v10 := uf 10
    have v11 := uf 11
    have hul := cell_lt u0
    clear uf
    go_wp2_with fail
    refine bodyPost_ret (v := .tuple #[OpL.zero.v ⟨none, 0, At.none⟩, .int .i64 0, .int .i64 7]) (by simp [results, Tryz.results19, go_sem, u0, u1, u2, u3, u4, u5, u6, u7, u8, u9, u10, u11, v0, v1, v2, v3, v4, v5, v6, v7, v8, v9, v10, v11, OpL.zero, RecL.zero, At.none, fld0, who0]) rfl ?_
    have hBX := HB1.out
    rw [HX.out]
    exact ⟨⟨none, 0, At.none⟩, rfl, opZero_in _, by go_grown, OpP.none_from _⟩
end Go.Proofs.YtepenlciaanoeaaGreatDoor
