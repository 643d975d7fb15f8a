/- The contract of wyref.Entry. -/
import Derived.Test.YtepenlciaanoeaaGreatDoorLSaid
import Derived.Test.YtepenlciaanoeaaGreatDoorLRead
import Derived.Test.YtepenlciaanoeaaGreatDoorLRf1
set_option linter.unusedVariables false
set_option linter.unusedSimpArgs false
set_option maxRecDepth 100000
namespace Go.Proofs.YtepenlciaanoeaaGreatDoor
open Go.RowKit Go.Sort

/-- what wyref.Entry answers -/
def EntryTo (X : Except Int (OpL × Nat)) (w : World) (e : Ending) (w' : World) : Prop :=
  ∃ P : OpP, e = .returned (.tuple #[(opO X).v P, .int .i64 (opN X : Nat), .int .i64 (opE X)]) ∧ (opO X).in_ P w' ∧ Below w.heap.size w w' ∧ P.from_ w.heap.size
theorem occ_ext {a : List UInt8} {k : Nat} (h : k + 2 ≤ a.length) : (((bs a).extract k (k + 2)).toList == [32, 61]) = Lib.occAt a [32, 61] k := by
  rw [Lib.toList_data, ext_data, data_bs]
  unfold Lib.occAt
  obtain ⟨x, y, r, hr⟩ : ∃ x y r, a.drop k = x :: y :: r := by
    have hl : (a.drop k).length = a.length - k := List.length_drop ..
    match hd : a.drop k with
    | [] => rw [hd] at hl; simp at hl; omega
    | [x] => rw [hd] at hl; simp at hl; omega
    | x :: y :: r => exact ⟨x, y, r, rfl⟩
  rw [hr]
  have e : k + 2 - k = 2 := by omega
  rw [e]
  show ([x, y] == [32, 61]) = ([32, 61] : List UInt8).isPrefixOf (x :: y :: r)
  rw [Bool.eq_iff_iff, beq_iff_eq]
  simp [List.isPrefixOf]
  constructor
  · rintro ⟨rfl, rfl⟩
    exact ⟨rfl, rfl⟩
  · rintro ⟨rfl, rfl⟩
    exact ⟨rfl, rfl⟩
theorem last_all (a : List UInt8) : Lib.lastOcc a [32, 61] (a.length - 1) = match markL a with
    | none => -1
    | some p => (p.1.length : Int) := by
  have h2 := last_mark a
  have h3 : Lib.lastOcc a [32, 61] (a.length - 1) = Lib.lastIndex a [32, 61] := by
    unfold Lib.lastIndex
    by_cases h : ([32, 61] : List UInt8).length ≤ a.length
    · rw [if_pos h]
      have e : a.length - ([32, 61] : List UInt8).length + 1 = a.length - 1 := by
        have e2 : ([32, 61] : List UInt8).length = 2 := rfl
        omega
      rw [e]
    · rw [if_neg h]
      have e : a.length - 1 = 0 := by
        have e2 : ([32, 61] : List UInt8).length = 2 := rfl
        omega
      rw [e]
      rfl
  rw [h3]
  cases hm : markL a with
  | none => rw [hm] at h2; exact h2
  | some p => rw [hm] at h2; exact h2

set_option maxHeartbeats 8000000 in
theorem refEntry_any (s : ByteArray) (w : World) (hE : Env w) (hs : s.size < 4294967281) :
    Calls Tryz.prog 22 #[.string s] w (EntryTo (rdOp s.data.toList) w) := by
  have hA : Below w.heap.size w (w.alloc (.cells #[.int .i64 0, .int .i64 0, .int .i64 0, .int .i64 0, .slice none 0 0, .string ⟨#[]⟩, .int .i64 0, .slice none 0 0, .slice none 0 0, .string ⟨#[]⟩, .string ⟨#[]⟩, .string ⟨#[]⟩] 43)) := (Below.refl _ _).alloc (Nat.le_refl _) _
  obtain ⟨W, hW⟩ : ∃ W, w.alloc (.cells #[.int .i64 0, .int .i64 0, .int .i64 0, .int .i64 0, .slice none 0 0, .string ⟨#[]⟩, .int .i64 0, .slice none 0 0, .slice none 0 0, .string ⟨#[]⟩, .string ⟨#[]⟩, .string ⟨#[]⟩] 43) = W := ⟨_, rfl⟩
  have hsz : W.heap.size = w.heap.size + 1 := by rw [← hW]; simp
  have HZ : Hid (Zero12 w.heap.size W) := by rw [← hW]; exact Zero12.made w
  rw [hW] at hA
  have HE := Lib.hid (hE.below hA)
  have hcut := cut_any s 10 W (hE.below hA) hs
  have HA := Lib.hid hA
  have HW := Lib.hid hW
  have HSZ := Lib.hid hsz
  obtain ⟨X, hX⟩ : ∃ X, X = rdOp s.data.toList := ⟨_, rfl⟩
  rw [← hX]
  have hsl := Lib.size_eq s
  clear hE hA hW hsz
  by_cases hm : (10 : UInt8) ∈ s.data.toList
  · obtain ⟨a, r, hab, ha⟩ := cut_list hm
    rw [hab, cut_hit r ha] at hcut
    rw [hab] at hX
    have HCUT := Lib.hid hcut
    have hal : a.length + 1 ≤ s.size := by rw [hsl, hab]; simp
    obtain ⟨K, hK⟩ : ∃ K, K = a.length := ⟨_, rfl⟩
    rw [← hK] at hal
    have HK := Lib.hid hK
    have hbs : (bs a).size = K := by rw [bs_size, hK]
    have hw1 : wrap64 ((K : Int) + 1) = ((K + 1 : Nat) : Int) := by unfold wrap64; omega
    obtain ⟨KI, hKI⟩ : ∃ KI : Int, KI = (K : Int) - 1 := ⟨_, rfl⟩
    have hw0 : wrap64 ((K : Int) - 1) = KI := by unfold wrap64; omega
    have HKI := Lib.hid hKI
    have HKS := Lib.hid (show K < 4294967281 by omega)
    have HX0 := Lib.hid hX
    have HAN := Lib.hid ha
    clear hm hcut hab hX hK ha hKI hal hsl hs
    go_enter Tryz.func22, Tryz.ntmps22
    go_upto_region 1 with (fail)
    rw [HW.out]
    go_wp2_with fail
    refine HCUT.out.mono ?_
    rintro e w1 ⟨rfl, hb1⟩
    have HB1 := Lib.hid (HA.out.trans (hb1.mono HA.out.size))
    have HE1 := Lib.hid (HE.out.below hb1)
    have HZ1 := Lib.hid (HZ.out.below hb1)
    clear hb1
    have HW1 := Lib.hid hw1
    clear hw1
    go_wp2_with fail
    go_loop [8, 25] (fun v i => ∃ k : Nat, k ≤ K - 1 ∧ i = .int .i64 k ∧ v = .int .i64 (Lib.lastOcc a [32, 61] k)) (fun v i => (K - 1) - (intOf i).toNat)
    case atStart => exact ⟨0, Nat.zero_le _, rfl, rfl⟩
    case round =>
      obtain ⟨k, hk, rfl, rfl⟩ := hrel
      by_cases hlt : k < K - 1
      · have h0 : (k : Int) < KI := by rw [HKI.out]; omega
        obtain ⟨tt, htt⟩ : ∃ tt, Lib.occAt a [32, 61] k = tt := ⟨_, rfl⟩
        have hte := occ_ext (a := a) (k := k) (by rw [← HK.out]; omega)
        rw [htt] at hte
        have j1 : (0 : Int) ≤ (k : Int) := by omega
        have j2 : (k : Int) ≤ ((k + 2 : Nat) : Int) := by omega
        have j3 : ((k + 2 : Nat) : Int) ≤ (K : Int) := by omega
        have HTT := Lib.hid htt
        have HLT := Lib.hid hlt
        have hw2 : wrap64 ((k : Int) + 2) = ((k + 2 : Nat) : Int) := by have := HKS.out; clear hte; unfold wrap64; omega
        have hwk : wrap64 ((k : Int) + 1) = ((k + 1 : Nat) : Int) := by have := HKS.out; clear hte hw2; unfold wrap64; omega
        clear htt hlt hk
        cases tt with
        | true =>
          go_wp2_with fail
          go_round
          case rel => exact ⟨k + 1, HLT.out, by rw [hwk], by rw [Lib.lastOcc_hit _ _ _ HTT.out]⟩
          case measure =>
            rw [hwk]
            exact Nat.sub_lt_sub_left HLT.out (Nat.lt_succ_self k)
        | false =>
          go_wp2_with fail
          go_round
          case rel => exact ⟨k + 1, HLT.out, by rw [hwk], by rw [Lib.lastOcc_miss _ _ _ HTT.out]⟩
          case measure =>
            rw [hwk]
            exact Nat.sub_lt_sub_left HLT.out (Nat.lt_succ_self k)
      · have h0 : ¬ (k : Int) < KI := by rw [HKI.out]; omega
        have hkk : k = a.length - 1 := by rw [← HK.out]; omega
        have hla := last_all a
        rw [← hkk] at hla
        have HKK := Lib.hid hkk
        clear hkk hk
        cases hmk : markL a with
        | none =>
          rw [hmk] at hla
          replace hla : Lib.lastOcc a [32, 61] k = -1 := hla
          rw [hla]
          have HX : Hid (X = .error 10) := by
            show X = _
            rw [HX0.out]
            have h := ckE_none hmk
            exact rdOp_err HAN.out (by rw [lineOp_bad (by rw [h]; decide), h])
          clear hmk hla
          obtain ⟨u0, u1, u2, u3, u4, u5, u6, u7, u8, u9, u10, u11, uf⟩ := HZ1.out
          have v0 := uf 0
          have v1 := uf 1
          have v2 := uf 2
          have v3 := uf 3
          have v4 := uf 4
          have v5 := uf 5
          have v6 := uf 6
          have v7 := uf 7
          have v8 := uf 8
          have v9 := uf 9
          have v10 := uf 10
          have v11 := uf 11
          have hul := cell_lt u0
          clear uf
          go_wp2_with fail
          refine bodyPost_ret (v := .tuple #[OpL.zero.v ⟨none, 0, At.none⟩, .int .i64 0, .int .i64 10]) (by simp [results, Tryz.results22, go_sem, u0, u1, u2, u3, u4, u5, u6, u7, u8, u9, u10, u11, v0, v1, v2, v3, v4, v5, v6, v7, v8, v9, v10, v11, OpL.zero, RecL.zero, At.none, fld0, who0]) rfl ?_
          have hBX := HB1.out
          rw [HX.out]
          exact ⟨⟨none, 0, At.none⟩, rfl, opZero_in _, by go_grown, OpP.none_from _⟩
        | some p =>
          obtain ⟨P1, Q1⟩ := p
          rw [hmk] at hla
          replace hla : Lib.lastOcc a [32, 61] k = (P1.length : Int) := hla
          obtain ⟨hl, hnm⟩ := markL_some hmk
          have hsz : K = P1.length + (Q1.length + 2) := by rw [HK.out, hl]; simp
          obtain ⟨J, hJ⟩ : ∃ J, J = P1.length := ⟨_, rfl⟩
          rw [← hJ] at hla hsz
          rw [hla]
          have HJ := Lib.hid hJ
          have HMK := Lib.hid hmk
          have hx1 : (bs a).extract (J + 2) K = bs Q1 := by
            apply data_inj
            rw [ext_data, data_bs, data_bs, hl, hsz, hJ]
            have : P1 ++ 32 :: 61 :: Q1 = (P1 ++ [32, 61]) ++ Q1 := by simp
            rw [this, show P1.length + 2 = (P1 ++ [32, 61]).length by simp, List.drop_left, List.take_of_length_le (by simp; omega)]
          have hx2 : (bs a).extract 0 J = bs P1 := by
            apply data_inj
            rw [ext_data, data_bs, data_bs, hl, hJ]
            simp
          have j1 : J + 2 ≤ K := by omega
          have j2 : J ≤ K := by omega
          have hpz : (bs P1).size < 4294967281 := by
            have := HKS.out
            rw [bs_size, ← hJ]
            omega
          have HPZ := Lib.hid hpz
          have hw3 : wrap64 ((J : Int) + 2) = ((J + 2 : Nat) : Int) := by have := HKS.out; clear hx1 hx2 hla; unfold wrap64; omega
          obtain ⟨N, hN⟩ : ∃ N, numL Q1 = N := ⟨_, rfl⟩
          obtain ⟨T, hT⟩ : ∃ T, sumL P1 = T := ⟨_, rfl⟩
          have HCE := Lib.hid (show ckE a = ckN N T by rw [ckE_some hmk, hN, hT])
          have HCS := Lib.hid (ckS_some hmk)
          have HNUM := Lib.hid (refNum_any (bs Q1) w1)
          rw [data_bs] at HNUM
          unfold NumTo at HNUM
          rw [hN] at HNUM
          obtain ⟨nb, hnb⟩ : ∃ nb, N.isSome = nb := ⟨_, rfl⟩
          rw [hnb] at HNUM
          have HNB := Lib.hid hnb
          have HTS := Lib.hid hT
          clear hmk hla hl hnm hsz hJ hpz hN hT hnb
          go_wp2_with fail
          refine HNUM.out.mono ?_
          rintro e w2 ⟨⟨n, rfl, hn⟩, hb2⟩
          have HB2 := Lib.hid (HB1.out.trans (hb2.mono HB1.out.size))
          have HE2 := Lib.hid (HE1.out.below hb2)
          have HZ2 := Lib.hid (HZ1.out.below hb2)
          have HNN := Lib.hid hn
          clear hb2 hn hw3 hx1 hw0 h0
          cases N with
          | none =>
            obtain rfl : nb = false := HNB.out.symm
            have HX : Hid (X = .error 10) := by
              show X = _
              rw [HX0.out]
              have h := HCE.out.trans (ckN_none T)
              exact rdOp_err HAN.out (by rw [lineOp_bad (by rw [h]; decide), h])
            obtain ⟨u0, u1, u2, u3, u4, u5, u6, u7, u8, u9, u10, u11, uf⟩ := HZ2.out
            have v0 := uf 0
            have v1 := uf 1
            have v2 := uf 2
            have v3 := uf 3
            have v4 := uf 4
            have v5 := uf 5
            have v6 := uf 6
            have v7 := uf 7
            have v8 := uf 8
            have v9 := uf 9
            have v10 := uf 10
            have v11 := uf 11
            have hul := cell_lt u0
            clear uf
            go_wp2_with fail
            refine bodyPost_ret (v := .tuple #[OpL.zero.v ⟨none, 0, At.none⟩, .int .i64 0, .int .i64 10]) (by simp [results, Tryz.results22, go_sem, u0, u1, u2, u3, u4, u5, u6, u7, u8, u9, u10, u11, v0, v1, v2, v3, v4, v5, v6, v7, v8, v9, v10, v11, OpL.zero, RecL.zero, At.none, fld0, who0]) rfl ?_
            have hBX := HB2.out
            rw [HX.out]
            exact ⟨⟨none, 0, At.none⟩, rfl, opZero_in _, by go_grown, OpP.none_from _⟩
          | some n1 =>
            obtain rfl : nb = true := HNB.out.symm
            obtain rfl : n = n1 := HNN.out n1 rfl
            by_cases hin : 0 ≤ n ∧ n ≤ 65520
            · have HWI := Lib.hid (within_yes n 0 65520 w2 hin.1 hin.2)
              have HSU := Lib.hid (refSum_is (n := T) (bs P1) w2 (by have := HPZ.out; omega) (by rw [data_bs]; exact HTS.out))
              have hin2 : ¬ ¬ (0 ≤ n ∧ n < 65521) := by omega
              have HIN := Lib.hid hin2
              clear hin hin2
              by_cases hnt : n = (T : Int)
              · have htf : ((T : Int) == n) = true := by simpa using hnt.symm
                have hce : ckE a = 0 := HCE.out.trans (ckN_ok HIN.out (fun k => k hnt))
                have hcs : ckS a = P1 := HCS.out.trans (if_pos hce)
                have hlo := lineOp_good hce
                rw [hcs] at hlo
                have HLO := Lib.hid hlo
                have HNT := Lib.hid hnt
                have HSP := Lib.hid (fun V (hV : Env V) => split_any (bs P1) 32 V hV HPZ.out)
                rw [data_bs] at HSP
                obtain ⟨hpl, hp1⟩ := splitC_len 32 P1
                have hcl : P1.length < 4294967281 := by have := HPZ.out; rw [bs_size] at this; exact this
                have HPL := Lib.hid (fun x (hx : x ∈ splitC 32 P1) => splitC_piece hx)
                obtain ⟨ps, hps⟩ : ∃ ps, ps = splitC 32 P1 := ⟨_, rfl⟩
                rw [← hps] at HSP HLO hpl hp1 HPL
                obtain ⟨R, hR⟩ : ∃ R, opOf ps = R := ⟨_, rfl⟩
                have HRR := Lib.hid hR
                obtain ⟨m, hm⟩ : ∃ m, ps.length = m := ⟨_, rfl⟩
                rw [hm] at hpl hp1
                have HM := Lib.hid hm
                have HPN := Lib.hid hpl
                have HP1 := Lib.hid hp1
                have HCL := Lib.hid hcl
                clear hlo hps hR hm hce hcs hnt hpl hp1 hcl
                go_wp2_with fail
                refine HWI.out.mono ?_
                rintro e w2' ⟨rfl, rfl⟩
                go_wp2_with fail
                refine HSU.out.mono ?_
                rintro e w3 ⟨rfl, hb3⟩
                have HB3 := Lib.hid (HB2.out.trans (hb3.mono HB2.out.size))
                have HE3 := Lib.hid (HE2.out.below hb3)
                have HZ3 := Lib.hid (HZ2.out.below hb3)
                clear hb3
                go_wp2_with fail
                refine (HSP.out w3 HE3.out).mono ?_
                rintro e w4 ⟨A, c, rfl, hsl4, hlc4, hcm4, hb4, hfr4⟩
                rw [List.length_map, HM.out] at hlc4 ⊢
                have hro : Calls Tryz.prog 104 #[.slice A m c] w4 (SaidTo R w4) := by
                  have hne : ps.map bs ≠ [] := fun e => by
                    have := congrArg List.length e
                    rw [List.length_map, HM.out] at this
                    have h5 := HP1.out
                    simp at this
                    omega
                  obtain ⟨x0, xr, hxs⟩ := List.exists_cons_of_ne_nil hne
                  have hrl : xr.length + 1 = m := by
                    have := congrArg List.length hxs
                    rw [List.length_map, HM.out] at this
                    simpa using this.symm
                  have := said_any A c m x0 xr w4 (HE3.out.below hb4) (hxs ▸ hsl4) hrl hlc4 (by have := HPN.out; have := HCL.out; omega) (fun x hx => by
                    have hx2 : x ∈ ps.map bs := by rw [hxs]; exact List.mem_cons_of_mem _ hx
                    obtain ⟨y, hy, rfl⟩ := List.mem_map.1 hx2
                    have := HPL.out y hy
                    have := HCL.out
                    rw [bs_size]
                    omega)
                  rw [← hxs, List.map_map, show ((fun s : ByteArray => s.data.toList) ∘ bs) = id from funext fun l => data_bs l, List.map_id, HRR.out] at this
                  exact this
                have HRO := Lib.hid hro
                have HB4 := Lib.hid (HB3.out.trans (hb4.mono HB3.out.size))
                have HE4 := Lib.hid (HE3.out.below hb4)
                have HZ4 := Lib.hid (HZ3.out.below hb4)
                clear hsl4 hlc4 hcm4 hb4 hfr4 hro
                go_wp2_with fail
                refine HRO.out.mono ?_
                rintro e w5 ⟨q, P, rfl, hq, hb5⟩
                have HB5 := Lib.hid (HB4.out.trans (hb5.mono HB4.out.size))
                have HE5 := Lib.hid (HE4.out.below hb5)
                have HZ5 := Lib.hid (HZ4.out.below hb5)
                have HQ := Lib.hid hq
                obtain ⟨w6, hw6⟩ : ∃ w6, w5.alloc (.cells #[.int .i64 q.kind, .int .i64 q.who.role, .int .i64 q.who.why, .int .i64 q.who.time, .slice P.ra q.n P.rc, .string q.r.id, .int .i64 q.r.cats, .slice P.p.fa q.r.fs.length P.p.fc, .slice P.p.ra q.r.rs.length P.p.rc, .string q.id, .string q.f.key, .string q.f.val] 43) = w6 := ⟨_, rfl⟩
                have h56 : Below w5.heap.size w5 w6 := hw6 ▸ (Below.refl _ _).alloc (Nat.le_refl _) _
                have HO6 := Lib.hid (show OpAt w6 w5.heap.size 0 ⟨q, P⟩ from by rw [← hw6]; constructor <;> simp [go_sem])
                have HB6 := Lib.hid (HB5.out.trans (h56.mono HB5.out.size))
                have HE6 := Lib.hid (HE5.out.below h56)
                have HZ6 := Lib.hid (HZ5.out.below h56)
                have HW6 := Lib.hid hw6
                have H56 := Lib.hid h56
                clear hq hb5 hw6 h56
                cases R with
                | none =>
                  have HX : Hid (X = .error 10) := by
                    show X = _
                    rw [HX0.out]
                    exact rdOp_err HAN.out (HLO.out.trans (opEnd_none HRR.out))
                  obtain ⟨u0, u1, u2, u3, u4, u5, u6, u7, u8, u9, u10, u11, uf⟩ := HZ6.out
                  have v0 := uf 0
                  have v1 := uf 1
                  have v2 := uf 2
                  have v3 := uf 3
                  have v4 := uf 4
                  have v5 := uf 5
                  have v6 := uf 6
                  have v7 := uf 7
                  have v8 := uf 8
                  have v9 := uf 9
                  have v10 := uf 10
                  have v11 := uf 11
                  have hul := cell_lt u0
                  clear uf
                  go_upto_region 19 with (fail)
                  rw [HW6.out]
                  go_wp2_with fail
                  refine bodyPost_ret (v := .tuple #[OpL.zero.v ⟨none, 0, At.none⟩, .int .i64 0, .int .i64 10]) (by simp [results, Tryz.results22, go_sem, u0, u1, u2, u3, u4, u5, u6, u7, u8, u9, u10, u11, v0, v1, v2, v3, v4, v5, v6, v7, v8, v9, v10, v11, OpL.zero, RecL.zero, At.none, fld0, who0]) rfl ?_
                  have hBX := HB6.out
                  rw [HX.out]
                  exact ⟨⟨none, 0, At.none⟩, rfl, opZero_in _, by go_grown, OpP.none_from _⟩
                | some o =>
                  obtain ⟨rfl, hoi, hpf⟩ := HQ.out o rfl
                  have HPF := Lib.hid (show P.from_ (w.heap.size + 1) from fun b off h => by
                    have h1 := hpf b off h
                    have h2 := HB4.out.size
                    have h3 := HZ4.out.c0
                    have := cell_lt h3
                    omega)
                  have HI6 := Lib.hid (hoi.below H56.out)
                  obtain ⟨er, her⟩ : ∃ er, logErr q = er := ⟨_, rfl⟩
                  have HER := Lib.hid her
                  have HCC := Lib.hid (refLogged_is q P w6 HI6.out her)
                  clear hoi her hpf
                  obtain ⟨x0, x1, x2, x3, x4, x5, x6, x7, x8, x9, x10, x11⟩ := HO6.out
                  simp only [Nat.zero_add] at x0 x1 x2 x3 x4 x5 x6 x7 x8 x9 x10 x11
                  go_upto_region 19 with (fail)
                  rw [HW6.out]
                  go_wp2_with fail
                  refine HCC.out.mono ?_
                  rintro e w7 ⟨rfl, hb7⟩
                  have HB7 := Lib.hid (HB6.out.trans (hb7.mono HB6.out.size))
                  have HZ7 := Lib.hid (HZ6.out.below hb7)
                  have HI7 := Lib.hid (HI6.out.below hb7)
                  have HO7 := Lib.hid (HO6.out.below hb7)
                  clear hb7 x0 x1 x2 x3 x4 x5 x6 x7 x8 x9 x10 x11
                  by_cases he0 : er = 0
                  · subst he0
                    have HX : Hid (X = .ok (q, K + 1)) := by
                      show X = _
                      rw [HX0.out, HK.out]
                      exact rdOp_ok HAN.out (HLO.out.trans (opEnd_ok HRR.out HER.out))
                    obtain ⟨x0, x1, x2, x3, x4, x5, x6, x7, x8, x9, x10, x11⟩ := HO7.out
                    simp only [Nat.zero_add] at x0 x1 x2 x3 x4 x5 x6 x7 x8 x9 x10 x11
                    have hxl := cell_lt x0
                    have hw1 := HW1.out
                    obtain ⟨u0, u1, u2, u3, u4, u5, u6, u7, u8, u9, u10, u11, uf⟩ := HZ7.out
                    have v0 := uf 0
                    have v1 := uf 1
                    have v2 := uf 2
                    have v3 := uf 3
                    have v4 := uf 4
                    have v5 := uf 5
                    have v6 := uf 6
                    have v7 := uf 7
                    have v8 := uf 8
                    have v9 := uf 9
                    have v10 := uf 10
                    have v11 := uf 11
                    have hul := cell_lt u0
                    clear uf
                    go_wp2_with fail
                    refine bodyPost_ret (v := .tuple #[q.v P, .int .i64 ((K + 1 : Nat) : Int), .int .i64 0]) (by simp [results, Tryz.results22, go_sem, u0, u1, u2, u3, u4, u5, u6, u7, u8, u9, u10, u11, v0, v1, v2, v3, v4, v5, v6, v7, v8, v9, v10, v11, hw1]) rfl ?_
                    have hBX := HB7.out
                    rw [HX.out]
                    refine ⟨P, rfl, ?_, by go_grown, fun b off h => Nat.le_of_lt (HPF.out b off h)⟩
                    iterate 12 refine OpL.in_.far ?_ (fun b off h => Nat.ne_of_gt (show w.heap.size < b from HPF.out b off h)) _
                    exact HI7.out
                  · have he0f : (er == 0) = false := by simpa using he0
                    have HX : Hid (X = .error er) := by
                      show X = _
                      rw [HX0.out, ← HER.out]
                      exact rdOp_err HAN.out (HLO.out.trans (opEnd_err HRR.out (fun k => he0 (HER.out.symm.trans k))))
                    obtain ⟨u0, u1, u2, u3, u4, u5, u6, u7, u8, u9, u10, u11, uf⟩ := HZ7.out
                    have v0 := uf 0
                    have v1 := uf 1
                    have v2 := uf 2
                    have v3 := uf 3
                    have v4 := uf 4
                    have v5 := uf 5
                    have v6 := uf 6
                    have v7 := uf 7
                    have v8 := uf 8
                    have v9 := uf 9
                    have v10 := uf 10
                    have v11 := uf 11
                    have hul := cell_lt u0
                    clear uf
                    go_wp2_with fail
                    refine bodyPost_ret (v := .tuple #[OpL.zero.v ⟨none, 0, At.none⟩, .int .i64 0, .int .i64 er]) (by simp [results, Tryz.results22, go_sem, u0, u1, u2, u3, u4, u5, u6, u7, u8, u9, u10, u11, v0, v1, v2, v3, v4, v5, v6, v7, v8, v9, v10, v11, OpL.zero, RecL.zero, At.none, fld0, who0]) rfl ?_
                    have hBX := HB7.out
                    rw [HX.out]
                    exact ⟨⟨none, 0, At.none⟩, rfl, opZero_in _, by go_grown, OpP.none_from _⟩
              · have htf : ((T : Int) == n) = false := by simpa using fun k : (T : Int) = n => hnt k.symm
                have HX : Hid (X = .error 8) := by
                  show X = _
                  rw [HX0.out]
                  have h := HCE.out.trans (ckN_sum HIN.out hnt)
                  exact rdOp_err HAN.out (by rw [lineOp_bad (by rw [h]; decide), h])
                clear hnt
                go_wp2_with fail
                refine HWI.out.mono ?_
                rintro e w2' ⟨rfl, rfl⟩
                go_wp2_with fail
                refine HSU.out.mono ?_
                rintro e w3 ⟨rfl, hb3⟩
                have HB3 := Lib.hid (HB2.out.trans (hb3.mono HB2.out.size))
                have HZ3 := Lib.hid (HZ2.out.below hb3)
                clear hb3
                obtain ⟨u0, u1, u2, u3, u4, u5, u6, u7, u8, u9, u10, u11, uf⟩ := HZ3.out
                have v0 := uf 0
                have v1 := uf 1
                have v2 := uf 2
                have v3 := uf 3
                have v4 := uf 4
                have v5 := uf 5
                have v6 := uf 6
                have v7 := uf 7
                have v8 := uf 8
                have v9 := uf 9
                have v10 := uf 10
                have v11 := uf 11
                have hul := cell_lt u0
                clear uf
                go_wp2_with fail
                refine bodyPost_ret (v := .tuple #[OpL.zero.v ⟨none, 0, At.none⟩, .int .i64 0, .int .i64 8]) (by simp [results, Tryz.results22, go_sem, u0, u1, u2, u3, u4, u5, u6, u7, u8, u9, u10, u11, v0, v1, v2, v3, v4, v5, v6, v7, v8, v9, v10, v11, OpL.zero, RecL.zero, At.none, fld0, who0]) rfl ?_
                have hBX := HB3.out
                rw [HX.out]
                exact ⟨⟨none, 0, At.none⟩, rfl, opZero_in _, by go_grown, OpP.none_from _⟩
            · have HX : Hid (X = .error 10) := by
                show X = _
                rw [HX0.out]
                have h := HCE.out.trans (ckN_out (n := n) T (by omega))
                exact rdOp_err HAN.out (by rw [lineOp_bad (by rw [h]; decide), h])
              have HWI := Lib.hid (within_no n 0 65520 w2 hin)
              clear hin
              go_wp2_with fail
              refine HWI.out.mono ?_
              rintro e w2' ⟨rfl, rfl⟩
              obtain ⟨u0, u1, u2, u3, u4, u5, u6, u7, u8, u9, u10, u11, uf⟩ := HZ2.out
              have v0 := uf 0
              have v1 := uf 1
              have v2 := uf 2
              have v3 := uf 3
              have v4 := uf 4
              have v5 := uf 5
              have v6 := uf 6
              have v7 := uf 7
              have v8 := uf 8
              have v9 := uf 9
              have v10 := uf 10
              have v11 := uf 11
              have hul := cell_lt u0
              clear uf
              go_wp2_with fail
              refine bodyPost_ret (v := .tuple #[OpL.zero.v ⟨none, 0, At.none⟩, .int .i64 0, .int .i64 10]) (by simp [results, Tryz.results22, go_sem, u0, u1, u2, u3, u4, u5, u6, u7, u8, u9, u10, u11, v0, v1, v2, v3, v4, v5, v6, v7, v8, v9, v10, v11, OpL.zero, RecL.zero, At.none, fld0, who0]) rfl ?_
              have hBX := HB2.out
              rw [HX.out]
              exact ⟨⟨none, 0, At.none⟩, rfl, opZero_in _, by go_grown, OpP.none_from _⟩
  · have HX : Hid (X = .error 7) := by
      show X = _
      rw [hX]
      exact rdOp_none hm
    rw [cut_miss hm] at hcut
    have HCUT := Lib.hid hcut
    clear hcut hX hm
    go_enter Tryz.func22, Tryz.ntmps22
    go_upto_region 1 with (fail)
    rw [HW.out]
    go_wp2_with fail
    refine HCUT.out.mono ?_
    rintro e w1 ⟨rfl, hb1⟩
    have HB1 := Lib.hid (HA.out.trans (hb1.mono HA.out.size))
    obtain ⟨u0, u1, u2, u3, u4, u5, u6, u7, u8, u9, u10, u11, uf⟩ := (HZ.out.below hb1)
    have v0 := uf 0
    have v1 := uf 1
    have v2 := uf 2
    have v3 := uf 3
    have v4 := uf 4
    have v5 := uf 5
    have v6 := uf 6
    have v7 := uf 7
    have v8 := uf 8
    have v9 := uf 9
    have v10 := uf 10
    have v11 := uf 11
    have hul := cell_lt u0
    clear uf
    go_wp2_with fail
    refine bodyPost_ret (v := .tuple #[OpL.zero.v ⟨none, 0, At.none⟩, .int .i64 0, .int .i64 7]) (by simp [results, Tryz.results22, go_sem, u0, u1, u2, u3, u4, u5, u6, u7, u8, u9, u10, u11, v0, v1, v2, v3, v4, v5, v6, v7, v8, v9, v10, v11, OpL.zero, RecL.zero, At.none, fld0, who0]) rfl ?_
    have hBX := HB1.out
    rw [HX.out]
    exact ⟨⟨none, 0, At.none⟩, rfl, opZero_in _, by go_grown, OpP.none_from _⟩
end Go.Proofs.YtepenlciaanoeaaGreatDoor
