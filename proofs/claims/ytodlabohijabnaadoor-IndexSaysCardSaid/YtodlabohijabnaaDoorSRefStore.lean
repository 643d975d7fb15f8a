/- The contract of wyref.Store. -/
import Derived.Test.YtodlabohijabnaaDoorSFine
import Derived.StillTailTactics
import Derived.Deep.CutRange
import Derived.BigQuiet
import Derived.WalkSmall
set_option linter.unusedVariables false
set_option linter.unusedSimpArgs false
set_option maxRecDepth 100000
namespace Go.Proofs.YtodlabohijabnaaDoor
open Go.RowKit Go.Sort

theorem VsAt.take {w : World} {a : Option Addr} {n k : Nat} {vs : List VerL} (h : VsAt w a n vs) (hk : k ≤ n) : VsAt w a k (vs.take k) := by
  obtain ⟨l, rfl, rfl, hs⟩ := h
  refine ⟨l.take k, List.map_take, by rw [List.length_take]; omega, fun j x hx => hs j x ?_⟩
  rw [List.getElem?_take] at hx
  split at hx
  · exact hx
  · cases hx
theorem verErr_rec {l : List VerL} {v : VerL} (h : v.r.err ≠ 0) : verErr l v = v.r.err := by unfold verErr; rw [if_pos h]
theorem verErr_full {l : List VerL} {v : VerL} (h : v.r.err = 0) (hs : 20 ≤ same l v.r.cats) : verErr l v = 2 := by unfold verErr; rw [if_neg (show ¬ v.r.err ≠ 0 from fun k => k h), if_pos hs]
theorem verErr_gone {l : List VerL} {v : VerL} (h : v.r.err = 0) (hs : ¬ 20 ≤ same l v.r.cats) (hg : v.gone = true) (hk : 0 < v.r.fs.length + v.r.rs.length ∨ lives l v.r.id v.r.cats = false) : verErr l v = 3 := by
  unfold verErr
  rw [if_neg (show ¬ v.r.err ≠ 0 from fun k => k h), if_neg hs, if_pos]
  refine ⟨hg, ?_⟩
  rcases hk with hk | hk
  · by_cases hf : v.r.fs = []
    · refine .inr (.inl fun e => ?_)
      rw [hf, e] at hk
      exact Nat.lt_irrefl 0 hk
    · exact .inl hf
  · exact .inr (.inr hk)
theorem verErr_fine {l : List VerL} {v : VerL} (h : v.r.err = 0) (hs : ¬ 20 ≤ same l v.r.cats) (hg : v.gone = true → (v.r.fs.length + v.r.rs.length = 0 ∧ lives l v.r.id v.r.cats = true)) : verErr l v = 0 := by
  unfold verErr
  rw [if_neg (show ¬ v.r.err ≠ 0 from fun k => k h), if_neg hs, if_neg ?_]
  rintro ⟨k, h1⟩
  obtain ⟨h2, h3⟩ := hg k
  rcases h1 with h1 | h1 | h1
  · exact h1 (List.eq_nil_of_length_eq_zero (by omega))
  · exact h1 (List.eq_nil_of_length_eq_zero (by omega))
  · rw [h3] at h1; cases h1

theorem below_drew' (w : World) : Below w.heap.size w w.drew := ⟨rfl, rfl, rfl, Nat.le_refl _, fun _ _ => rfl⟩

set_option maxHeartbeats 4000000 in
theorem refStore_any (a : Option Addr) (l : List PV) (c : Nat) (w : World) (hs : SlW w a l) (hl : l.length ≤ c) (hm : c ≤ maxLen) (hsh : ∀ x ∈ l, x.v.r.short) :
    Calls Tryd.prog 14 #[.slice a l.length c] w fun e w' => e = .returned (.int .i64 (stErr (l.map (·.v)))) ∧ Below w.heap.size w w' := by
  have HS := Lib.hid hs
  have HSH := Lib.hid hsh
  obtain ⟨n, hn⟩ : ∃ n, n = l.length := ⟨_, rfl⟩
  have HN := Lib.hid hn
  unfold maxLen at hm
  rw [← hn] at hl ⊢
  clear hn hs hsh
  by_cases hbig : 5120 < n
  · have he : stErr (l.map (·.v)) = 2 := by unfold stErr; rw [if_pos (by rw [List.length_map, ← HN.out]; exact hbig)]
    rw [he]
    clear he
    go_enter Tryd.func14, Tryd.ntmps14
    go_wp2_with fail
    go_ret
    exact ⟨rfl, by go_grown⟩
  · have hs0 : errFrom [] ((l.map (·.v)).take 0) = 0 := rfl
    obtain ⟨er, her⟩ : ∃ er, stErr (l.map (·.v)) = er := ⟨_, rfl⟩
    rw [her]
    have HER := Lib.hid her
    have hhit : ∀ k v, errFrom [] ((l.map (·.v)).take k) = 0 → (l.map (·.v))[k]? = some v → verErr ((l.map (·.v)).take k) v ≠ 0 → er = verErr ((l.map (·.v)).take k) v := fun k v h1 h2 h3 => by
      rw [← HER.out]
      unfold stErr
      rw [if_neg (by rw [List.length_map, ← HN.out]; exact hbig), errFrom_hit h1 h2 h3]
    have HHIT := Lib.hid hhit
    clear her hhit
    go_enter Tryd.func14, Tryd.ntmps14
    go_wp2_with fail
    go_loopw [12] (fun i wr => ∃ k : Nat, k ≤ n ∧ i = .int .i64 k ∧ Hid (errFrom [] ((l.map (·.v)).take k) = 0) ∧ Hid (Below w.heap.size w wr)) (fun i _ => n - (intOf i).toNat)
    case atStart => exact ⟨0, Nat.zero_le _, rfl, hs0, Below.refl _ _⟩
    case round =>
      obtain ⟨k, hk, rfl, HE, HB⟩ := hrel
      clear hs0
      by_cases hlt : k < n
      · obtain ⟨x, hx⟩ : ∃ x, l[k]? = some x := ⟨_, List.getElem?_eq_getElem (by rw [← HN.out]; exact hlt)⟩
        have hv : (l.map (·.v))[k]? = some x.v := by rw [List.getElem?_map, hx]; rfl
        obtain ⟨hi, b, off, rfl, d0, d1, d2, d3, d4⟩ := (HS.out.below HB.out) k x hx
        have HV := Lib.hid hv
        have HSHX := Lib.hid (HSH.out x (List.mem_of_getElem? hx))
        obtain ⟨W1, hW1⟩ : ∃ W1, W1 = (x.box wr).alloc (.cells #[.string x.v.r.id, .int .i64 x.v.r.cats, .slice x.p.fa x.v.r.fs.length x.p.fc, .slice x.p.ra x.v.r.rs.length x.p.rc] 32) := ⟨_, rfl⟩
        have hbx : Below wr.heap.size wr W1 := by rw [hW1]; exact (x.box_below wr).alloc (by simp) _
        have HBX := Lib.hid (HB.out.trans (hbx.mono HB.out.size))
        have HI := Lib.hid (hi.below hbx)
        have hg4 : W1.cell? ⟨wr.heap.size, 4, none⟩ = some (.bool x.v.gone) := by rw [hW1]; simp [go_sem]
        have hbo : BoxAt W1 (wr.heap.size + 1) x.v.r x.p := by
          have := BoxAt.new (x.box wr) x.v.r x.p 32
          rw [← hW1] at this
          simpa using this
        have HG4 := Lib.hid hg4
        have HBO := Lib.hid hbo
        have HW1 := Lib.hid hW1
        obtain ⟨m, hmm1⟩ : ∃ m, x.v.r.err = m := ⟨_, rfl⟩
        have HM := Lib.hid hmm1
        have i1 : (0 : Int) ≤ (k : Int) := by omega
        have i2 : (k : Int) < (n : Int) := by omega
        have HREC := Lib.hid (refRecord_any x.v.r x.p W1 HI.out HSHX.out)
        rw [HM.out] at HREC
        have HVS := Lib.hid (show VsAt w (some ⟨b, off, none⟩) n (l.map (·.v)) from ⟨l, rfl, HN.out.symm, HS.out⟩)
        clear hx hv hi hmm1 hbx hW1 hg4 hbo
        go_wp2_with fail
        rw [← HW1.out]
        refine HREC.out.mono ?_
        rintro e w1 ⟨rfl, hb1⟩
        have HB1 := Lib.hid (HBX.out.trans (hb1.mono HBX.out.size))
        have hg4 : w1.cell? ⟨wr.heap.size, 4, none⟩ = some (.bool x.v.gone) := (hb1.cell (p := ⟨wr.heap.size, 4, none⟩) (cell_lt HG4.out)).trans HG4.out
        have HBO1 := Lib.hid (HBO.out.below hb1)
        obtain ⟨c0, c1, c2, c3⟩ := HBO1.out
        clear hb1 HREC d0 d1 d2 d3 d4
        by_cases h0 : m = 0
        · subst h0
          obtain ⟨k1, hk1⟩ : ∃ k1, k1 = k + 1 := ⟨_, rfl⟩
          have j1 : (0 : Int) ≤ (k1 : Int) := by omega
          have j2 : (k1 : Int) ≤ (c : Int) := by omega
          have j5 : IntKind.i64.wrap ((k : Int) + 1) = (k1 : Int) := by rw [hk1]; unfold IntKind.wrap; simp [IntKind.bits, IntKind.signed]; omega
          have HK1 := Lib.hid hk1
          clear hk1
          go_upto_region 10 with fail
          go_still_tail 6, (by kernel_rfl)
          change wpList _ _ _ _ _ w1.drew
          have hdr := below_drew' w1
          obtain ⟨w2, hw2⟩ : ∃ w2, w2 = w1.drew := ⟨_, rfl⟩
          rw [← hw2] at hdr ⊢
          have HB2 := Lib.hid (HB1.out.trans (hdr.mono HB1.out.size))
          have HBO2 := Lib.hid (HBO1.out.below hdr)
          replace hg4 := (hdr.cell (p := ⟨wr.heap.size, 4, none⟩) (cell_lt hg4)).trans hg4
          clear hw2 hdr c0 c1 c2 c3
          obtain ⟨c0, c1, c2, c3⟩ := HBO2.out
          obtain ⟨q, hq⟩ : ∃ q, same ((l.map (·.v)).take k1) x.v.r.cats = q := ⟨_, rfl⟩
          have hqk : q = same ((l.map (·.v)).take k) x.v.r.cats + 1 := by
            rw [← hq, HK1.out, take_snoc HV.out, same_snoc, if_pos rfl]
          have HQ := Lib.hid hq
          clear hq
          go_wp2_with fail
          refine (refSame_is c x.v.r.cats w2 ((HVS.out.below HB2.out).take (k := k1) (by rw [HK1.out]; omega)) (by have := HK1.out; omega) HQ.out).mono ?_
          rintro e w3 ⟨rfl, hb⟩
          have HB3 := Lib.hid (HB2.out.trans (hb.mono HB2.out.size))
          have HBO3 := Lib.hid (HBO2.out.below hb)
          replace hg4 := (hb.cell (p := ⟨wr.heap.size, 4, none⟩) (cell_lt hg4)).trans hg4
          clear hb c0 c1 c2 c3
          obtain ⟨c0, c1, c2, c3⟩ := HBO3.out
          by_cases hf : 20 ≤ same ((l.map (·.v)).take k) x.v.r.cats
          · have hst := HHIT.out k x.v HE.out HV.out (by rw [verErr_full HM.out hf]; decide)
            rw [verErr_full HM.out hf] at hst
            subst hst
            have hq20 : (20 : Int) < (q : Int) := by omega
            have HF := Lib.hid hf
            have HQK := Lib.hid hqk
            clear hf hqk
            go_wp2_with fail
            go_ret
            exact ⟨rfl, HB3.out⟩
          · have hq20 : ¬ (20 : Int) < (q : Int) := by omega
            have HF := Lib.hid hf
            have HQK := Lib.hid hqk
            clear hf hqk
            have ho := (x.v.r.err_ok).1 HM.out
            obtain ⟨t, ht⟩ : ∃ t, x.v.r.fs.length + x.v.r.rs.length = t := ⟨_, rfl⟩
            have j6 : IntKind.i64.wrap ((x.v.r.fs.length : Int) + (x.v.r.rs.length : Int)) = (t : Int) := by
              have n1 := ho.nf
              have n2 := ho.nr
              rw [← ht]; unfold IntKind.wrap; simp [IntKind.bits, IntKind.signed]; omega
            have HT := Lib.hid ht
            clear ho ht
            obtain ⟨gn, hgn⟩ : ∃ gn, x.v.gone = gn := ⟨_, rfl⟩
            rw [hgn] at hg4
            have HGN := Lib.hid hgn
            clear hgn
            go_upto_region 12 with fail
            cases gn with
            | false =>
              have hve := verErr_fine (v := x.v) HM.out HF.out (fun k => by rw [HGN.out] at k; cases k)
              have HVE := Lib.hid hve
              clear hve
              go_quiet (fail)
              go_wp2_with fail
              go_roundw
              case rel => exact ⟨k1, by have := HK1.out; omega, rfl, by rw [HK1.out]; exact errFrom_go HE.out HV.out HVE.out, below_drewN HB3.out _⟩
              case measure => have := HK1.out; simp [intOf]; omega
            | true =>
              by_cases ht0 : 0 < t
              · have hve := verErr_gone (v := x.v) (l := (l.map (·.v)).take k) HM.out HF.out HGN.out (.inl (by rw [HT.out]; exact ht0))
                have hst := HHIT.out k x.v HE.out HV.out (by rw [hve]; decide)
                rw [hve] at hst
                subst hst
                have hd : decide ((0 : Int) < (t : Int)) = true := by rw [decide_eq_true_eq]; omega
                clear hve
                go_quiet (fail)
                go_wp2_with fail
                go_ret
                exact ⟨rfl, below_drewN HB3.out _⟩
              · have hd : decide ((0 : Int) < (t : Int)) = false := by rw [decide_eq_false_iff_not]; omega
                have hkc : (k : Int) ≤ (c : Int) := by omega
                go_still_tail 19, (by kernel_rfl)
                change wpList _ _ _ _ _ w3.drew
                have hdr := below_drew' w3
                obtain ⟨w4, hw4⟩ : ∃ w4, w4 = w3.drew := ⟨_, rfl⟩
                rw [← hw4] at hdr ⊢
                have HB4 := Lib.hid (HB3.out.trans (hdr.mono HB3.out.size))
                clear hw4 hdr c0 c1 c2 c3 hg4
                obtain ⟨y, hy⟩ : ∃ y, atV (lastAt ((l.map (·.v)).take k) x.v.r.id x.v.r.cats k) = y := ⟨_, rfl⟩
                have hlv : (lastAt ((l.map (·.v)).take k) x.v.r.id x.v.r.cats k).isSome = lives ((l.map (·.v)).take k) x.v.r.id x.v.r.cats := by
                  rw [lastAt_lives k (by rw [List.length_take, List.length_map, ← HN.out]; omega), List.take_take, Nat.min_self]
                have HY := Lib.hid hy
                have HLV := Lib.hid hlv
                clear hy hlv
                go_wp2_with fail
                refine (refLives_is c x.v.r.id x.v.r.cats w4 ((HVS.out.below HB4.out).take (k := k) (by omega)) (by omega) HY.out).mono ?_
                rintro e w5 ⟨rfl, hb⟩
                have HB5 := Lib.hid (HB4.out.trans (hb.mono HB4.out.size))
                clear hb
                cases hlv : lives ((l.map (·.v)).take k) x.v.r.id x.v.r.cats with
                | true =>
                  have hve := verErr_fine (v := x.v) HM.out HF.out (fun _ => ⟨by rw [HT.out]; omega, hlv⟩)
                  have HVE := Lib.hid hve
                  have hy0 : ¬ y < 0 := by
                    have := atV_some (HLV.out.trans hlv)
                    rw [HY.out] at this
                    omega
                  clear hve hlv
                  go_wp2_with fail
                  go_roundw
                  case rel => exact ⟨k1, by have := HK1.out; omega, rfl, by rw [HK1.out]; exact errFrom_go HE.out HV.out HVE.out, HB5.out⟩
                  case measure => have := HK1.out; simp [intOf]; omega
                | false =>
                  have hve := verErr_gone (v := x.v) (l := (l.map (·.v)).take k) HM.out HF.out HGN.out (.inr hlv)
                  have hst := HHIT.out k x.v HE.out HV.out (by rw [hve]; decide)
                  rw [hve] at hst
                  subst hst
                  have hy0 : y = -1 := by
                    rw [← HY.out]
                    exact atV_none (HLV.out.trans hlv)
                  subst hy0
                  clear hve hlv
                  go_wp2_with fail
                  go_ret
                  exact ⟨rfl, HB5.out⟩
        · have hst := HHIT.out k x.v HE.out HV.out (by rw [verErr_rec (by rw [HM.out]; exact h0), HM.out]; exact h0)
          rw [verErr_rec (by rw [HM.out]; exact h0), HM.out] at hst
          subst hst
          have h1 : (er == 0) = false := by simpa using h0
          have h2 : (er != 0) = true := by simpa using h0
          go_wp2_with fail
          go_ret
          exact ⟨rfl, HB1.out⟩
      · obtain rfl : k = n := by omega
        have hst : er = 0 := by
          rw [← HER.out]
          unfold stErr
          rw [if_neg (by rw [List.length_map, ← HN.out]; exact hbig)]
          have := HE.out
          rwa [List.take_of_length_le (by rw [List.length_map, ← HN.out]; exact Nat.le_refl _)] at this
        subst hst
        go_wp2_with fail
        go_ret
        exact ⟨rfl, HB.out⟩

theorem refStore_is {n : Nat} {er : Int} {a : Option Addr} {vs : List VerL} (c : Nat) (w : World) (l : List PV) (hs : SlW w a l) (hv : l.map (·.v) = vs) (hn : l.length = n) (hl : n ≤ c) (hm : c ≤ maxLen) (hsh : ∀ x ∈ l, x.v.r.short) (he : stErr vs = er) :
    Calls Tryd.prog 14 #[.slice a n c] w fun e w' => e = .returned (.int .i64 er) ∧ Below w.heap.size w w' := by
  subst hv hn he
  exact refStore_any a l c w hs hl hm hsh
end Go.Proofs.YtodlabohijabnaaDoor
