/- StoreWays' walk. -/
import Derived.Test.YtekjlbbacieafaaDoorSFine
set_option linter.unusedVariables false
set_option linter.unusedSimpArgs false
set_option maxRecDepth 100000
namespace Go.Proofs.YtekjlbbacieafaaDoor
open Go.RowKit Go.Sort

def idD : Nat → ByteArray
  | 0 => ⟨#[97]⟩
  | 1 => ⟨#[98]⟩
  | 2 => ⟨#[99]⟩
  | _ => ⟨#[100]⟩
theorem idD_list {i : Nat} (h : i < [Value.string ⟨#[97]⟩, .string ⟨#[98]⟩, .string ⟨#[99]⟩, .string ⟨#[100]⟩].length) : [Value.string ⟨#[97]⟩, .string ⟨#[98]⟩, .string ⟨#[99]⟩, .string ⟨#[100]⟩][i] = .string (idD i) := by
  match i, h with
  | 0, _ => rfl
  | 1, _ => rfl
  | 2, _ => rfl
  | 3, _ => rfl

set_option maxHeartbeats 4000000 in
theorem storeWays_walk (a : Option Addr) (c : Nat) (g : List RowI) (id0 : ByteArray) (x : Int) (w : World) (hs : SlG w a g) (hl : g.length ≤ c) (hm : c ≤ maxLen) (hid : id0.size ≤ maxLen) :
    Calls Tryd.prog 10 #[.slice a g.length c, .string id0, .int .i64 x] w fun e w' => e = .returned (.bool true) ∧ Below w.heap.size w w' := by
  have HS := Lib.hid hs
  have HL := Lib.hid hl
  have HM := Lib.hid hm
  obtain ⟨s, hx⟩ : ∃ s, s = mk8 x := ⟨_, rfl⟩
  have hs8 : s ≤ 255 := by rw [hx]; exact mk8_le x
  have hmx : bits .and .i64 x 255 = (s : Int) := by rw [hx]; exact mk8_eq x
  obtain ⟨i, hi⟩ : ∃ i, wit (id0.size : Int) 4 = i := ⟨_, rfl⟩
  have hi4 : i < 4 := by rw [← hi]; exact_mod_cast wit_lt (id0.size : Int) 4 (by omega)
  have hi0 : (0 : Int) ≤ (i : Int) := by omega
  have hi4' : (i : Int) < 4 := by omega
  have hli : ∀ h, [Value.string ⟨#[97]⟩, .string ⟨#[98]⟩, .string ⟨#[99]⟩, .string ⟨#[100]⟩][i]'h = .string (idD i) := idD_list
  have HI := Lib.hid hi
  obtain ⟨gl, hgl⟩ : ∃ gl, g.length = gl := ⟨_, rfl⟩
  have HGL := Lib.hid hgl
  rw [hgl]
  unfold maxLen at hid
  clear hs hl hm hx hgl hi
  go_enter Tryd.func10, Tryd.ntmps10
  go_wp2_with fail
  refine (begun_is _).mono ?_
  rintro e w1 ⟨rfl, hb1⟩
  have HB1 := Lib.hid hb1
  clear hb1
  have HG := Lib.hid (grown_is a g c w1 (HS.out.below HB1.out) HL.out HM.out)
  rw [HGL.out] at HG
  go_wp2_with fail
  refine HG.out.mono ?_
  rintro e w2 ⟨vs, A, m, c', rfl, hok, hnw, hb2⟩
  have HOK := Lib.hid hok.ok
  have HST := Lib.hid (hok.fine (by omega))
  have HV2 := Lib.hid hnw.at_
  have HB2 := Lib.hid (HB1.out.trans (hb2.mono HB1.out.size))
  clear hok hnw hb2 HG
  go_wp2_with fail
  refine (wit_to HI.out _ (by decide) (by decide)).mono ?_
  rintro e w' ⟨rfl, rfl⟩
  obtain ⟨id, hdi⟩ : ∃ id, idD i = id := ⟨_, rfl⟩
  rw [hdi] at hli
  clear hdi
  go_wp2_with fail
  have hbl := (Below.refl w2.heap.size w2).alloc (Nat.le_refl _) (.cells #[.string ⟨#[97]⟩, .string ⟨#[98]⟩, .string ⟨#[99]⟩, .string ⟨#[100]⟩] 9)
  have HV2' := Lib.hid (HV2.out.below hbl)
  have HB2' := Lib.hid (HB2.out.trans (hbl.mono HB2.out.size))
  clear hbl
  refine (part_is c' s _ HV2'.out HST.out hs8).mono ?_
  rintro e w3 ⟨A1, m1, c1, rfl, hnw, hb⟩
  have HP1 := Lib.hid (stErr_prt HST.out s)
  have HX := Lib.hid hnw.at_
  have HV3 := Lib.hid (HV2'.out.below hb)
  have HB3 := Lib.hid (HB2'.out.trans (hb.mono HB2'.out.size))
  clear hnw hb
  obtain ⟨e2, he2⟩ : ∃ e2, histErr vs id = e2 := ⟨_, rfl⟩
  obtain ⟨e3, he3⟩ : ∃ e3, histErr (prt vs s) id = e3 := ⟨_, rfl⟩
  have hc2 : e2 = 0 ∨ e2 = 4 := by
    rcases histErr_two HST.out id with h | h
    · exact .inr (he2.symm.trans h.2)
    · exact .inl (he2.symm.trans h.2)
  have hc3 : (e3 = 0 ∧ 0 < (prt (hist vs id) s).length) ∨ (e3 = 4 ∧ (prt (hist vs id) s).length = 0) := by
    rw [← hist_prt]
    rcases histErr_two HP1.out id with h | h
    · exact .inr ⟨he3.symm.trans h.2, by rw [h.1]; rfl⟩
    · exact .inl ⟨he3.symm.trans h.2, Nat.pos_of_ne_zero (fun k => h.1 (List.eq_nil_of_length_eq_zero k))⟩
  have HE2 := Lib.hid he2
  have HE3 := Lib.hid he3
  have HC2 := Lib.hid hc2
  have HC3 := Lib.hid hc3
  clear he2 he3 hc2 hc3
  go_wp2_with fail
  refine (hist_fine c' id _ HV3.out HST.out rfl HE2.out).mono ?_
  rintro e w4 ⟨A2, m2, c2, rfl, hnw, hb⟩
  have HH := Lib.hid hnw.at_
  have HX4 := Lib.hid (HX.out.below hb)
  have HB4 := Lib.hid (HB3.out.trans (hb.mono HB3.out.size))
  clear hnw hb
  go_wp2_with fail
  refine (hist_fine c1 id _ HX4.out HP1.out rfl HE3.out).mono ?_
  rintro e w5 ⟨A3, m3, c3, rfl, hnw, hb⟩
  have HY := Lib.hid hnw.at_
  have HH5 := Lib.hid (HH.out.below hb)
  have HB5 := Lib.hid (HB4.out.trans (hb.mono HB4.out.size))
  clear hnw hb
  go_wp2_with fail
  refine (part_is c2 s _ HH5.out (stErr_hist HST.out id) hs8).mono ?_
  rintro e w6 ⟨A4, m4, c4, rfl, hnw, hb⟩
  have HZ := Lib.hid hnw.at_
  have HY6 := Lib.hid (HY.out.below hb)
  have HB6 := Lib.hid (HB5.out.trans (hb.mono HB5.out.size))
  clear hnw hb HV2 HV3 HX HX4 HH HH5 HB1 HB2 HB3 HB4 HB5
  have HSAME := Lib.hid (alike_is (b := true) c3 c4 w6 HY6.out HZ.out (stErr_hist HP1.out id) (stErr_prt (stErr_hist HST.out id) s) (by rw [decide_eq_true_eq]; exact hist_prt vs s id))
  have hm4 : m4 = (prt (hist vs id) s).length := HZ.out.len
  have h2 := HC2.out
  have h3 := HC3.out
  rw [← hm4] at h3
  have HM4 := Lib.hid hm4
  clear hm4
  rcases h2 with rfl | rfl
  · rcases h3 with ⟨rfl, h4⟩ | ⟨rfl, rfl⟩
    · have h4' : (0 : Int) < (m4 : Int) := by omega
      go_wp2_with fail
      refine HSAME.out.mono ?_
      rintro e w7 ⟨rfl, hb⟩
      have HB7 := Lib.hid (HB6.out.trans (hb.mono HB6.out.size))
      clear hb
      go_wp2_with fail
      go_ret
      exact ⟨rfl, HB7.out⟩
    · go_wp2_with fail
      refine HSAME.out.mono ?_
      rintro e w7 ⟨rfl, hb⟩
      have HB7 := Lib.hid (HB6.out.trans (hb.mono HB6.out.size))
      clear hb
      go_wp2_with fail
      go_ret
      exact ⟨rfl, HB7.out⟩
  · rcases h3 with ⟨rfl, h4⟩ | ⟨rfl, rfl⟩
    · have h4' : (0 : Int) < (m4 : Int) := by omega
      go_wp2_with fail
      refine HSAME.out.mono ?_
      rintro e w7 ⟨rfl, hb⟩
      have HB7 := Lib.hid (HB6.out.trans (hb.mono HB6.out.size))
      clear hb
      go_wp2_with fail
      go_ret
      exact ⟨rfl, HB7.out⟩
    · go_wp2_with fail
      refine HSAME.out.mono ?_
      rintro e w7 ⟨rfl, hb⟩
      have HB7 := Lib.hid (HB6.out.trans (hb.mono HB6.out.size))
      clear hb
      go_wp2_with fail
      go_ret
      exact ⟨rfl, HB7.out⟩
end Go.Proofs.YtekjlbbacieafaaDoor
