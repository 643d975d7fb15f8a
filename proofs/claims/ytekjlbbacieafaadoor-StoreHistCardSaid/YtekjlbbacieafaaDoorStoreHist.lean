/- StoreHist's walk. -/
import Derived.Test.YtekjlbbacieafaaDoorStoreMore
import Derived.Test.YtekjlbbacieafaaDoorStoreReads
set_option linter.unusedVariables false
set_option linter.unusedSimpArgs false
set_option maxRecDepth 100000
namespace Go.Proofs.YtekjlbbacieafaaDoor
open Go.RowKit Go.Sort

/-- how many versions the first k names have -/
def tot (vs : List VerL) : Nat → Nat
  | 0 => 0
  | k + 1 => tot vs k + (hist vs (idB k)).length
theorem hist_snoc (l : List VerL) (v : VerL) (id : ByteArray) : hist (l ++ [v]) id = hist l id ++ if sEq v.r.id id = true then [v] else [] := by
  unfold hist
  rw [List.filter_append]
  congr 1
  cases h : sEq v.r.id id <;> simp [h]
theorem tot_all (vs : List VerL) : (∀ v ∈ vs, isAbc v.r.id) → tot vs 3 = vs.length := by
  refine snocInd (P := fun vs => (∀ v ∈ vs, isAbc v.r.id) → tot vs 3 = vs.length) (fun _ => rfl) (fun l v ih h => ?_) vs
  have ih := ih fun u hu => h u (List.mem_append_left _ hu)
  have hv := h v (List.mem_append_right _ (List.mem_singleton.2 rfl))
  simp only [tot, hist_snoc, List.length_append, List.length_singleton, idB] at ih ⊢
  have e1 : sEq (⟨#[97]⟩ : ByteArray) ⟨#[97]⟩ = true := by decide +kernel
  have e2 : sEq (⟨#[97]⟩ : ByteArray) ⟨#[98]⟩ = false := by decide +kernel
  have e3 : sEq (⟨#[97]⟩ : ByteArray) ⟨#[99]⟩ = false := by decide +kernel
  have e4 : sEq (⟨#[98]⟩ : ByteArray) ⟨#[97]⟩ = false := by decide +kernel
  have e5 : sEq (⟨#[98]⟩ : ByteArray) ⟨#[98]⟩ = true := by decide +kernel
  have e6 : sEq (⟨#[98]⟩ : ByteArray) ⟨#[99]⟩ = false := by decide +kernel
  have e7 : sEq (⟨#[99]⟩ : ByteArray) ⟨#[97]⟩ = false := by decide +kernel
  have e8 : sEq (⟨#[99]⟩ : ByteArray) ⟨#[98]⟩ = false := by decide +kernel
  have e9 : sEq (⟨#[99]⟩ : ByteArray) ⟨#[99]⟩ = true := by decide +kernel
  rcases hv with e | e | e
  · rw [e, e1, e2, e3]; simp; omega
  · rw [e, e4, e5, e6]; simp; omega
  · rw [e, e7, e8, e9]; simp; omega
theorem tot_le (vs : List VerL) (h : vs.length ≤ 15) : ∀ k, tot vs k ≤ k * 15
  | 0 => Nat.le_refl _
  | k + 1 => by
    have := tot_le vs h k
    have h1 := hist_length vs (idB k)
    show tot vs k + _ ≤ _
    omega

set_option maxHeartbeats 8000000 in
theorem storeHist_walk (a : Option Addr) (c : Nat) (g : List RowI) (w : World) (hs : SlG w a g) (hl : g.length ≤ c) (hm : c ≤ maxLen) :
    Calls Tryd.prog 8 #[.slice a g.length c] w fun e w' => e = .returned (.bool true) ∧ Below w.heap.size w w' := by
  have HS := Lib.hid hs
  have HL := Lib.hid hl
  have HM := Lib.hid hm
  obtain ⟨gl, hgl⟩ : ∃ gl, g.length = gl := ⟨_, rfl⟩
  have HGL := Lib.hid hgl
  rw [hgl]
  clear hs hl hm hgl
  go_enter Tryd.func8, Tryd.ntmps8
  go_wp2_with fail
  refine (begun_is _).mono ?_
  rintro e w1 ⟨rfl, hb1⟩
  have HB1 := Lib.hid hb1
  clear hb1
  have HG := Lib.hid (grown_is a g c w1 (HS.out.below HB1.out) HL.out HM.out)
  rw [HGL.out] at HG
  go_wp2_with fail
  refine HG.out.mono ?_
  rintro e w2 ⟨vs, A, m, c', rfl, hok, hnw, hb2⟩
  have HLEN := Lib.hid hok.len
  have HABC := Lib.hid (tot_all vs fun v hv => (hok.abc v hv).1)
  have HST := Lib.hid (hok.fine (by omega))
  have HV2 := Lib.hid hnw.at_
  have HB2 := Lib.hid (HB1.out.trans (hb2.mono HB1.out.size))
  clear hok hnw hb2 HG
  go_wp2_with fail
  refine (ids_ok c' _ HV2.out HST.out).mono ?_
  rintro e w3 ⟨A3, m3, c3, xs, rfl, hids, hxl, hsl, hmc, hcm, hb⟩
  have HXI := Lib.hid hids
  have HXL := Lib.hid hxl
  have HXS := Lib.hid hsl
  have HXM := Lib.hid (Nat.le_trans hmc hcm)
  have HV3 := Lib.hid (HV2.out.below hb)
  have HB3 := Lib.hid (HB2.out.trans (hb.mono HB2.out.size))
  clear hids hxl hsl hmc hcm hb HV2 HB1 HB2
  go_wp2_with fail
  go_loopw [6, 28] (fun q i wr => ∃ k T : Nat, k ≤ 3 ∧ i = .int .i64 k ∧ q = .int .i64 T ∧ Hid (T = tot vs k) ∧ Hid (abcB wr w3.heap.size) ∧ Hid (Below w3.heap.size w3 wr)) (fun _ i _ => 3 - (intOf i).toNat)
  case atStart =>
    exact ⟨0, 0, by omega, rfl, rfl, rfl, abcB.new w3, (Below.refl _ _).alloc (Nat.le_refl _) _⟩
  case round =>
    obtain ⟨k, T, hk, rfl, rfl, HT, HAB, HB⟩ := hrel
    by_cases hlt : k < 3
    · have hc := HAB.out k hlt
      have i1 : (0 : Int) ≤ (k : Int) := by omega
      have i2 : (k : Int) < 3 := by omega
      obtain ⟨id, hid⟩ : ∃ id, idB k = id := ⟨_, rfl⟩
      rw [hid] at hc
      have HID := Lib.hid hid
      clear hid
      obtain ⟨eh, he2⟩ : ∃ eh, histErr vs id = eh := ⟨_, rfl⟩
      have hc2 : (eh = 4 ∧ hist vs id = []) ∨ (eh = 0 ∧ 0 < (hist vs id).length) := by
        rcases histErr_two HST.out id with h | h
        · exact .inl ⟨he2.symm.trans h.2, h.1⟩
        · exact .inr ⟨he2.symm.trans h.2, Nat.pos_of_ne_zero fun k => h.1 (List.eq_nil_of_length_eq_zero k)⟩
      obtain ⟨eg, hg1⟩ : ∃ eg, getErr vs id = eg := ⟨_, rfl⟩
      obtain ⟨r, hg2⟩ : ∃ r, getR vs id = r := ⟨_, rfl⟩
      have hcg : (eg = 0 ∧ r.id = id ∧ id ∈ xs) ∨ (eg = 4 ∧ ¬ id ∈ xs) := by
        rcases get_two HST.out id with ⟨v, z1, z2, z3⟩ | ⟨z1, z2, z3⟩
        · exact .inl ⟨hg1.symm.trans z2, by rw [← hg2, z3]; exact (getV_some z1).2.1, (getV_isSome HXI.out id).2 (by rw [z1]; rfl)⟩
        · exact .inr ⟨hg1.symm.trans z2, fun h => by have := (getV_isSome HXI.out id).1 h; rw [z1] at this; cases this⟩
      obtain ⟨k1, k2⟩ := get_congr (stErr_hist HST.out id) HST.out (getV_hist vs id)
      have HOWN1 := Lib.hid (k1.trans hg1)
      have HOWN2 := Lib.hid (k2.trans hg2)
      have HHI := Lib.hid (hist_fine c' id wr (HV3.out.below HB.out) HST.out rfl he2)
      have HCH := Lib.hid hc2
      have HCG := Lib.hid hcg
      have HG1 := Lib.hid hg1
      have HG2 := Lib.hid hg2
      clear he2 hc2 hg1 hg2 hcg k1 k2
      go_wp2_with fail
      refine HHI.out.mono ?_
      rintro e w4 ⟨A4, m4, c4, rfl, hnw, hb⟩
      have HH := Lib.hid hnw.at_
      have HAB4 := Lib.hid (HAB.out.below hb)
      have HB4 := Lib.hid (HB.out.trans (hb.mono HB.out.size))
      have HGE := Lib.hid (get_fine c' id w4 (HV3.out.below HB4.out) HST.out HG2.out HG1.out)
      clear hnw hb HHI HAB hc
      go_wp2_with fail
      refine HGE.out.mono ?_
      rintro e w5 ⟨qr, rfl, hnr, hb⟩
      have hal := (Below.refl w5.heap.size w5).alloc (Nat.le_refl _) (.cells #[.string r.id, .int .i64 r.cats, .slice qr.fa r.fs.length qr.fc, .slice qr.ra r.rs.length qr.rc] 29)
      have hb5 := hb.trans (hal.mono hb.size)
      have HB5 := Lib.hid (HB4.out.trans (hb5.mono HB4.out.size))
      have HRI := Lib.hid (hnr.in_.below hal)
      have HBO := Lib.hid (BoxAt.new w5 r qr 29)
      have HH5 := Lib.hid (HH.out.below hb5)
      have HAB5 := Lib.hid (HAB4.out.below hb5)
      clear hnr hal hb hb5 HGE HAB4
      have hmh := HH5.out.len
      have hm15 : m4 ≤ 15 := by rw [hmh]; have := hist_length vs id; have := HLEN.out; omega
      have hT45 : T ≤ 45 := by have := HT.out; have := tot_le vs HLEN.out k; omega
      obtain ⟨T', hT'⟩ : ∃ T', T' = T + m4 := ⟨_, rfl⟩
      have j1 : wrap64 ((T : Int) + (m4 : Int)) = (T' : Int) := by rw [hT']; unfold wrap64; omega
      have j2 : IntKind.i64.wrap ((T : Int) + (m4 : Int)) = (T' : Int) := by rw [hT']; unfold IntKind.wrap; simp [IntKind.bits, IntKind.signed]; omega
      have j3 : (T : Int) + (m4 : Int) = (T' : Int) := by omega
      have HTT : Hid (T' = tot vs (k + 1)) := by
        show T' = tot vs k + (hist vs (idB k)).length
        rw [hT', HT.out, HID.out, hmh]
      have hch : (eh = 4 ∧ m4 = 0) ∨ (eh = 0 ∧ 0 < m4) := by
        rcases HCH.out with ⟨z1, z2⟩ | ⟨z1, z2⟩
        · exact .inl ⟨z1, by rw [hmh, z2]; rfl⟩
        · exact .inr ⟨z1, by omega⟩
      have HCC := Lib.hid hch
      have HBD := Lib.hid (show T' = T + m4 ∧ T ≤ 45 ∧ m4 ≤ 15 from ⟨hT', hT45, hm15⟩)
      clear hmh hm15 hT45 hT' hch HCH
      obtain ⟨d0, d1, d2, d3⟩ := HBO.out
      rcases HCG.out with ⟨rfl, hri, hin⟩ | ⟨rfl, hin⟩
      · have e1 : (r.id.toList == id.toList) = true := sEq_iff.2 hri
        have HCO := Lib.hid (contains_is (b := true) A3 xs c3 id _ (HXS.out.belowW HB5.out) HXL.out HXM.out ⟨fun _ => rfl, fun _ => hin⟩)
        clear hri hin
        rcases HCC.out with ⟨rfl, rfl⟩ | ⟨rfl, hpos⟩
        all_goals
          try have hp1 : ¬ (m4 : Int) = 0 := by omega
          try have hp2 : ((m4 : Int) == 0) = false := by simpa using hp1
          go_wp2_with fail
          refine HCO.out.mono ?_
          rintro e w6 ⟨rfl, hb⟩
          have HB6 := Lib.hid (HB5.out.trans (hb.mono HB5.out.size))
          have HRI6 := Lib.hid (HRI.out.below hb)
          have HBO6 := Lib.hid (HBO.out.below hb)
          have HAB6 := Lib.hid (HAB5.out.below hb)
          have HOW := Lib.hid (get_fine c4 id w6 (HH5.out.below hb) (stErr_hist HST.out id) HOWN2.out HOWN1.out)
          clear d0 d1 d2 d3 hb
          obtain ⟨d0, d1, d2, d3⟩ := HBO6.out
          go_wp2_with fail
          refine HOW.out.mono ?_
          rintro e w7 ⟨qo, rfl, hnr, hb⟩
          have hal := (Below.refl w7.heap.size w7).alloc (Nat.le_refl _) (.cells #[.string r.id, .int .i64 r.cats, .slice qo.fa r.fs.length qo.fc, .slice qo.ra r.rs.length qo.rc] 29)
          have hb7 := hb.trans (hal.mono hb.size)
          have HB7 := Lib.hid (HB6.out.trans (hb7.mono HB6.out.size))
          have HOI := Lib.hid (hnr.in_.below hal)
          have HRI7 := Lib.hid (HRI6.out.below hb7)
          have HAB7 := Lib.hid (HAB6.out.below hb7)
          have HBO7 := Lib.hid (HBO6.out.below hb)
          have hsz : w5.heap.size < w7.heap.size := cell_lt HBO7.out.1
          clear d0 d1 d2 d3
          obtain ⟨d0, d1, d2, d3⟩ := HBO7.out
          have HSA := Lib.hid (same_is (b := true) r r qo qr _ HOI.out HRI7.out (by rw [decide_eq_true_eq]))
          clear hnr hal hb hb7
          go_wp2_with fail
          refine HSA.out.mono ?_
          rintro e w8 ⟨rfl, hb⟩
          have HB8 := Lib.hid (HB7.out.trans (hb.mono HB7.out.size))
          have HAB8 := Lib.hid (HAB7.out.below hb)
          clear hb
          go_wp2_with fail
          go_roundw
          case rel => exact ⟨k + 1, T', by omega, by go_num, (by obtain ⟨b1, b2, b3⟩ := HBD.out; first | rfl | (congr 1; unfold wrap64; omega) | (simp; unfold wrap64; omega)), HTT.out, HAB8.out, HB8.out⟩
          case measure => simp [intOf]; omega
      · have HCO := Lib.hid (contains_is (b := false) A3 xs c3 id _ (HXS.out.belowW HB5.out) HXL.out HXM.out ⟨fun h => absurd h hin, fun h => by cases h⟩)
        clear hin
        rcases HCC.out with ⟨rfl, rfl⟩ | ⟨rfl, hpos⟩
        all_goals
          try have hp1 : ¬ (m4 : Int) = 0 := by omega
          try have hp2 : ((m4 : Int) == 0) = false := by simpa using hp1
          go_wp2_with fail
          refine HCO.out.mono ?_
          rintro e w6 ⟨rfl, hb⟩
          have HB6 := Lib.hid (HB5.out.trans (hb.mono HB5.out.size))
          have HRI6 := Lib.hid (HRI.out.below hb)
          have HBO6 := Lib.hid (HBO.out.below hb)
          have HAB6 := Lib.hid (HAB5.out.below hb)
          have HOW := Lib.hid (get_fine c4 id w6 (HH5.out.below hb) (stErr_hist HST.out id) HOWN2.out HOWN1.out)
          clear d0 d1 d2 d3 hb
          obtain ⟨d0, d1, d2, d3⟩ := HBO6.out
          go_wp2_with fail
          refine HOW.out.mono ?_
          rintro e w7 ⟨qo, rfl, hnr, hb⟩
          have hal := (Below.refl w7.heap.size w7).alloc (Nat.le_refl _) (.cells #[.string r.id, .int .i64 r.cats, .slice qo.fa r.fs.length qo.fc, .slice qo.ra r.rs.length qo.rc] 29)
          have hb7 := hb.trans (hal.mono hb.size)
          have HB7 := Lib.hid (HB6.out.trans (hb7.mono HB6.out.size))
          have HOI := Lib.hid (hnr.in_.below hal)
          have HRI7 := Lib.hid (HRI6.out.below hb7)
          have HAB7 := Lib.hid (HAB6.out.below hb7)
          have HBO7 := Lib.hid (HBO6.out.below hb)
          have hsz : w5.heap.size < w7.heap.size := cell_lt HBO7.out.1
          clear d0 d1 d2 d3
          obtain ⟨d0, d1, d2, d3⟩ := HBO7.out
          have HSA := Lib.hid (same_is (b := true) r r qo qr _ HOI.out HRI7.out (by rw [decide_eq_true_eq]))
          clear hnr hal hb hb7
          go_wp2_with fail
          refine HSA.out.mono ?_
          rintro e w8 ⟨rfl, hb⟩
          have HB8 := Lib.hid (HB7.out.trans (hb.mono HB7.out.size))
          have HAB8 := Lib.hid (HAB7.out.below hb)
          clear hb
          go_wp2_with fail
          go_roundw
          case rel => exact ⟨k + 1, T', by omega, by go_num, (by obtain ⟨b1, b2, b3⟩ := HBD.out; first | rfl | (congr 1; unfold wrap64; omega) | (simp; unfold wrap64; omega)), HTT.out, HAB8.out, HB8.out⟩
          case measure => simp [intOf]; omega
    · obtain rfl : k = 3 := by omega
      have hTm : T = m := by rw [HT.out, HABC.out]; exact HV3.out.len.symm
      subst hTm
      have HSO := Lib.hid (sorted_is A3 xs c3 wr (HXS.out.belowW HB.out) HXL.out HXM.out HXI.out.asc)
      go_wp2_with fail
      refine HSO.out.mono ?_
      rintro e w4 ⟨rfl, hb⟩
      have HB4 := Lib.hid (HB3.out.trans ((HB.out.trans (hb.mono HB.out.size)).mono HB3.out.size))
      clear hb HSO
      go_wp2_with fail
      go_ret
      exact ⟨rfl, HB4.out⟩
end Go.Proofs.YtekjlbbacieafaaDoor
