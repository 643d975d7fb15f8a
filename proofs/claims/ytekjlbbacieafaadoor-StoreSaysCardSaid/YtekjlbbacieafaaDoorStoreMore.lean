/- StoreMore's walk. -/
import Derived.Test.YtekjlbbacieafaaDoorSIds
import Derived.Test.YtekjlbbacieafaaDoorSStrs
import Derived.Test.YtekjlbbacieafaaDoorStoreChanges
import Derived.Test.YtekjlbbacieafaaDoorREq
set_option linter.unusedVariables false
set_option linter.unusedSimpArgs false
set_option maxRecDepth 100000
namespace Go.Proofs.YtekjlbbacieafaaDoor
open Go.RowKit Go.Sort

theorem SlS.belowW {w w' : World} {a : Option Addr} {rs : List ByteArray} (h : SlS w a rs) (hb : Below w.heap.size w w') : SlS w' a rs := fun k s hk => by
  obtain ⟨b, off, e, hc⟩ := h k s hk
  exact ⟨b, off, e, (hb.cell (p := ⟨b, off + k, none⟩) (cell_lt hc)).trans hc⟩

theorem more_ids {vs : List VerL} (hok : StOk vs) {s t : Nat} (hs : s ≤ 255) (ht : t ≤ 255) {x y : List ByteArray} (hx : IsIds (prt vs s) x) (hy : IsIds (prt vs ((s ||| t : Nat) : Int)) y) : ∀ id ∈ x, id ∈ y := fun id hid => by
  obtain ⟨c, hc⟩ := (hx.mem id).1 hid
  rw [lives_prt, Bool.and_eq_true] at hc
  obtain ⟨v, hv, rfl, rfl, _⟩ := lives_mem vs hc.2
  refine (hy.mem _).2 ⟨v.r.cats, ?_⟩
  rw [lives_prt, among_or (hok.cats hv).2 hs ht hc.1, hc.2]
  rfl
theorem more_get {vs : List VerL} (hok : StOk vs) {s t : Nat} (hs : s ≤ 255) (ht : t ≤ 255) {y : List ByteArray} (hy : IsIds (prt vs ((s ||| t : Nat) : Int)) y) {id : ByteArray} (hid : id ∈ y) :
    ∃ v, getV (prt vs ((s ||| t : Nat) : Int)) id = some v ∧ (0 ≤ v.r.cats ∧ v.r.cats ≤ 255) ∧ (among v.r.cats s = true → getV (prt vs s) id = some v) := by
  have h1 := (getV_isSome hy id).1 hid
  obtain ⟨v, hv⟩ := Option.isSome_iff_exists.1 h1
  obtain ⟨hm, _, _⟩ := getV_some hv
  refine ⟨v, hv, (hok.prt _).cats hm, fun ha => ?_⟩
  have := getV_prt hv ha
  rwa [prt_back hok hs ht] at this

set_option maxHeartbeats 8000000 in
theorem storeMore_walk (a : Option Addr) (c : Nat) (g : List RowI) (x y : Int) (w : World) (hs : SlG w a g) (hl : g.length ≤ c) (hm : c ≤ maxLen) :
    Calls Tryd.prog 11 #[.slice a g.length c, .int .i64 x, .int .i64 y] w fun e w' => e = .returned (.bool true) ∧ Below w.heap.size w w' := by
  have HS := Lib.hid hs
  have HL := Lib.hid hl
  have HM := Lib.hid hm
  obtain ⟨s, hx⟩ : ∃ s, s = mk8 x := ⟨_, rfl⟩
  obtain ⟨t, hy⟩ : ∃ t, t = mk8 y := ⟨_, rfl⟩
  have hs8 : s ≤ 255 := by rw [hx]; exact mk8_le x
  have ht8 : t ≤ 255 := by rw [hy]; exact mk8_le y
  have hmx : bits .and .i64 x 255 = (s : Int) := by rw [hx]; exact mk8_eq x
  have hmy : bits .and .i64 y 255 = (t : Int) := by rw [hy]; exact mk8_eq y
  obtain ⟨o, ho⟩ : ∃ o, o = s ||| t := ⟨_, rfl⟩
  have hmo : bits .or .i64 (s : Int) (t : Int) = (o : Int) := by rw [ho]; exact i64_or s t (by omega) (by omega)
  have ho8 : o ≤ 255 := by rw [ho]; exact or_le255 hs8 ht8
  have HO := Lib.hid ho
  obtain ⟨gl, hgl⟩ : ∃ gl, g.length = gl := ⟨_, rfl⟩
  have HGL := Lib.hid hgl
  rw [hgl]
  clear hs hl hm hx hy ho hgl
  go_enter Tryd.func11, Tryd.ntmps11
  go_wp2_with fail
  refine (begun_is _).mono ?_
  rintro e w1 ⟨rfl, hb1⟩
  have HB1 := Lib.hid hb1
  clear hb1
  have HG := Lib.hid (grown_is a g c w1 (HS.out.below HB1.out) HL.out HM.out)
  rw [HGL.out] at HG
  go_wp2_with fail
  refine HG.out.mono ?_
  rintro e w2 ⟨vs, A, m, c', rfl, hok, hnw, hb2⟩
  have HOK := Lib.hid hok.ok
  have HST := Lib.hid (hok.fine (by omega))
  have HV2 := Lib.hid hnw.at_
  have HB2 := Lib.hid (HB1.out.trans (hb2.mono HB1.out.size))
  clear hok hnw hb2 HG
  go_wp2_with fail
  refine (part_is c' s _ HV2.out HST.out hs8).mono ?_
  rintro e w3 ⟨A1, m1, c1, rfl, hnw, hb⟩
  have HP1 := Lib.hid (stErr_prt HST.out s)
  have HX := Lib.hid hnw.at_
  have HV3 := Lib.hid (HV2.out.below hb)
  have HB3 := Lib.hid (HB2.out.trans (hb.mono HB2.out.size))
  clear hnw hb
  go_wp2_with fail
  refine (part_is c' o _ HV3.out HST.out ho8).mono ?_
  rintro e w4 ⟨A2, m2, c2, rfl, hnw, hb⟩
  have HP2 := Lib.hid (stErr_prt HST.out o)
  have HH := Lib.hid hnw.at_
  have HX4 := Lib.hid (HX.out.below hb)
  have HB4 := Lib.hid (HB3.out.trans (hb.mono HB3.out.size))
  clear hnw hb
  go_wp2_with fail
  refine (ids_ok c1 _ HX4.out HP1.out).mono ?_
  rintro e w5 ⟨A3, m3, c3, xs, rfl, hids, hxl, hsl, hmc, hcm, hb⟩
  have HXI := Lib.hid hids
  have HXL := Lib.hid hxl
  have HXS := Lib.hid hsl
  have HXM := Lib.hid (Nat.le_trans hmc hcm)
  have HX5 := Lib.hid (HX4.out.below hb)
  have HH5 := Lib.hid (HH.out.below hb)
  have HB5 := Lib.hid (HB4.out.trans (hb.mono HB4.out.size))
  clear hids hxl hsl hmc hcm hb
  go_wp2_with fail
  refine (ids_ok c2 _ HH5.out HP2.out).mono ?_
  rintro e w6 ⟨A4, m4, c4, ys, rfl, hids, hxl, hsl, hmc, hcm, hb⟩
  have HYI := Lib.hid hids
  have HYL := Lib.hid hxl
  have HYS := Lib.hid hsl
  have HYM := Lib.hid (Nat.le_trans hmc hcm)
  have HXS6 := Lib.hid (HXS.out.belowW hb)
  have HX6 := Lib.hid (HX5.out.below hb)
  have HH6 := Lib.hid (HH5.out.below hb)
  have HB6 := Lib.hid (HB5.out.trans (hb.mono HB5.out.size))
  have hm3 : m3 < 9223372036854775808 := by have := HXM.out; unfold maxLen at this; omega
  have hm4 : m4 < 9223372036854775808 := by have := HYM.out; unfold maxLen at this; omega
  clear hids hxl hsl hmc hcm hb HV2 HV3 HX HX4 HH HB1 HB2 HB3 HB4 HB5 HXS HX5 HH5
  have hin := more_ids HOK.out hs8 ht8 HXI.out (by rw [← HO.out]; exact HYI.out)
  have HIN := Lib.hid hin
  clear hin
  go_wp2_with fail
  go_loopw [72] (fun i wr => ∃ k : Nat, k ≤ m3 ∧ i = .int .i64 k ∧ Hid (Below w6.heap.size w6 wr)) (fun i _ => m3 - (intOf i).toNat)
  case atStart => exact ⟨0, Nat.zero_le _, rfl, Below.refl _ _⟩
  case round =>
    obtain ⟨k, hk, rfl, HB⟩ := hrel
    by_cases hlt : k < m3
    · obtain ⟨id, hid⟩ : ∃ id, xs[k]? = some id := ⟨_, List.getElem?_eq_getElem (by rw [HXL.out]; exact hlt)⟩
      obtain ⟨b, off, rfl, hc⟩ := (HXS6.out.belowW HB.out) k id hid
      have i1 : (0 : Int) ≤ (k : Int) := by omega
      have i2 : (k : Int) < (m3 : Int) := by omega
      have HC := Lib.hid (contains_is (b := true) A4 ys c4 id wr (HYS.out.belowW HB.out) HYL.out HYM.out ⟨fun _ => rfl, fun _ => HIN.out id (List.mem_of_getElem? hid)⟩)
      clear hid
      go_wp2_with fail
      refine HC.out.mono ?_
      rintro e w7 ⟨rfl, hb⟩
      have HB7 := Lib.hid (HB.out.trans (hb.mono HB.out.size))
      clear hb HC
      go_wp2_with fail
      go_roundw
      case rel => exact ⟨k + 1, by omega, by go_num, HB7.out⟩
      case measure => simp [intOf]; omega
    · obtain rfl : k = m3 := by omega
      go_wp2_with fail
      have HBQ := Lib.hid (HB6.out.trans (HB.out.mono HB6.out.size))
      have HYQ := Lib.hid (HYS.out.belowW HB.out)
      have HXQ := Lib.hid (HX6.out.below HB.out)
      have HHQ := Lib.hid (HH6.out.below HB.out)
      clear HB hlt hk
      obtain ⟨wq, hwq⟩ : ∃ wq, wq = wr := ⟨_, rfl⟩
      subst hwq
      go_loopw [83] (fun i wr => ∃ k : Nat, k ≤ m4 ∧ i = .int .i64 k ∧ Hid (Below wq.heap.size wq wr)) (fun i _ => m4 - (intOf i).toNat)
      case atStart => exact ⟨0, Nat.zero_le _, rfl, Below.refl _ _⟩
      case round =>
        obtain ⟨k, hk, rfl, HB⟩ := hrel
        by_cases hlt : k < m4
        · obtain ⟨id, hid⟩ : ∃ id, ys[k]? = some id := ⟨_, List.getElem?_eq_getElem (by rw [HYL.out]; exact hlt)⟩
          obtain ⟨b, off, rfl, hc⟩ := (HYQ.out.belowW HB.out) k id hid
          have i1 : (0 : Int) ≤ (k : Int) := by omega
          have i2 : (k : Int) < (m4 : Int) := by omega
          obtain ⟨v, hv, hvc, hva⟩ := more_get HOK.out hs8 ht8 (by rw [← HO.out]; exact HYI.out) (List.mem_of_getElem? hid)
          rw [← HO.out] at hv
          obtain ⟨q1, q2⟩ := get_some HP2.out hv
          obtain ⟨r, hr⟩ : ∃ r, v.r = r := ⟨_, rfl⟩
          rw [hr] at hvc hva q2
          have HG1 := Lib.hid (get_fine c2 id wr (HHQ.out.below HB.out) HP2.out q2 q1)
          have hbits := among_bits hvc.1 hvc.2 hs8
          have hlow : bits .andNot .i64 r.cats (s : Int) = 0 → getErr (prt vs s) id = 0 ∧ getR (prt vs s) id = r := fun h => by
            obtain ⟨z1, z2⟩ := get_some HP1.out (hva (hbits.1 h))
            exact ⟨z1, z2.trans hr⟩
          have HLOW := Lib.hid hlow
          clear hid hv hvc hva q1 q2 hr hbits hlow
          go_wp2_with fail
          refine HG1.out.mono ?_
          rintro e w7 ⟨qr, rfl, hnr, hb⟩
          have hal := (Below.refl w7.heap.size w7).alloc (Nat.le_refl _) (.cells #[.string r.id, .int .i64 r.cats, .slice qr.fa r.fs.length qr.fc, .slice qr.ra r.rs.length qr.rc] 29)
          have hb7 := hb.trans (hal.mono hb.size)
          have HB7 := Lib.hid (HB.out.trans (hb7.mono HB.out.size))
          have HRI := Lib.hid (hnr.in_.below hal)
          have HBO := Lib.hid (BoxAt.new w7 r qr 29)
          clear hnr hal hb hb7 HG1 hc
          by_cases hz : bits .andNot .i64 r.cats (s : Int) = 0
          · have n1 : (bits .andNot .i64 r.cats (s : Int) == 0) = true := by simpa using hz
            obtain ⟨q1, q2⟩ := HLOW.out hz
            have HG2 := Lib.hid (get_fine c1 id _ (HXQ.out.below HB7.out) HP1.out q2 q1)
            clear hz q1 q2 HLOW
            go_wp2_with fail
            refine HG2.out.mono ?_
            rintro e w8 ⟨qp, rfl, hnr, hb⟩
            have hal := (Below.refl w8.heap.size w8).alloc (Nat.le_refl _) (.cells #[.string r.id, .int .i64 r.cats, .slice qp.fa r.fs.length qp.fc, .slice qp.ra r.rs.length qp.rc] 29)
            have hb8 := hb.trans (hal.mono hb.size)
            have HB8 := Lib.hid (HB7.out.trans (hb8.mono HB7.out.size))
            have HPI := Lib.hid (hnr.in_.below hal)
            have HRI8 := Lib.hid (HRI.out.below hb8)
            have HBO8 := Lib.hid (HBO.out.below hb)
            have hsz : w7.heap.size < w8.heap.size := cell_lt HBO8.out.1
            obtain ⟨d0, d1, d2, d3⟩ := HBO8.out
            have HSA := Lib.hid (same_is (b := true) r r qp qr _ HPI.out HRI8.out (by rw [decide_eq_true_eq]))
            clear hnr hal hb hb8 HG2
            go_wp2_with fail
            refine HSA.out.mono ?_
            rintro e w9 ⟨rfl, hb⟩
            have HB9 := Lib.hid (HB8.out.trans (hb.mono HB8.out.size))
            clear hb
            go_wp2_with fail
            go_roundw
            case rel => exact ⟨k + 1, by omega, by go_num, HB9.out⟩
            case measure => simp [intOf]; omega
          · have n1 : (bits .andNot .i64 r.cats (s : Int) == 0) = false := by simpa using hz
            clear hz HLOW
            go_wp2_with fail
            go_roundw
            case rel => exact ⟨k + 1, by omega, by go_num, HB7.out⟩
            case measure => simp [intOf]; omega
        · obtain rfl : k = m4 := by omega
          go_wp2_with fail
          go_ret
          exact ⟨rfl, HBQ.out.trans (HB.out.mono HBQ.out.size)⟩
end Go.Proofs.YtekjlbbacieafaaDoor
