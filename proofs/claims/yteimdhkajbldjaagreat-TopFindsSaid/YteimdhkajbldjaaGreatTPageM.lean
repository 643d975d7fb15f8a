/- Pages of sorted names. -/
import Derived.Test.YteimdhkajbldjaaGreatRClone
import Derived.Test.YteimdhkajbldjaaGreatNMath
import Derived.Deep.LoopGhost
import Derived.Test.YteimdhkajbldjaaGreatROwn
import Derived.Lib.AppendZeros
import Derived.Lib.AppendZerosOnto
import Derived.Lib.SliceRun
import Derived.Test.YteimdhkajbldjaaGreatREq
import Derived.Test.YteimdhkajbldjaaGreatFAll
set_option linter.unusedVariables false
set_option linter.unusedSimpArgs false
set_option maxRecDepth 100000
namespace Go.Proofs.YteimdhkajbldjaaGreat
open Go.RowKit Go.Sort

theorem nanC_is (x : ByteArray) (w : World) : Calls Tryz.prog 140 #[.string x] w fun e w' => e = .returned (.bool false) ∧ w' = w := by
  have e1 : (x.toList == x.toList) = true := sEq_iff.2 rfl
  go_enter Tryz.func140, Tryz.ntmps140
  go_wp2_with fail
  go_ret
  exact ⟨rfl, rfl⟩
theorem nanB_is (x : ByteArray) (w : World) : Calls Tryz.prog 119 #[.string x] w fun e w' => e = .returned (.bool false) ∧ w' = w := by
  have e1 : (x.toList == x.toList) = true := sEq_iff.2 rfl
  go_enter Tryz.func119, Tryz.ntmps119
  go_wp2_with fail
  go_ret
  exact ⟨rfl, rfl⟩
theorem lessC_is {b : Bool} (x y : ByteArray) (w : World) (hb : sLt x y = b) : Calls Tryz.prog 118 #[.string x, .string y] w fun e w' => e = .returned (.bool b) ∧ w' = w := by
  have h1 : Op.bytesLess x.toList y.toList = b := hb
  clear hb
  go_enter Tryz.func118, Tryz.ntmps118
  go_wp2_with (go_at_call 140; refine (nanC_is _ _).mono ?_; rintro e w' ⟨rfl, rfl⟩)
  go_ret
  exact ⟨rfl, rfl⟩

set_option maxHeartbeats 2000000 in
theorem search_is {m I : Nat} {t : Bool} (a : Option Addr) (ids : List ByteArray) (c : Nat) (s : ByteArray) (w : World) (hs : SlS w a ids) (hl : ids.length = m) (hm : m ≤ 1000000) (ha : Asc ids) (hI : idxN ids s = I) (ht : s ∈ ids ↔ t = true) :
    Calls Tryz.prog 82 #[.slice a m c, .string s] w fun e w' => e = .returned (.tuple #[.int .i64 I, .bool t]) ∧ Below w.heap.size w w' := by
  have HS := Lib.hid hs
  have HL := Lib.hid hl
  have HIX := Lib.hid (show ∀ j x, ids[j]? = some x → (sLt x s = true ↔ j < I) from fun j x hx => by rw [← hI]; exact idxN_spec s ha j x hx)
  have HT := Lib.hid (show ids[I]? = some s ↔ t = true by rw [← hI, ← idxN_there ha]; exact ht)
  have hIm : I ≤ m := by rw [← hI, ← hl]; exact idxN_le _ _
  clear hs hl ha hI ht
  go_enter Tryz.func82, Tryz.ntmps82
  go_wp2_with fail
  go_loopg [7, 8] m (fun kx s5 s6 wr => ∃ lo hi : Nat, s5 = .int .i64 lo ∧ s6 = .int .i64 hi ∧ lo ≤ I ∧ I ≤ hi ∧ hi ≤ m ∧ hi - lo ≤ kx ∧ Hid (Below w.heap.size w wr))
  case atStart => exact ⟨0, m, rfl, rfl, Nat.zero_le _, hIm, Nat.le_refl _, by omega, Below.refl _ _⟩
  case round =>
    obtain ⟨lo, hi, rfl, rfl, hlo, hhi, hin, hg, hB⟩ := hrel
    by_cases hlt : lo < hi
    · obtain ⟨q, hq⟩ : ∃ q : Nat, q = (lo + hi) / 2 := ⟨_, rfl⟩
      have hq1 : ((lo : Int) + (hi : Int)) / 2 = (q : Int) := by omega
      have hqm : q < m := by omega
      obtain ⟨x, hx⟩ : ∃ x, ids[q]? = some x := ⟨_, List.getElem?_eq_getElem (by rw [HL.out]; exact hqm)⟩
      obtain ⟨b, off, rfl, hc⟩ := (HS.out.below hB.out) q x hx
      have hxs := HIX.out q x hx
      have i1 : (0 : Int) ≤ (q : Int) := by omega
      have i2 : (q : Int) < (m : Int) := by omega
      cases hls : sLt x s with
      | true =>
        have HQ : Hid (q < I) := hxs.1 hls
        have HLS := Lib.hid hls
        have HQL := Lib.hid hq
        clear hxs hx hls hq
        go_wp2_with (go_at_call 118; refine (lessC_is _ _ _ HLS.out).mono ?_; rintro e w' ⟨rfl, rfl⟩)
        go_roundg (hi - (q + 1))
        case measure => have := HQL.out; omega
        case rel => exact ⟨q + 1, hi, by go_num, rfl, HQ.out, hhi, hin, Nat.le_refl _, hB.out⟩
      | false =>
        have HQ : Hid (¬ q < I) := fun k => by have := hxs.2 k; rw [hls] at this; cases this
        have HLS := Lib.hid hls
        have HQL := Lib.hid hq
        clear hxs hx hls hq
        go_wp2_with (go_at_call 118; refine (lessC_is _ _ _ HLS.out).mono ?_; rintro e w' ⟨rfl, rfl⟩)
        go_roundg (q - lo)
        case measure => have := HQL.out; omega
        case rel => exact ⟨lo, q, rfl, rfl, hlo, by have := HQ.out; omega, by omega, Nat.le_refl _, hB.out⟩
    · obtain rfl : lo = I := by omega
      by_cases hIl : lo < m
      · obtain ⟨x, hx⟩ : ∃ x, ids[lo]? = some x := ⟨_, List.getElem?_eq_getElem (by rw [HL.out]; exact hIl)⟩
        obtain ⟨b, off, rfl, hc⟩ := (HS.out.below hB.out) lo x hx
        have i1 : (0 : Int) ≤ (lo : Int) := by omega
        have i2 : (lo : Int) < (m : Int) := by omega
        have i3 : decide ((lo : Int) < (m : Int)) = true := by simpa using hIl
        have hxt : x = s ↔ t = true := by rw [← HT.out, hx]; exact ⟨fun e => by rw [e], fun e => Option.some.inj e⟩
        cases t with
        | true =>
          have e1 : (x.toList == s.toList) = true := sEq_iff.2 (hxt.2 rfl)
          clear hxt hx HT
          go_wp2_with fail
          go_ret2
          exact ⟨rfl, hB.out⟩
        | false =>
          have e1 : (x.toList == s.toList) = false := sEq_false.2 fun e => by have := hxt.1 e; cases this
          clear hxt hx HT
          go_wp2_with (go_at_call 119; refine (nanB_is _ _).mono ?_; rintro e w' ⟨rfl, rfl⟩)
          go_ret2
          exact ⟨rfl, hB.out⟩
      · have i3 : decide ((lo : Int) < (m : Int)) = false := by simpa using hIl
        have htf : t = false := by
          cases t with
          | false => rfl
          | true =>
            have h1 := HT.out.2 rfl
            have := (List.getElem?_eq_some_iff.1 h1).1
            rw [HL.out] at this
            omega
        subst htf
        clear HT
        go_wp2_with fail
        go_ret2
        exact ⟨rfl, hB.out⟩

set_option maxHeartbeats 1000000 in
theorem rising_is {m : Nat} {b : Bool} (a : Option Addr) (ids : List ByteArray) (c : Nat) (w : World) (hs : SlS w a ids) (hl : ids.length = m) (hm : m ≤ 1000000) (hb : Asc ids ↔ b = true) :
    Calls Tryz.prog 81 #[.slice a m c] w fun e w' => e = .returned (.bool b) ∧ Below w.heap.size w w' := by
  have HS := Lib.hid hs
  have HL := Lib.hid hl
  have HB0 := Lib.hid hb
  clear hs hl hb
  go_enter Tryz.func81, Tryz.ntmps81
  go_wp2_with fail
  go_loopw [7] (fun i wr => ∃ k : Nat, k ≤ m ∧ i = .int .i64 k ∧ Hid (∀ j x y, j + 1 < k → ids[j]? = some x → ids[j + 1]? = some y → sLt x y = true) ∧ Hid (Below w.heap.size w wr)) (fun i _ => m - (intOf i).toNat)
  case atStart => exact ⟨0, Nat.zero_le _, rfl, fun j x y h => absurd h (Nat.not_lt_zero _), Below.refl _ _⟩
  case round =>
    obtain ⟨k, hk, rfl, HK, HB⟩ := hrel
    by_cases hlt : k < m
    · obtain ⟨x, hx⟩ : ∃ x, ids[k]? = some x := ⟨_, List.getElem?_eq_getElem (by rw [HL.out]; exact hlt)⟩
      obtain ⟨b0, off, rfl, hc⟩ := (HS.out.below HB.out) k x hx
      have i1 : (0 : Int) ≤ (k : Int) := by omega
      have i2 : (k : Int) < (m : Int) := by omega
      by_cases hk0 : k = 0
      · subst hk0
        rw [Nat.add_zero] at hc
        clear hx
        go_wp2_with fail
        go_roundw
        case rel => exact ⟨1, by omega, rfl, fun j x y h => absurd h (by omega), HB.out⟩
        case measure => simp [intOf]; omega
      · obtain ⟨q, hq⟩ : ∃ q, k = q + 1 := ⟨k - 1, by omega⟩
        obtain ⟨y, hy⟩ : ∃ y, ids[q]? = some y := ⟨_, List.getElem?_eq_getElem (by rw [HL.out]; omega)⟩
        obtain ⟨_, _, hbe, hd⟩ := (HS.out.below HB.out) q y hy
        cases hbe
        have i5 : decide ((0 : Int) < (k : Int)) = true := by simp; omega
        have i6 : IntKind.i64.wrap ((k : Int) - 1) = (q : Int) := by rw [hq]; unfold IntKind.wrap; simp [IntKind.bits, IntKind.signed]; omega
        have i3 : (0 : Int) ≤ (q : Int) := by omega
        have i4 : (q : Int) < (m : Int) := by omega
        have hle := sLe_eq x y
        have HX := Lib.hid hx
        have HY := Lib.hid hy
        have HQ := Lib.hid hq
        cases hyx : sLt y x with
        | true =>
          rw [hyx] at hle
          have HYX := Lib.hid hyx
          clear hx hy hyx hq
          have hle2 : (Op.bytesLess x.toList y.toList || x.toList == y.toList) = false := by rw [hle]; rfl
          clear hle
          obtain ⟨l1, l2⟩ := Bool.or_eq_false_iff.1 hle2
          clear hle2
          go_wp2_with fail
          go_roundw
          case rel =>
            refine ⟨k + 1, by omega, by go_num, fun j u v hj hu hv => ?_, HB.out⟩
            by_cases e : j + 1 = k
            · have e2 : j = q := by have := HQ.out; omega
              subst e2
              rw [HY.out] at hu
              rw [e, HX.out] at hv
              cases hu
              cases hv
              exact HYX.out
            · exact HK.out j u v (by omega) hu hv
          case measure => simp [intOf]; omega
        | false =>
          rw [hyx] at hle
          have hbf : b = false := by
            cases b with
            | false => rfl
            | true =>
              have := asc_at (HB0.out.2 rfl) hy (by rw [← hq]; exact hx)
              rw [hyx] at this
              cases this
          subst hbf
          clear hx hy hyx hq
          have hle2 : (Op.bytesLess x.toList y.toList || x.toList == y.toList) = true := by rw [hle]; rfl
          clear hle
          go_wp2_with fail
          go_ret
          exact ⟨rfl, HB.out⟩
    · obtain rfl : k = m := by omega
      have hbt : b = true := HB0.out.1 (asc_adj fun j x y hx hy => HK.out j x y (by have := (List.getElem?_eq_some_iff.1 hy).1; rw [HL.out] at this; exact this) hx hy)
      subst hbt
      go_wp2_with fail
      go_ret
      exact ⟨rfl, HB.out⟩

theorem sl_drop {w : World} {b off c s : Nat} {ids : List ByteArray} (h : SlS w (some ⟨b, off, none⟩) ids) : SlS w (some ⟨b, off + s, none⟩) (ids.drop s) := fun k x hk => by
  rw [List.getElem?_drop] at hk
  obtain ⟨b', off', e, hc⟩ := h (s + k) x hk
  cases e
  exact ⟨b, off + s, rfl, by rw [Nat.add_assoc]; exact hc⟩
theorem sl_add {w : World} {a : Option Addr} {ids : List ByteArray} (h : SlS w a ids) (B : Nat) : SlS w (a.map fun x => x.add B) (ids.drop B) := fun k x hk => by
  rw [List.getElem?_drop] at hk
  obtain ⟨b, off, rfl, hc⟩ := h (B + k) x hk
  exact ⟨b, off + B, congrArg some (addr_off b off B), by rw [Nat.add_assoc]; exact hc⟩
theorem sl_take {w : World} {a : Option Addr} {ids : List ByteArray} (h : SlS w a ids) (k : Nat) : SlS w a (ids.take k) := fun j x hj => h j x (by rw [List.getElem?_take] at hj; split at hj <;> first | exact hj | cases hj)

def PageTo (ids : List ByteArray) (s : ByteArray) (n : Int) (w : World) (e : Ending) (w' : World) : Prop :=
  ∃ A k c, e = .returned (.tuple #[.slice A k c, .bool (pageMore ids s n), .int .i64 (pageErr ids n)]) ∧ (pageL ids s n).length = k ∧ OwnS w.heap.size w' (.slice A k c) (pageL ids s n) ∧ Below w.heap.size w w'
theorem page_bad {ids : List ByteArray} {s : ByteArray} {n : Int} (h : pageErr ids n ≠ 0) : pageL ids s n = [] ∧ pageMore ids s n = false := by
  unfold pageL pageMore
  rw [if_neg h, if_neg h]
  exact ⟨rfl, rfl⟩
theorem page_good {ids : List ByteArray} {s : ByteArray} {n : Int} (h : pageErr ids n = 0) : pageL ids s n = (above ids s).take n.toNat ∧ pageMore ids s n = decide (n < (above ids s).length) := by
  unfold pageL pageMore
  rw [if_pos h, if_pos h]
  exact ⟨rfl, rfl⟩

set_option maxHeartbeats 4000000 in
theorem page_is {m : Nat} (a : Option Addr) (ids : List ByteArray) (c : Nat) (s : ByteArray) (n : Int) (w : World) (hs : SlS w a ids) (hl : ids.length = m) (hmc : m ≤ c) (hc : c ≤ maxLen) :
    Calls Tryz.prog 30 #[.slice a m c, .string s, .int .i64 n] w (PageTo ids s n w) := by
  have HS := Lib.hid hs
  have HL := Lib.hid hl
  by_cases h1 : 5120 < m
  · have he : pageErr ids n = 2 := by unfold pageErr; rw [if_pos (by rw [hl]; exact h1)]
    obtain ⟨k1, k2⟩ := page_bad (s := s) (by rw [he]; decide)
    unfold PageTo
    rw [he, k1, k2]
    clear he k1 k2 hs hl
    go_enter Tryz.func30, Tryz.ntmps30
    go_wp2_with fail
    exact bodyPost_ret (v := .tuple #[.slice none 0 0, .bool false, .int .i64 2]) (by simp [results, Tryz.results30, go_sem]) rfl ⟨none, 0, 0, rfl, rfl, World.ownsRow_nil _ _ _ _, Below.refl _ _⟩
  · have hm : m ≤ 5120 := by omega
    by_cases h2 : Asc ids
    · have HR := Lib.hid (rising_is (b := true) a ids c w hs hl (by omega) ⟨fun _ => rfl, fun _ => h2⟩)
      by_cases h3 : 1 ≤ n ∧ n ≤ 60
      · obtain ⟨N, hN⟩ : ∃ N : Nat, n = (N : Int) := ⟨n.toNat, by omega⟩
        subst hN
        obtain ⟨n1, n2⟩ := h3
        have he : pageErr ids (N : Int) = 0 := pageErr_ok.2 ⟨by rw [hl]; omega, h2, n1, n2⟩
        obtain ⟨k1, k2⟩ := page_good (s := s) he
        obtain ⟨I, hI⟩ : ∃ I, idxN ids s = I := ⟨_, rfl⟩
        obtain ⟨t, ht⟩ : ∃ t, memN ids s = t := ⟨_, rfl⟩
        have htm : s ∈ ids ↔ t = true := by rw [← ht]; exact memN_iff.symm
        obtain ⟨B, hB⟩ : ∃ B, upTo ids s = B := ⟨_, rfl⟩
        have hBI : B = if t = true then I + 1 else I := by
          rw [← hB, upTo_idx s h2, hI]
          cases t
          · rw [if_neg (fun k => by have := htm.1 k; cases this), if_neg (by decide)]
          · rw [if_pos (htm.2 rfl), if_pos rfl]
        have hBm : B ≤ m := by rw [← hB, ← hl]; exact upTo_le _ _
        have hdr : ids.drop B = above ids s := by rw [← hB]; exact above_drop s h2
        have hal : (above ids s).length = m - B := by rw [← hdr, List.length_drop, hl]
        obtain ⟨E, hE⟩ : ∃ E : Nat, E = min (B + N) m := ⟨_, rfl⟩
        have hmin : min ((B : Int) + (N : Int)) (m : Int) = (E : Int) := by omega
        have hBE : B ≤ E := by omega
        have hEm : E ≤ m := by omega
        have hout : pageL ids s (N : Int) = (ids.drop B).take (E - B) := by
          rw [k1, hdr, Int.toNat_natCast]
          by_cases hle : B + N ≤ m
          · congr 1; omega
          · rw [List.take_of_length_le (by rw [hal]; omega), List.take_of_length_le (by rw [hal]; omega)]
        have hmore : pageMore ids s (N : Int) = decide ((E : Int) < (m : Int)) := by
          rw [k2, hal, decide_eq_decide]
          omega
        obtain ⟨L, hL⟩ : ∃ L, (ids.drop B).take (E - B) = L := ⟨_, rfl⟩
        rw [hL] at hout
        have HLQ := Lib.hid hL
        have HLL : Hid (L.length = E - B) := by
          show L.length = E - B
          rw [← hL, List.length_take, List.length_drop, hl]; omega
        have HSR := Lib.hid (fun w1 (hb : Below w.heap.size w w1) => search_is (t := t) a ids c s w1 (hs.below hb) hl (by omega) h2 hI htm)
        unfold PageTo
        rw [he, hmore, hout]
        have HBI := Lib.hid hBI
        clear hs h2 k1 k2 he hI htm ht hB hBI hdr hal hE hout hmore hL
        go_enter Tryz.func30, Tryz.ntmps30
        go_wp2_with fail
        refine HR.out.mono ?_
        rintro e w1 ⟨rfl, hb1⟩
        go_wp2_with fail
        refine (HSR.out w1 hb1).mono ?_
        rintro e w2 ⟨rfl, hb2⟩
        have hB2 : Below w.heap.size w w2 := hb1.trans (hb2.mono hb1.size)
        have HB2 := Lib.hid hB2
        have hsub : SlS w2 (a.map fun x => x.add B) L := by rw [← HLQ.out]; exact sl_take (sl_add (HS.out.below hB2) B) _
        have hcl1 := cloneS_any (a.map fun x => x.add B) L (c - B) w2 hsub (by rw [HLL.out]; omega)
        rw [HLL.out] at hcl1
        have HC1 := Lib.hid hcl1
        have HC2 : Hid (c = B → Calls Tryz.prog 37 #[.slice a (E - B) (c - B)] w2 (NewS w2.heap.size L w2)) := fun hcb => by
          have h0 : E - B = 0 := by omega
          have hLn : L = [] := List.eq_nil_of_length_eq_zero (by rw [HLL.out, h0])
          have := cloneS_any a [] (c - B) w2 (SlS.nil _ _) (by simp)
          rw [hLn, h0]
          exact this
        clear hb1 hb2 hB2 hsub hcl1 HSR HR
        cases t with
        | true =>
          have hBI : B = I + 1 := HBI.out
          have hBI2 : (I : Int) + 1 = (B : Int) := by omega
          have HBI2 := Lib.hid hBI
          clear hBI HBI
          by_cases hcb : c = B
          · have HC := Lib.hid (HC2.out hcb)
            clear HC1 HC2
            obtain rfl : E = B := by omega
            obtain rfl : m = E := by omega
            subst hcb
            rw [Nat.sub_self] at HC
            go_wp2_with (go_at_call 37; refine HC.out.mono ?_; rintro e w3 ⟨A, c3, rfl, hnew, hb3⟩; have HN := Lib.hid hnew; have HB3 := Lib.hid (HB2.out.trans (hb3.mono HB2.out.size)); have HSZ := Lib.hid HB2.out.size; clear hnew hb3)
            exact bodyPost_ret (v := .tuple #[.slice A L.length c3, .bool false, .int .i64 0]) (by simp [results, Tryz.results30, go_sem]) rfl ⟨A, L.length, c3, by simp, rfl, own_low HN.out HSZ.out, HB3.out⟩
          · have HC := HC1
            clear HC1 HC2
            go_wp2_with (go_at_call 37; refine HC.out.mono ?_; rintro e w3 ⟨A, c3, rfl, hnew, hb3⟩; have HN := Lib.hid hnew; have HB3 := Lib.hid (HB2.out.trans (hb3.mono HB2.out.size)); have HSZ := Lib.hid HB2.out.size; clear hnew hb3)
            exact bodyPost_ret (v := .tuple #[.slice A L.length c3, .bool (decide ((E : Int) < (m : Int))), .int .i64 0]) (by simp [results, Tryz.results30, go_sem]) rfl ⟨A, L.length, c3, rfl, rfl, own_low HN.out HSZ.out, HB3.out⟩
        | false =>
          have hBI : B = I := HBI.out
          clear HBI
          subst hBI
          by_cases hcb : c = B
          · have HC := Lib.hid (HC2.out hcb)
            clear HC1 HC2
            obtain rfl : E = B := by omega
            obtain rfl : m = E := by omega
            subst hcb
            rw [Nat.sub_self] at HC
            go_wp2_with (go_at_call 37; refine HC.out.mono ?_; rintro e w3 ⟨A, c3, rfl, hnew, hb3⟩; have HN := Lib.hid hnew; have HB3 := Lib.hid (HB2.out.trans (hb3.mono HB2.out.size)); have HSZ := Lib.hid HB2.out.size; clear hnew hb3)
            exact bodyPost_ret (v := .tuple #[.slice A L.length c3, .bool false, .int .i64 0]) (by simp [results, Tryz.results30, go_sem]) rfl ⟨A, L.length, c3, by simp, rfl, own_low HN.out HSZ.out, HB3.out⟩
          · have HC := HC1
            clear HC1 HC2
            go_wp2_with (go_at_call 37; refine HC.out.mono ?_; rintro e w3 ⟨A, c3, rfl, hnew, hb3⟩; have HN := Lib.hid hnew; have HB3 := Lib.hid (HB2.out.trans (hb3.mono HB2.out.size)); have HSZ := Lib.hid HB2.out.size; clear hnew hb3)
            exact bodyPost_ret (v := .tuple #[.slice A L.length c3, .bool (decide ((E : Int) < (m : Int))), .int .i64 0]) (by simp [results, Tryz.results30, go_sem]) rfl ⟨A, L.length, c3, rfl, rfl, own_low HN.out HSZ.out, HB3.out⟩
      · have he : pageErr ids n = 1 := by unfold pageErr; rw [if_neg (by rw [hl]; exact h1), if_neg (fun k => k h2), if_neg h3]
        obtain ⟨k1, k2⟩ := page_bad (s := s) (by rw [he]; decide)
        unfold PageTo
        rw [he, k1, k2]
        clear he k1 k2 hs hl h2 HS HL
        by_cases h4 : n < 1
        · clear h3
          go_enter Tryz.func30, Tryz.ntmps30
          go_wp2_with fail
          refine HR.out.mono ?_
          rintro e w1 ⟨rfl, hb1⟩
          go_wp2_with fail
          exact bodyPost_ret (v := .tuple #[.slice none 0 0, .bool false, .int .i64 1]) (by simp [results, Tryz.results30, go_sem]) rfl ⟨none, 0, 0, rfl, rfl, World.ownsRow_nil _ _ _ _, hb1⟩
        · have h5 : 60 < n := by omega
          clear h3
          go_enter Tryz.func30, Tryz.ntmps30
          go_wp2_with fail
          refine HR.out.mono ?_
          rintro e w1 ⟨rfl, hb1⟩
          go_wp2_with fail
          exact bodyPost_ret (v := .tuple #[.slice none 0 0, .bool false, .int .i64 1]) (by simp [results, Tryz.results30, go_sem]) rfl ⟨none, 0, 0, rfl, rfl, World.ownsRow_nil _ _ _ _, hb1⟩
    · have HR := Lib.hid (rising_is (b := false) a ids c w hs hl (by omega) ⟨fun k => absurd k h2, fun k => by cases k⟩)
      have he : pageErr ids n = 3 := by unfold pageErr; rw [if_neg (by rw [hl]; exact h1), if_pos h2]
      obtain ⟨k1, k2⟩ := page_bad (s := s) (by rw [he]; decide)
      unfold PageTo
      rw [he, k1, k2]
      clear he k1 k2 hs hl h2 HS HL
      go_enter Tryz.func30, Tryz.ntmps30
      go_wp2_with fail
      refine HR.out.mono ?_
      rintro e w1 ⟨rfl, hb1⟩
      go_wp2_with fail
      exact bodyPost_ret (v := .tuple #[.slice none 0 0, .bool false, .int .i64 3]) (by simp [results, Tryz.results30, go_sem]) rfl ⟨none, 0, 0, rfl, rfl, World.ownsRow_nil _ _ _ _, hb1⟩
end Go.Proofs.YteimdhkajbldjaaGreat
namespace Go.Proofs.YteimdhkajbldjaaGreat
open Go.RowKit Go.Sort

theorem cellsS_append (a b : List ByteArray) : cellsS (a ++ b) = cellsS a ++ cellsS b := by unfold cellsS; rw [List.map_append]

/-- the same, and what is owned by another stays -/
theorem run_appS' {w : World} (ty : TypeId) {B c : Nat} {v : Value} {fs q : List ByteArray} {A : Option Addr} (hown : OwnS B w v fs) (hq : SlS w A q) (hn : fs.length + q.length ≤ 100000) (hB : B ≤ w.heap.size) :
    ∃ A' c' w', (Builtin.append_ #[33, 33] ty #[v, .slice A q.length c]).run Tryz.prog w = .ok (.slice A' (fs ++ q).length c') w' ∧ OwnS B w' (.slice A' (fs ++ q).length c') (fs ++ q) ∧ Below B w w' ∧ ∀ i, i < w.heap.size → v.ownBlock ≠ some i → w'.heap[i]? = w.heap[i]? := by
  obtain ⟨i0, hi, hz0, hz1, hz2⟩ := info_parts Tryz.infoStr
  cases A with
  | none =>
    have h0 : q = [] := by
      cases q with
      | nil => rfl
      | cons f q =>
        obtain ⟨b, off, e, _⟩ := hq 0 f rfl
        cases e
    subst h0
    obtain ⟨A', c', rfl⟩ := hown.form
    refine ⟨A', c', w, ?_, by simpa using hown, Below.refl _ _, fun _ _ _ => rfl⟩
    rcases hown.2 with ⟨e, h0⟩ | ⟨g, cap, cur, e, _, _, hnc, _⟩
    · injection e with e1 e2 e3
      subst e1 e3
      simp [Builtin.append_, run_underlying Tryz.underlying33, sizeOf, typeInfo, hi, Builtin.lenOf, Builtin.firstCells, h0]
    · cases e
      simp [Builtin.append_, run_underlying Tryz.underlying33, sizeOf, typeInfo, hi, Builtin.lenOf, Builtin.firstCells, hnc, storeCells]
  | some ad =>
    obtain ⟨v', w', hrun, hown', hgrow, _⟩ := run_append_own (P := Tryz.prog) w B 33 ty 9 i0 _ 1 16 Tryz.underlying33 hi hz0 hz1 hz2 rfl (by decide) v fs.length (cellsS fs) hown ad q.length c (cellsS q) (cellsS_len q) hq.cells (cellsS_one q) (by unfold maxLen; omega) (by omega) hB
    have ho : OwnS B w' v' (fs ++ q) := by
      unfold OwnS
      rw [cellsS_append, List.length_append]
      exact hown'
    obtain ⟨A', c', rfl⟩ := ho.form
    refine ⟨A', c', w', hrun, ho, ⟨hgrow.os, hgrow.tape, hgrow.output, hgrow.size, fun i hi => hgrow.block i (by omega) fun e => ?_⟩, fun i h1 h2 => hgrow.block i h1 fun e => h2 e.symm⟩
    have := (World.ownsRow.lt hown i e.symm).1
    omega


/-- a list that another owns, from a later block on, stays where one appends -/
theorem SlS.off {w w' : World} {B2 B3 : Nat} {v : Value} {A : Option Addr} {c : Nat} {L : List ByteArray} (ho : OwnS B3 w (.slice A L.length c) L) (hv : ∀ i, v.ownBlock = some i → i < B2) (hB : B2 ≤ B3) (hk : ∀ i, i < w.heap.size → v.ownBlock ≠ some i → w'.heap[i]? = w.heap[i]?) : SlS w' A L := by
  have hs := (OwnS.sl ho).1
  rcases ho.2 with ⟨e, h0⟩ | ⟨g, cap, cur, e, hlo, hg, h1, h2, h3, h4⟩
  · rw [List.eq_nil_of_length_eq_zero h0]
    exact SlS.nil _ _
  · injection e with e1 _ e3
    subst e1
    intro k s hk2
    obtain ⟨b, off, e4, h5⟩ := hs k s hk2
    cases e4
    refine ⟨_, _, rfl, ?_⟩
    have hlt := cell_lt h5
    have hb := hk _ hlt fun e => by have := hv _ e; omega
    rw [← h5]
    simp only [World.cell?, hb]

/-- append of whatever list of strings, nil or not, onto one's own -/
theorem run_appS {w : World} (ty : TypeId) {B c : Nat} {v : Value} {fs q : List ByteArray} {A : Option Addr} (hown : OwnS B w v fs) (hq : SlS w A q) (hn : fs.length + q.length ≤ 100000) (hB : B ≤ w.heap.size) :
    ∃ A' c' w', (Builtin.append_ #[33, 33] ty #[v, .slice A q.length c]).run Tryz.prog w = .ok (.slice A' (fs ++ q).length c') w' ∧ OwnS B w' (.slice A' (fs ++ q).length c') (fs ++ q) ∧ Below B w w' := by
  obtain ⟨A', c', w', h1, h2, h3, _⟩ := run_appS' (c := c) ty hown hq hn hB
  exact ⟨A', c', w', h1, h2, h3⟩
end Go.Proofs.YteimdhkajbldjaaGreat
namespace Go.Proofs.YteimdhkajbldjaaGreat
open Go.RowKit Go.Sort

theorem sl_new (w : World) (t : TypeId) (ids : List ByteArray) : SlS (w.alloc (.cells (ids.map Value.string).toArray t)) (some ⟨w.heap.size, 0, none⟩) ids := fun k s hk => by
  refine ⟨w.heap.size, 0, rfl, ?_⟩
  have h := (List.getElem?_eq_some_iff.1 hk)
  obtain ⟨hlt, he⟩ := h
  simp [go_sem, hlt, he]
abbrev chA : ByteArray := ⟨#[97]⟩
abbrev chB : ByteArray := ⟨#[98]⟩
abbrev chC : ByteArray := ⟨#[99]⟩
theorem ltAB : sLt chA chB = true := by kernel_rfl
theorem ltBC : sLt chB chC = true := by kernel_rfl
theorem ltAC : sLt chA chC = true := by kernel_rfl
theorem asc_abc : Asc [chA, chB, chC] := by
  unfold Asc
  simp [ltAB, ltBC, ltAC]

/-- a page of names that may be asked for -/
theorem page_to {m : Nat} {L : List ByteArray} {b : Bool} {er : Int} (a : Option Addr) (ids : List ByteArray) (c : Nat) (s : ByteArray) (n : Int) (w : World) (hs : SlS w a ids) (hl : ids.length = m) (hmc : m ≤ c) (hc : c ≤ maxLen)
    (h1 : pageErr ids n = er) (h2 : pageL ids s n = L) (h3 : pageMore ids s n = b) :
    Calls Tryz.prog 30 #[.slice a m c, .string s, .int .i64 n] w fun e w' => ∃ A k c', e = .returned (.tuple #[.slice A k c', .bool b, .int .i64 er]) ∧ L.length = k ∧ OwnS w.heap.size w' (.slice A k c') L ∧ Below w.heap.size w w' := by
  have h := page_is a ids c s n w hs hl hmc hc
  unfold PageTo at h
  rw [h1, h2, h3] at h
  exact h

theorem litA : pageErr [chA, chB, chC] 1 = 0 ∧ pageL [chA, chB, chC] chA 1 = [chB] ∧ pageMore [chA, chB, chC] chA 1 = true := by
  have h0 : pageErr [chA, chB, chC] 1 = 0 := pageErr_ok.2 ⟨by simp, asc_abc, by omega, by omega⟩
  obtain ⟨k1, k2⟩ := page_good (s := chA) h0
  have ha : above [chA, chB, chC] chA = [chB, chC] := by
    unfold above
    simp [sLt_irrefl, ltAB, ltAC]
  rw [k1, k2, ha]
  exact ⟨h0, rfl, rfl⟩

open Classical in
/-- what is wrong with the names alone -/
noncomputable def preErr (l : List ByteArray) : Int := if 5120 < l.length then 2 else if Asc l then 0 else 3
theorem pageErr_pre (l : List ByteArray) (n : Int) : pageErr l n = if preErr l ≠ 0 then preErr l else if 1 ≤ n ∧ n ≤ 60 then 0 else 1 := by
  unfold pageErr preErr
  by_cases h : 5120 < l.length
  · rw [if_pos h, if_pos h, if_pos (by decide)]
  · rw [if_neg h, if_neg h]
    by_cases h2 : Asc l
    · rw [if_neg (fun k => k h2), if_pos h2]
      simp
    · rw [if_pos h2, if_neg h2, if_pos (by decide)]
end Go.Proofs.YteimdhkajbldjaaGreat
namespace Go.Proofs.YteimdhkajbldjaaGreat
open Go.RowKit Go.Sort Go.Shelf

theorem empty_lt {s : ByteArray} (h : s ≠ ⟨#[]⟩) : sLt ⟨#[]⟩ s = true := by
  rcases sLt_tri ⟨#[]⟩ s with k | k | k
  · exact k
  · exact absurd k.symm h
  · exfalso
    unfold sLt at k
    simp [Op.bytesLess] at k

/-- of sorted names none but the first is empty -/
theorem upTo_empty {X : List ByteArray} (h : ∀ x ∈ X, x ≠ ⟨#[]⟩) : upTo X ⟨#[]⟩ = 0 := by
  unfold upTo
  rw [List.countP_eq_zero]
  intro x hx
  rw [empty_lt (h x hx)]
  simp

theorem upTo_at {X : List ByteArray} (h : Asc X) {j : Nat} {x : ByteArray} (hx : X[j]? = some x) : upTo X x = j + 1 := by
  have h1 := upTo_idx x h
  rw [if_pos (List.mem_of_getElem? hx)] at h1
  have h2 := idxN_spec x h
  have h3 := (not_congr (h2 j x hx)).1 (by rw [sLt_irrefl]; simp)
  have hjl := (List.getElem?_eq_some_iff.1 hx).1
  rw [h1]
  congr 1
  refine Nat.le_antisymm (by omega) ?_
  refine Nat.le_of_not_lt fun hlt => ?_
  obtain ⟨y, hy⟩ : ∃ y, X[idxN X x]? = some y := ⟨_, List.getElem?_eq_getElem (by omega)⟩
  have h4 := (not_congr (h2 _ y hy)).2 (by omega)
  have hil := (List.getElem?_eq_some_iff.1 hy).1
  have h5 := List.pairwise_iff_getElem.1 h (idxN X x) j hil hjl hlt
  rw [List.getElem?_eq_getElem hjl] at hx
  rw [List.getElem?_eq_getElem hil] at hy
  rw [Option.some.inj hx, Option.some.inj hy] at h5
  exact h4 h5

theorem eqS_of {A A' : Option Addr} {Y : List ByteArray} {M : Nat} {w : World} (c3 c8 : Nat) (h1 : SlS w A Y) (h2 : SlS w A' Y) (hl : Y.length = M) (hm : Y.length ≤ maxLen) :
    Calls Tryz.prog 35 #[.slice A M c3, .slice A' M c8] w fun e w' => e = .returned (.bool true) ∧ Below w.heap.size w w' := by
  have h := eqS_is (b := true) A A' Y Y c3 c8 w h1 h2 hm hm (by simp)
  rwa [hl] at h
end Go.Proofs.YteimdhkajbldjaaGreat
