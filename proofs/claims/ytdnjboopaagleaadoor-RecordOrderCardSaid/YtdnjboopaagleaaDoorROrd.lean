/- Contracts of Within, ContainsFunc, Grow, Concat at lists of fields, and of RecordOrder's two closures. -/
import Derived.Test.YtdnjboopaagleaaDoorRSet
import Derived.Test.YtdnjboopaagleaaDoorROrdMath
import Derived.Lib.AppendZeros
import Derived.Lib.AppendZerosOnto
import Derived.Lib.SliceRun
set_option linter.unusedVariables false
set_option linter.unusedSimpArgs false
set_option maxRecDepth 100000
namespace Go.Proofs.YtdnjboopaagleaaDoor
open Go.RowKit Go.Sort

def wit (k n : Int) : Nat := (k % 18446744073709551616 % n).toNat
theorem wit_lt (k n : Int) (h0 : 0 < n) : (wit k n : Int) < n := by
  have h1 := Int.emod_nonneg (k % 18446744073709551616) (show n ≠ 0 by omega)
  have h2 := Int.emod_lt_of_pos (k % 18446744073709551616) h0
  unfold wit
  omega
theorem within_eq (k n : Int) (h0 : 0 < n) (h1 : n ≤ 1000000) : wrap64 ((IntKind.u64.wrap k).tmod n) = (wit k n : Nat) := by
  rw [IntKind.wrap_u64, Int.tmod_eq_emod_of_nonneg (by have := Int.emod_nonneg k (show (18446744073709551616 : Int) ≠ 0 by decide); omega)]
  have h2 := Int.emod_nonneg (k % 18446744073709551616) (show n ≠ 0 by omega)
  have h3 := Int.emod_lt_of_pos (k % 18446744073709551616) h0
  unfold wit wrap64
  omega
set_option maxHeartbeats 400000 in
theorem within_n (k n : Int) (w : World) (h0 : 0 < n) (h1 : n ≤ 1000000) :
    Calls Tryd.prog 21 #[.int .i64 k, .int .i64 n] w fun e w' => e = .returned (.int .i64 (wit k n : Nat)) ∧ w = w' := by
  go_enter Tryd.func21, Tryd.ntmps21
  go_wp2
  go_ret
  exact ⟨ret_int (within_eq k n h0 h1), rfl⟩

set_option maxHeartbeats 1000000 in
/-- g.Key == f.Key -/
theorem sameKey_any (b : Nat) (k : ByteArray) (g : FieldL) (w : World) (h : w.cell? ⟨b, 0, none⟩ = some (.string k)) :
    Calls Tryd.prog 20 #[g.v, .pointer (some ⟨b, 0, none⟩)] w fun e w' => e = .returned (.bool (sEq g.key k)) ∧ Below w.heap.size w w' := by
  have hb := cell_lt h
  go_enter Tryd.func20, Tryd.ntmps20
  go_wp2
  go_ret
  exact ⟨rfl, (Below.refl _ _).alloc (Nat.le_refl _) _⟩
theorem sameKey_is {t : Bool} (b : Nat) (k : ByteArray) (g : FieldL) (w : World) (h : w.cell? ⟨b, 0, none⟩ = some (.string k)) (ht : sEq g.key k = t) :
    Calls Tryd.prog 20 #[g.v, .pointer (some ⟨b, 0, none⟩)] w fun e w' => e = .returned (.bool t) ∧ Below w.heap.size w w' := ht ▸ sameKey_any b k g w h

theorem there_take {fs : List FieldL} {k : ByteArray} {n : Nat} {g : FieldL} (hg : fs[n]? = some g) (h : there (fs.take n) k = false) (hk : sEq g.key k = false) : there (fs.take (n + 1)) k = false := by
  unfold there at h ⊢
  rw [List.take_add_one, hg, List.any_append, h]
  show (sEq g.key k || false) = false
  rw [hk]
  rfl

set_option maxHeartbeats 2000000 in
theorem indexFunc_any (a : Option Addr) (fs : List FieldL) (c b : Nat) (k : ByteArray) (w : World) (hs : SlF w a fs) (hm : fs.length ≤ maxLen) (h : w.cell? ⟨b, 0, none⟩ = some (.string k)) :
    Calls Tryd.prog 43 #[.slice a fs.length c, .func (.func 20) #[] #[.pointer (some ⟨b, 0, none⟩)]] w
      fun e w' => ∃ n : Int, e = .returned (.int .i64 n) ∧ there fs k = decide (0 ≤ n) ∧ Below w.heap.size w w' := by
  unfold maxLen at hm
  have HS := Lib.hid hs
  have HC := Lib.hid h
  clear hs h
  go_enter Tryd.func43, Tryd.ntmps43
  go_wp2_with fail
  go_loopw [8] (fun i wr => ∃ n : Nat, n ≤ fs.length ∧ i = .int .i64 n ∧ Hid (there (fs.take n) k = false) ∧ Below w.heap.size w wr) (fun i _ => fs.length - (intOf i).toNat)
  case atStart => exact ⟨0, Nat.zero_le _, rfl, rfl, Below.refl _ _⟩
  case round =>
    obtain ⟨n, hn, rfl, HN, hB⟩ := hrel
    by_cases hlt : n < fs.length
    · obtain ⟨g, hg⟩ : ∃ g, fs[n]? = some g := ⟨_, List.getElem?_eq_getElem hlt⟩
      obtain ⟨ab, off, rfl, c1, c2⟩ := (HS.out.below hB) n g hg
      have HG := Lib.hid hg
      have hcw := (hB.cell (p := ⟨b, 0, none⟩) (cell_lt HC.out)).trans HC.out
      have HCW := Lib.hid hcw
      have i1 : (0 : Int) ≤ (n : Int) := by omega
      clear hg hcw
      cases hk : sEq g.key k with
      | true =>
        go_wp2_with fail
        refine (sameKey_is b k g _ HCW.out hk).mono ?_
        rintro e w1 ⟨rfl, hb1⟩
        have hB1 := hB.trans (hb1.mono hB.size)
        have HK := Lib.hid hk
        clear hk
        go_wp2_with fail
        go_ret
        refine ⟨n, rfl, ?_, hB1⟩
        rw [decide_eq_true i1, there_mem]
        exact ⟨g, List.mem_of_getElem? HG.out, sEq_iff.1 HK.out⟩
      | false =>
        go_wp2_with fail
        refine (sameKey_is b k g _ HCW.out hk).mono ?_
        rintro e w1 ⟨rfl, hb1⟩
        have hB1 := hB.trans (hb1.mono hB.size)
        have HK := Lib.hid hk
        clear hk
        go_wp2_with fail
        go_roundw
        case rel => exact ⟨n + 1, by omega, by go_num, there_take HG.out HN.out HK.out, hB1⟩
        case measure => simp [intOf]; omega
    · obtain rfl : n = fs.length := by omega
      go_wp2_with fail
      go_ret
      refine ⟨-1, rfl, ?_, hB⟩
      have := HN.out
      rw [List.take_length] at this
      rw [this]
      rfl

set_option maxHeartbeats 1000000 in
theorem containsFunc_any (a : Option Addr) (fs : List FieldL) (c b : Nat) (k : ByteArray) (w : World) (hs : SlF w a fs) (hm : fs.length ≤ maxLen) (h : w.cell? ⟨b, 0, none⟩ = some (.string k)) :
    Calls Tryd.prog 19 #[.slice a fs.length c, .func (.func 20) #[] #[.pointer (some ⟨b, 0, none⟩)]] w
      fun e w' => e = .returned (.bool (there fs k)) ∧ Below w.heap.size w w' := by
  have HI := Lib.hid (indexFunc_any a fs c b k w hs hm h)
  clear hs hm h
  go_enter Tryd.func19, Tryd.ntmps19
  go_wp2_with fail
  refine HI.out.mono ?_
  rintro e w1 ⟨n, rfl, hn, hb1⟩
  have HN := Lib.hid hn
  clear hn
  go_wp2_with fail
  go_ret
  exact ⟨ret_bool HN.out.symm, hb1⟩
theorem containsFunc_is {t : Bool} (a : Option Addr) (fs : List FieldL) (c b : Nat) (k : ByteArray) (w : World) (hs : SlF w a fs) (hm : fs.length ≤ maxLen) (h : w.cell? ⟨b, 0, none⟩ = some (.string k)) (ht : there fs k = t) :
    Calls Tryd.prog 19 #[.slice a fs.length c, .func (.func 20) #[] #[.pointer (some ⟨b, 0, none⟩)]] w
      fun e w' => e = .returned (.bool t) ∧ Below w.heap.size w w' := ht ▸ containsFunc_any a fs c b k w hs hm h
end Go.Proofs.YtdnjboopaagleaaDoor
