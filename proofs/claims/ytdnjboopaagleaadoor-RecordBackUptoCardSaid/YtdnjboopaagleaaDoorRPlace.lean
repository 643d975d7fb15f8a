/- Contracts of sort.Search over place's closure, and of place. -/
import Derived.Test.YtdnjboopaagleaaDoorRMem
import Derived.Deep.LoopGhost
set_option linter.unusedVariables false
set_option linter.unusedSimpArgs false
set_option maxRecDepth 100000
namespace Go.Proofs.YtdnjboopaagleaaDoor
open Go.RowKit Go.Sort

set_option maxHeartbeats 1000000 in
theorem closure_any (b1 b2 b off c n i : Nat) (k : ByteArray) (f : FieldL) (w : World) (hi : i < n) (h1 : w.cell? ⟨b1, 0, none⟩ = some (.slice (some ⟨b, off, none⟩) n c)) (h2 : w.cell? ⟨b2, 0, none⟩ = some (.string k))
    (h3 : w.cell? ⟨b, off + i * 2, none⟩ = some (.string f.key)) :
    Calls Tryd.prog 46 #[.int .i64 i, .pointer (some ⟨b1, 0, none⟩), .pointer (some ⟨b2, 0, none⟩)] w fun e w' => e = .returned (.bool (!sLt f.key k)) ∧ Below w.heap.size w w' := by
  have i1 : (0 : Int) ≤ (i : Int) := by omega
  have i2 : (i : Int) < (n : Int) := by omega
  go_enter Tryd.func46, Tryd.ntmps46
  go_wp2_with fail
  go_quiet (fail)
  go_wp2_with fail
  go_ret
  exact ⟨rfl, ⟨rfl, rfl, rfl, Nat.le_refl _, fun _ _ => rfl⟩⟩

set_option maxHeartbeats 2000000 in
/-- sort.Search: where the answers turn, from false to true -/
theorem search_any (b1 b2 n I : Nat) (p : Nat → Bool) (w : World) (hn : n < 4611686018427387904) (hI : I ≤ n) (hp : ∀ i, i < n → (p i = false ↔ i < I))
    (hf : ∀ W i, Below w.heap.size w W → i < n → Calls Tryd.prog 46 #[.int .i64 (i : Nat), .pointer (some ⟨b1, 0, none⟩), .pointer (some ⟨b2, 0, none⟩)] W fun e w' => e = .returned (.bool (p i)) ∧ Below W.heap.size W w') :
    Calls Tryd.prog 45 #[.int .i64 n, .func (.func 46) #[] #[.pointer (some ⟨b1, 0, none⟩), .pointer (some ⟨b2, 0, none⟩)]] w fun e w' => e = .returned (.int .i64 I) ∧ Below w.heap.size w w' := by
  have HF := Lib.hid hf
  have HP := Lib.hid hp
  clear hf hp
  go_enter Tryd.func45, Tryd.ntmps45
  go_wp2_with fail
  go_loopg [5, 6] n (fun kx s5 s6 wr => ∃ lo hi : Nat, s5 = .int .i64 lo ∧ s6 = .int .i64 hi ∧ lo ≤ I ∧ I ≤ hi ∧ hi ≤ n ∧ hi - lo ≤ kx ∧ Below w.heap.size w wr)
  case atStart => exact ⟨0, n, rfl, rfl, Nat.zero_le _, hI, Nat.le_refl _, by omega, Below.refl _ _⟩
  case round =>
    obtain ⟨lo, hi, rfl, rfl, hlo, hhi, hin, hg, hB⟩ := hrel
    by_cases hlt : lo < hi
    · have hc := HF.out wr ((lo + hi) / 2) hB (by omega)
      rw [show (((lo + hi) / 2 : Nat) : Int) = ((lo : Int) + (hi : Int)) / 2 by omega] at hc
      have hq := HP.out ((lo + hi) / 2) (by omega)
      cases hp : p ((lo + hi) / 2) <;> rw [hp] at hc hq
      · have HQ : Hid ((lo + hi) / 2 < I) := hq.1 rfl
        clear hp hq
        have HC := Lib.hid hc
        clear hc
        go_wp2_with fail
        refine HC.out.mono ?_
        rintro e w1 ⟨rfl, hb1⟩
        have hB1 := hB.trans (hb1.mono hB.size)
        go_wp2_with fail
        go_roundg (hi - ((lo + hi) / 2 + 1))
        case measure => omega
        case rel => exact ⟨(lo + hi) / 2 + 1, hi, by rw [show ((lo : Int) + (hi : Int)) / 2 + 1 = (((lo + hi) / 2 + 1 : Nat) : Int) by omega], rfl, HQ.out, hhi, hin, Nat.le_refl _, hB1⟩
      · have HQ : Hid (¬ (lo + hi) / 2 < I) := fun k => by have := hq.2 k; cases this
        clear hp hq
        have HC := Lib.hid hc
        clear hc
        go_wp2_with fail
        refine HC.out.mono ?_
        rintro e w1 ⟨rfl, hb1⟩
        have hB1 := hB.trans (hb1.mono hB.size)
        go_wp2_with fail
        go_roundg ((lo + hi) / 2 - lo)
        case measure => omega
        case rel => exact ⟨lo, (lo + hi) / 2, rfl, by rw [show ((lo : Int) + (hi : Int)) / 2 = (((lo + hi) / 2 : Nat) : Int) by omega], hlo, by have := HQ.out; omega, by omega, Nat.le_refl _, hB1⟩
    · obtain rfl : lo = I := by omega
      go_wp2_with fail
      go_ret
      exact ⟨rfl, hB⟩

set_option maxHeartbeats 2000000 in
set_option maxRecDepth 100000 in
theorem place_any (a : Option Addr) (fs : List FieldL) (c : Nat) (k : ByteArray) (w : World) (hs : SlF w a fs) (hm : fs.length ≤ 6) (ha : Asc (fs.map (·.key))) :
    Calls Tryd.prog 24 #[.slice a fs.length c, .string k] w fun e w' => e = .returned (.tuple #[.int .i64 (idx fs k), .bool (there fs k)]) ∧ Below w.heap.size w w' := by
  obtain ⟨i1, i2⟩ := idx_spec k ha
  have ht := there_iff (k := k) ha
  obtain ⟨I, hI⟩ : ∃ I, I = idx fs k := ⟨_, rfl⟩
  obtain ⟨t, hT⟩ : ∃ t, t = there fs k := ⟨_, rfl⟩
  rw [← hI] at i1 i2 ht ⊢
  rw [← hT] at ht ⊢
  clear hI hT
  obtain ⟨n, hn⟩ : ∃ n, n = fs.length := ⟨_, rfl⟩
  rw [← hn] at i2 hm ⊢
  obtain ⟨W, hW⟩ : ∃ W, W = (w.alloc (.cells #[.slice a n c] 22)).alloc (.cells #[.string k] 9) := ⟨_, rfl⟩
  have hbW : Below w.heap.size w W := by rw [hW]; exact ((Below.refl _ _).alloc (Nat.le_refl _) _).alloc (by simp) _
  have k0 : W.cell? ⟨w.heap.size, 0, none⟩ = some (.slice a n c) := by rw [hW]; simp [go_sem]
  have k1 : W.cell? ⟨w.heap.size + 1, 0, none⟩ = some (.string k) := by rw [hW]; simp [go_sem]
  have hzW : W.heap.size = w.heap.size + 2 := by rw [hW]; simp
  have hsW := hs.below hbW
  have hsearch := search_any w.heap.size (w.heap.size + 1) n I (fun i => !sLt (fs.getD i ⟨ByteArray.empty, ByteArray.empty⟩).key k) W (by omega) i2
    (fun i hi => by
      obtain ⟨f, hf⟩ : ∃ f, fs[i]? = some f := ⟨_, List.getElem?_eq_getElem (by omega)⟩
      have hd : fs.getD i ⟨ByteArray.empty, ByteArray.empty⟩ = f := by rw [List.getD, hf]; rfl
      rw [hd, ← i1 i f hf]
      cases sLt f.key k <;> simp)
    (fun W' i hB hi => by
      obtain ⟨f, hf⟩ : ∃ f, fs[i]? = some f := ⟨_, List.getElem?_eq_getElem (by omega)⟩
      have hd : fs.getD i ⟨ByteArray.empty, ByteArray.empty⟩ = f := by rw [List.getD, hf]; rfl
      rw [hd]
      obtain ⟨b, off, rfl, c1, _⟩ := hsW i f hf
      exact closure_any w.heap.size (w.heap.size + 1) b off c n i k f W' hi ((hB.cell (p := ⟨w.heap.size, 0, none⟩) (by rw [hzW]; simp)).trans k0)
        ((hB.cell (p := ⟨w.heap.size + 1, 0, none⟩) (by rw [hzW]; simp)).trans k1) ((hB.cell (p := ⟨b, off + i * 2, none⟩) (cell_lt c1)).trans c1))
  have HS := Lib.hid hsearch
  have HT := Lib.hid ht
  have HF := Lib.hid hsW
  have HN := Lib.hid hn
  have HI := Lib.hid i1
  have Z1 : w.heap.size < W.heap.size := by omega
  have Z2 : w.heap.size + 1 < W.heap.size := by omega
  clear hsearch ht hsW hs hn i1 ha hzW
  go_enter Tryd.func24, Tryd.ntmps24
  go_wp2_with fail
  rw [← hW]
  refine HS.out.mono ?_
  rintro e w1 ⟨rfl, hb1⟩
  have hB1 := hbW.trans (hb1.mono hbW.size)
  have e0 : w1.cell? ⟨w.heap.size, 0, none⟩ = some (.slice a n c) := (hb1.cell (p := ⟨w.heap.size, 0, none⟩) Z1).trans k0
  have e1 : w1.cell? ⟨w.heap.size + 1, 0, none⟩ = some (.string k) := (hb1.cell (p := ⟨w.heap.size + 1, 0, none⟩) Z2).trans k1
  have HW := Lib.hid hW
  clear hW k0 k1
  go_wp2_with fail
  by_cases hlt : I < n
  · obtain ⟨f, hf⟩ : ∃ f, fs[I]? = some f := ⟨_, List.getElem?_eq_getElem (by have := HN.out; omega)⟩
    obtain ⟨b, off, rfl, c1, _⟩ := HF.out I f hf
    have e2 : w1.cell? ⟨b, off + I * 2, none⟩ = some (.string f.key) := (hb1.cell (p := ⟨b, off + I * 2, none⟩) (cell_lt c1)).trans c1
    have j1 : (0 : Int) ≤ (I : Int) := by omega
    have j2 : (I : Int) < (n : Int) := by omega
    have j3 : decide ((I : Int) < (n : Int)) = true := by simpa using hlt
    have HL : Hid (t = sEq f.key k) := by
      show t = sEq f.key k
      cases hs : sEq f.key k with
      | true => exact HT.out.2 ⟨f, hf, sEq_iff.1 hs⟩
      | false =>
        cases t with
        | false => rfl
        | true =>
          obtain ⟨g, hg, hk⟩ := HT.out.1 rfl
          rw [hf] at hg
          cases hg
          rw [sEq_iff.2 hk] at hs
          cases hs
    clear c1 hf
    go_quiet (fail)
    go_wp2_with fail
    go_ret2
    refine ⟨?_, hB1.trans ⟨rfl, rfl, rfl, Nat.le_refl _, fun _ _ => rfl⟩⟩
    rw [HL.out]
    rfl
  · have j3 : decide ((I : Int) < (n : Int)) = false := by simpa using hlt
    have HL : Hid (t = false) := by
      show t = false
      cases t with
      | false => rfl
      | true =>
        obtain ⟨g, hg, hk⟩ := HT.out.1 rfl
        have := (List.getElem?_eq_some_iff.1 hg).1
        have := HN.out
        omega
    go_quiet (fail)
    go_wp2_with fail
    go_ret2
    refine ⟨?_, hB1.trans ⟨rfl, rfl, rfl, Nat.le_refl _, fun _ _ => rfl⟩⟩
    rw [HL.out]
    rfl
end Go.Proofs.YtdnjboopaagleaaDoor
