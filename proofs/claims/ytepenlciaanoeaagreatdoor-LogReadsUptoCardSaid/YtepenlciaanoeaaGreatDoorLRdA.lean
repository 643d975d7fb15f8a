/- Contracts of log.checkSum, readNumbers, readWho, readRule. Contracts of log.readNumbers, readWho. The contract of log.readRule. Contracts of log.readPut and readCut. The contract of log.readCut. -/
import Derived.Test.YtepenlciaanoeaaGreatDoorLPure
import Derived.Test.YtepenlciaanoeaaGreatDoorLSum
import Derived.Test.YtepenlciaanoeaaGreatDoorRRead
import Derived.Test.YtepenlciaanoeaaGreatDoorRRefRead
import Derived.Test.YtepenlciaanoeaaGreatDoorShelf2
import Derived.Test.YtepenlciaanoeaaGreatDoorROwn
import Derived.Test.YtepenlciaanoeaaGreatDoorRHeld
set_option linter.unusedVariables false
set_option linter.unusedSimpArgs false
set_option maxRecDepth 100000
namespace Go.Proofs.YtepenlciaanoeaaGreatDoor
open Go.RowKit Go.Sort

/-- what is wrong with a sum -/
def ckN (N : Option Int) (T : Nat) : Int :=
  match N with
  | none => 10
  | some n => if ¬ (0 ≤ n ∧ n < 65521) then 10 else if n ≠ (T : Int) then 8 else 0
theorem ckN_none (T : Nat) : ckN none T = 10 := rfl
theorem ckN_out {n : Int} (T : Nat) (h : ¬ (0 ≤ n ∧ n < 65521)) : ckN (some n) T = 10 := if_pos h
theorem ckN_sum {n : Int} {T : Nat} (h : ¬ ¬ (0 ≤ n ∧ n < 65521)) (h2 : n ≠ (T : Int)) : ckN (some n) T = 8 := (if_neg h).trans (if_pos h2)
theorem ckN_ok {n : Int} {T : Nat} (h : ¬ ¬ (0 ≤ n ∧ n < 65521)) (h2 : ¬ n ≠ (T : Int)) : ckN (some n) T = 0 := (if_neg h).trans (if_neg h2)
/-- what stands ahead of the sum of a line, and what is wrong with that -/
def ckE (line : List UInt8) : Int :=
  match markL line with
  | none => 10
  | some p => ckN (numL p.2) (sumL p.1)
def ckS (line : List UInt8) : List UInt8 :=
  match markL line with
  | none => []
  | some p => if ckE line = 0 then p.1 else []
theorem ckE_none {line : List UInt8} (h : markL line = none) : ckE line = 10 := by unfold ckE; rw [h]
theorem ckE_some {line a b : List UInt8} (h : markL line = some (a, b)) : ckE line = ckN (numL b) (sumL a) := by unfold ckE; rw [h]
theorem ckS_none {line : List UInt8} (h : markL line = none) : ckS line = [] := by unfold ckS; rw [h]
theorem ckS_some {line a b : List UInt8} (h : markL line = some (a, b)) : ckS line = if ckE line = 0 then a else [] := by unfold ckS; rw [h]
noncomputable def opEnd (ws : List (List UInt8)) : Except Int OpL :=
  match opOf ws with
  | none => .error 10
  | some o => if logErr o ≠ 0 then .error (logErr o) else .ok o
theorem lineOp_ck (line : List UInt8) : lineOp line = if ckE line = 0 then opEnd (splitC 32 (ckS line)) else .error (ckE line) := by
  unfold lineOp
  cases hm : markL line with
  | none =>
    rw [ckE_none hm, if_neg (by decide)]
  | some p =>
    obtain ⟨said, num⟩ := p
    rw [ckS_some hm, ckE_some hm]
    show (match numL num with
      | none => Except.error 10
      | some n => if ¬ (0 ≤ n ∧ n < 65521) then .error 10 else if n ≠ (sumL said : Int) then .error 8 else opEnd (splitC 32 said)) = _
    cases numL num with
    | none => rw [ckN_none, if_neg (by decide)]
    | some n =>
      show (if ¬ (0 ≤ n ∧ n < 65521) then Except.error 10 else if n ≠ (sumL said : Int) then .error 8 else opEnd (splitC 32 said)) = _
      by_cases h1 : ¬ (0 ≤ n ∧ n < 65521)
      · rw [if_pos h1, ckN_out _ h1, if_neg (by decide)]
      · rw [if_neg h1]
        by_cases h2 : n ≠ (sumL said : Int)
        · rw [if_pos h2, ckN_sum h1 h2, if_neg (by decide)]
        · rw [if_neg h2, ckN_ok h1 h2, if_pos rfl, if_pos rfl]

theorem lastIx_any (s : ByteArray) (w : World) (hs : s.size < 4611686018427387904) :
    Calls Tryz.prog 164 #[.string s, .string ⟨#[32, 61]⟩] w fun e w' => e = .returned (.int .i64 (match markL s.data.toList with | none => -1 | some p => (p.1.length : Int))) ∧ w' = w := by
  have h := Any.strings_LastIndex Tryz.lays148 s ⟨#[32, 61]⟩ hs w
  have e : Lib.lastIndex s.data.toList (⟨#[32, 61]⟩ : ByteArray).data.toList = match markL s.data.toList with | none => -1 | some p => (p.1.length : Int) := last_mark _
  rw [e] at h
  exact h

theorem readNumber_is {n : Option Int} (s : ByteArray) (w : World) (hE : Env w) (h : numL s.data.toList = n) :
    Calls Tryz.prog 129 #[.string s] w fun e w' => e = .returned (.tuple #[.int .i64 (n.getD 0), .bool n.isSome]) ∧ Below w.heap.size w w' := by
  have := readNumber_any s w hE
  rw [h] at this
  exact this

set_option maxHeartbeats 2000000 in
theorem checkSum_any (line : ByteArray) (w : World) (hE : Env w) (hs : line.size < 4294967296) :
    Calls Tryz.prog 98 #[.string line] w fun e w' => e = .returned (.tuple #[.string (bs (ckS line.data.toList)), .int .i64 (ckE line.data.toList)]) ∧ Below w.heap.size w w' := by
  have HE := Lib.hid hE
  have HL := Lib.hid (lastIx_any line w (by omega))
  obtain ⟨CE, hCE⟩ : ∃ CE, CE = ckE line.data.toList := ⟨_, rfl⟩
  obtain ⟨CS, hCS⟩ : ∃ CS, CS = bs (ckS line.data.toList) := ⟨_, rfl⟩
  rw [← hCE, ← hCS]
  have HCE := Lib.hid hCE
  have HCS := Lib.hid hCS
  clear hE hCE hCS
  cases hm : markL line.data.toList with
  | none =>
    rw [hm] at HL
    have he : CE = 10 := by rw [HCE.out, ckE_none hm]
    have hc : CS = ⟨#[]⟩ := by rw [HCS.out, ckS_none hm]; rfl
    subst he hc
    clear hm
    go_enter Tryz.func98, Tryz.ntmps98
    go_wp2_with fail
    refine HL.out.mono ?_
    rintro e w' ⟨rfl, rfl⟩
    go_wp2_with fail
    go_ret2
    exact ⟨rfl, Below.refl _ _⟩
  | some p =>
    obtain ⟨a, b⟩ := p
    rw [hm] at HL
    obtain ⟨hl, hnm⟩ := markL_some hm
    have hsz : line.size = a.length + (b.length + 2) := by rw [Lib.size_eq, hl]; simp
    obtain ⟨K, hK⟩ : ∃ K, K = a.length := ⟨_, rfl⟩
    have HLN := Lib.hid hl
    have HM := Lib.hid hm
    have HK := Lib.hid hK
    rw [← hK] at hsz
    have HL2 : Hid (Calls Tryz.prog 164 #[.string line, .string ⟨#[32, 61]⟩] w fun e w' => e = .returned (.int .i64 (K : Int)) ∧ w' = w) := by rw [hK]; exact HL
    obtain ⟨M, hM⟩ : ∃ M, M = b.length := ⟨_, rfl⟩
    rw [← hM] at hsz
    have hx1 : line.extract (K + 2) (K + (M + 2)) = bs b := by
      apply data_inj
      rw [ext_data, data_bs, hl, hK, hM]
      have : a ++ 32 :: 61 :: b = (a ++ [32, 61]) ++ b := by simp
      rw [this, show a.length + 2 = (a ++ [32, 61]).length by simp, List.drop_left, List.take_of_length_le (by simp; omega)]
    have hx2 : line.extract 0 K = bs a := by
      apply data_inj
      rw [ext_data, data_bs, hl, hK]
      simp
    have hKs : K + 2 ≤ line.size := by omega
    have hw1 : wrap64 ((K : Int) + 2) = ((K + 2 : Nat) : Int) := by unfold wrap64; omega
    clear hm hl hnm hK HL hM
    go_enter Tryz.func98, Tryz.ntmps98
    go_wp2_with fail
    refine HL2.out.mono ?_
    rintro e w' ⟨rfl, rfl⟩
    go_wp2_with fail
    obtain ⟨N, hN⟩ : ∃ N, numL b = N := ⟨_, rfl⟩
    have HN : Hid (numL b = N) := hN
    have hce : CE = ckN N (sumL a) := by rw [HCE.out, ckE_some HM.out, hN]
    have hcs : CS = bs (if CE = 0 then a else []) := by rw [HCS.out, ckS_some HM.out, ← HCE.out]
    have HCE2 := Lib.hid hce
    have HCS2 := Lib.hid hcs
    have hsa : (bs a).size < 4294967296 := by
      rw [bs_size, ← HK.out]
      omega
    have HSA := Lib.hid hsa
    clear hce hcs hsa
    clear hN
    refine (readNumber_is (n := N) (bs b) w' HE.out (by rw [data_bs]; exact HN.out)).mono ?_
    rintro e w1 ⟨rfl, hb1⟩
    have HB1 := Lib.hid hb1
    clear hb1
    cases N with
    | none =>
      have he : CE = 10 := HCE2.out
      have hc : CS = ⟨#[]⟩ := by rw [HCS2.out, if_neg (fun k => absurd (he.symm.trans k) (by decide))]; rfl
      subst he hc
      go_wp2_with fail
      go_ret2
      exact ⟨rfl, HB1.out⟩
    | some n =>
      have hce : CE = if ¬ (0 ≤ n ∧ n < 65521) then 10 else if n ≠ (sumL a : Int) then 8 else 0 := HCE2.out
      by_cases h0 : n < 0
      · have he : CE = 10 := by rw [hce, if_pos (by omega)]
        have hc : CS = ⟨#[]⟩ := by rw [HCS2.out, if_neg (fun k => absurd (he.symm.trans k) (by decide))]; rfl
        subst he hc
        clear hce
        go_wp2_with fail
        go_ret2
        exact ⟨rfl, HB1.out⟩
      · by_cases h1 : 65521 ≤ n
        · have he : CE = 10 := by rw [hce, if_pos (by omega)]
          have hc : CS = ⟨#[]⟩ := by rw [HCS2.out, if_neg (fun k => absurd (he.symm.trans k) (by decide))]; rfl
          subst he hc
          clear hce
          go_wp2_with fail
          go_ret2
          exact ⟨rfl, HB1.out⟩
        · rw [if_neg (by omega)] at hce
          obtain ⟨T, hT⟩ : ∃ T, sumL a = T := ⟨_, rfl⟩
          rw [hT] at hce
          have HTT := Lib.hid hT
          have HCE3 := Lib.hid hce
          clear hce hT
          by_cases h2 : n = (T : Int)
          · have he : CE = 0 := by rw [HCE3.out, if_neg (by omega)]
            have hc : CS = bs a := by rw [HCS2.out, if_pos he]
            subst he hc
            have h2f : (n == (T : Int)) = true := by simpa using h2
            go_wp2_with fail
            refine (logSum_is (n := T) (bs a) w1 HSA.out (by rw [data_bs]; exact HTT.out)).mono ?_
            rintro e w2 ⟨rfl, hb2⟩
            have hB2 := HB1.out.trans (hb2.mono HB1.out.size)
            go_wp2_with fail
            go_ret2
            exact ⟨rfl, hB2⟩
          · have he : CE = 8 := by rw [HCE3.out, if_pos h2]
            have hc : CS = ⟨#[]⟩ := by rw [HCS2.out, if_neg (fun k => absurd (he.symm.trans k) (by decide))]; rfl
            subst he hc
            have h2f : (n == (T : Int)) = false := by simpa using h2
            go_wp2_with fail
            refine (logSum_is (n := T) (bs a) w1 HSA.out (by rw [data_bs]; exact HTT.out)).mono ?_
            rintro e w2 ⟨rfl, hb2⟩
            have hB2 := HB1.out.trans (hb2.mono HB1.out.size)
            go_wp2_with fail
            go_ret2
            exact ⟨rfl, hB2⟩
end Go.Proofs.YtepenlciaanoeaaGreatDoor
namespace Go.Proofs.YtepenlciaanoeaaGreatDoor
open Go.RowKit Go.Sort

theorem numsL_snoc : ∀ {ws : List (List UInt8)} {l : List Int} {x : List UInt8} {n : Int}, numsL ws = some l → numL x = some n → numsL (ws ++ [x]) = some (l ++ [n])
  | [], l, x, n, h, hx => by
    cases h
    exact numsL_cons hx rfl
  | w :: r, l, x, n, h, hx => by
    cases h1 : numL w with
    | none => rw [numsL_bad h1] at h; cases h
    | some m =>
      cases h2 : numsL r with
      | none => rw [numsL_rest h2] at h; cases h
      | some q =>
        rw [numsL_cons h1 h2] at h
        cases h
        exact numsL_cons h1 (numsL_snoc h2 hx)
theorem numsL_none_at : ∀ (ws : List (List UInt8)) {x : List UInt8} (r : List (List UInt8)), numL x = none → numsL (ws ++ x :: r) = none
  | [], x, r, hx => numsL_bad hx
  | w :: q, x, r, hx => numsL_rest (numsL_none_at q r hx)
theorem numsL_len {ws : List (List UInt8)} {l : List Int} (h : numsL ws = some l) : l.length = ws.length := by
  have := congrArg List.length (numsL_some h)
  simpa using this.symm

theorem Tryz.infoInt : (Tryz.prog.info? 3).map (fun i => (i.zero, i.size, i.bytes)) = some (some (.int .i64 0), 1, 8) := by kernel_rfl
/-- a new list of numbers that is being filled -/
structure FillI (G : Nat) (zs : List Int) (n : Nat) (wb wr : World) : Prop where
  done : ∀ j z, zs[j]? = some z → wr.cell? ⟨G, j, none⟩ = some (.int .i64 z)
  rest : ∀ j, zs.length ≤ j → j < n → wr.cell? ⟨G, j, none⟩ = some (.int .i64 0)
  fz : ∀ j, wr.frozen? ⟨G, j, none⟩ = false
  lt : G < wr.heap.size
  le : wb.heap.size ≤ G
  below : Below wb.heap.size wb wr
theorem FillI.keep {G n : Nat} {zs : List Int} {wb wr wr' : World} (h : FillI G zs n wb wr) (hb : Below wr.heap.size wr wr') : FillI G zs n wb wr' := by
  obtain ⟨hc, hf⟩ := bcell hb
  exact ⟨fun j z hz => (hc _ _ h.lt).trans (h.done j z hz), fun j hj hx => (hc _ _ h.lt).trans (h.rest j hj hx), fun j => (hf _ _ h.lt).trans (h.fz j), Nat.lt_of_lt_of_le h.lt hb.size, h.le, h.below.trans (hb.mono h.below.size)⟩
theorem FillI.set {G n : Nat} {zs : List Int} {wb wr : World} (h : FillI G zs n wb wr) (z : Int) (hn : zs.length < n) : FillI G (zs ++ [z]) n wb (wr.setCell ⟨G, zs.length, none⟩ (.int .i64 z)) := by
  have c0 := h.rest zs.length (Nat.le_refl _) hn
  refine ⟨fun j y hy => ?_, fun j hj hl => ?_, fun j => ?_, by simpa using h.lt, h.le, h.below.setCell h.le _⟩
  · by_cases e : j = zs.length
    · subst e
      rw [List.getElem?_append_right (Nat.le_refl _), Nat.sub_self] at hy
      cases hy
      simp [go_sem, c0]
    · have hj : j < zs.length := by
        have := (List.getElem?_eq_some_iff.1 hy).1
        simp at this
        omega
      rw [List.getElem?_append_left hj] at hy
      have := h.done j y hy
      have e2 : ¬ zs.length = j := fun q => e q.symm
      simp [go_sem, this, e, e2]
  · rw [List.length_append] at hj
    have hj : zs.length + 1 ≤ j := hj
    have := h.rest j (by omega) hl
    have e : j ≠ zs.length := by omega
    have e2 : ¬ zs.length = j := by omega
    simp [go_sem, this, e, e2]
  · simp [go_sem, h.fz j]
theorem FillI.made (n : Nat) (w : World) : FillI w.heap.size [] n w (w.alloc (.cells (madeCells #[.int .i64 0] n) 3)) := by
  refine ⟨fun j x hx => by simp at hx, fun j _ hl => ?_, fun j => by simp [go_sem], by simp, Nat.le_refl _, (Below.refl _ _).alloc (Nat.le_refl _) _⟩
  have : (madeCells #[Value.int .i64 0] n)[j]? = some (.int .i64 0) := by
    unfold madeCells
    rw [Array.getElem?_map, Array.getElem?_range, if_pos (by simpa using hl)]
    simp [Nat.mod_one]
  simp only [World.cell?, World.alloc]
  simp only [Array.getElem?_push_size, Option.isSome_none, Bool.false_eq_true, if_false]
  exact this
theorem FillI.all {G n : Nat} {zs : List Int} {wb wr : World} (h : FillI G zs n wb wr) : Sl wr (some ⟨G, 0, none⟩) zs.length (fun k => zs.getD k 0) := fun k hk => ⟨G, 0, rfl, by
  rw [Nat.zero_add]
  have hz : zs[k]? = some (zs.getD k 0) := by rw [List.getD, List.getElem?_eq_getElem hk]; rfl
  exact h.done k _ hz⟩

def NumsTo (ws : List (List UInt8)) (w : World) (e : Ending) (w' : World) : Prop :=
  (∃ l A, numsL ws = some l ∧ e = .returned (.tuple #[.slice A l.length l.length, .bool true]) ∧ Sl w' A l.length (fun k => l.getD k 0) ∧ Below w.heap.size w w') ∨
  (numsL ws = none ∧ e = .returned (.tuple #[.slice none 0 0, .bool false]) ∧ Below w.heap.size w w')

set_option maxHeartbeats 2000000 in
theorem readNumbers_any (a : Option Addr) (xs : List ByteArray) (c : Nat) (w : World) (hE : Env w) (hs : SlS w a xs) (hn : xs.length ≤ 100000) :
    Calls Tryz.prog 260 #[.slice a xs.length c] w (NumsTo (xs.map fun s => s.data.toList) w) := by
  have HE := Lib.hid hE
  have HS := Lib.hid hs
  obtain ⟨i0, hi0, hz0, hz1, hz2⟩ := info_parts Tryz.infoInt
  obtain ⟨ws, hws⟩ : ∃ ws, ws = xs.map (fun s => s.data.toList) := ⟨_, rfl⟩
  rw [← hws]
  have HW := Lib.hid hws
  obtain ⟨N, hN⟩ : ∃ N, N = xs.length := ⟨_, rfl⟩
  have HN := Lib.hid hN
  rw [← hN] at hn ⊢
  have hmk := run_make_row (P := Tryz.prog) 22 3 i0 (.int .i64 0) Tryz.underlying22 hi0 hz0 hz1 rfl .i64 .i64 N (by rw [hz2]; omega) (by omega) w
  have HM := Lib.hid (FillI.made N w)
  clear hE hs hws hN
  go_enter Tryz.func260, Tryz.ntmps260
  go_wp2_with fail
  go_loopw [14] (fun i wr => ∃ (k : Nat) (l : List Int), k ≤ N ∧ i = .int .i64 k ∧ Hid (numsL (ws.take k) = some l ∧ FillI w.heap.size l N w wr)) (fun i _ => N - (intOf i).toNat)
  case atStart => exact ⟨0, [], Nat.zero_le _, rfl, rfl, HM.out⟩
  case round =>
    obtain ⟨k, l, hk, rfl, HF⟩ := hrel
    have hwl : ws.length = N := by rw [HW.out, List.length_map, ← HN.out]
    have hll : l.length = k := by rw [numsL_len HF.out.1, List.length_take, hwl]; omega
    by_cases hlt : k < N
    · obtain ⟨x, hx⟩ : ∃ x, xs[k]? = some x := ⟨_, List.getElem?_eq_getElem (by rw [← HN.out]; exact hlt)⟩
      obtain ⟨b, off, rfl, d0⟩ := (HS.out.below HF.out.2.below) k x hx
      have hwk : ws[k]? = some x.data.toList := by rw [HW.out, List.getElem?_map, hx]; rfl
      obtain ⟨R, hR⟩ : ∃ R, numL x.data.toList = R := ⟨_, rfl⟩
      have HRD := Lib.hid (readNumber_is (n := R) x wr (HE.out.below HF.out.2.below) hR)
      have HWK := Lib.hid hwk
      have HRR := Lib.hid hR
      have HLL := Lib.hid hll
      have i1 : (0 : Int) ≤ (k : Int) := by omega
      have hbl := cell_lt d0
      clear hx hwk hR hwl hll hmk
      go_wp2_with fail
      refine HRD.out.mono ?_
      rintro e w2 ⟨rfl, hb2⟩
      have HF2 := Lib.hid (HF.out.2.keep hb2)
      clear hb2 d0 hbl HRD
      cases R with
      | none =>
        go_wp2_with fail
        go_ret2
        refine .inr ⟨?_, rfl, HF2.out.below⟩
        have : ws = ws.take k ++ x.data.toList :: ws.drop (k + 1) := by
          have h1 := List.take_append_drop k ws
          have h2 : ws.drop k = x.data.toList :: ws.drop (k + 1) := by
            rw [← List.getElem_cons_drop (by have := (List.getElem?_eq_some_iff.1 HWK.out).1; exact this), (List.getElem?_eq_some_iff.1 HWK.out).2]
          rw [h2] at h1
          exact h1.symm
        rw [this]
        exact numsL_none_at _ _ HRR.out
      | some n =>
        have hc0 := HF2.out.rest k (by rw [HLL.out]; exact Nat.le_refl _) hlt
        have hz0 := HF2.out.fz k
        have hgl := HF2.out.lt
        go_wp2_with fail
        refine ⟨⟨k + 1, l ++ [n], by omega, by go_num, ?_, ?_⟩, by simp [intOf]; omega⟩
        · rw [List.take_add_one, HWK.out]
          exact numsL_snoc HF.out.1 HRR.out
        · have := HF2.out.set n (by rw [HLL.out]; exact hlt)
          rw [HLL.out] at this
          exact this
    · have hkN : k = N := by omega
      have hall : numsL ws = some l := by
        have := HF.out.1
        rwa [List.take_of_length_le (by omega)] at this
      have HAL := Lib.hid hall
      have HLL : Hid (N = l.length) := by show _ = _; omega
      clear hall hmk hll hwl hkN
      go_wp2_with fail
      go_ret2
      refine .inl ⟨l, some ⟨w.heap.size, 0, none⟩, HAL.out, ?_, HF.out.2.all, HF.out.2.below⟩
      rw [← HLL.out]
      rfl

/-- who asks, that a call made -/
theorem whoOf_nums {a b c : List UInt8} {l : List Int} (h : numsL [a, b, c] = some l) : ∃ x y z, l = [x, y, z] ∧ whoOf a b c = some ⟨x, y, z⟩ := by
  have hl := numsL_len h
  match l, hl with
  | [x, y, z], _ => exact ⟨x, y, z, rfl, by unfold whoOf; rw [h]⟩
theorem whoOf_none {a b c : List UInt8} (h : numsL [a, b, c] = none) : whoOf a b c = none := by unfold whoOf; rw [h]
theorem sl_at {w : World} {A : Option Addr} {l : List Int} (h : Sl w A l.length (fun k => l.getD k 0)) {k : Nat} {z : Int} (hk : l[k]? = some z) : ∃ g o, A = some ⟨g, o, none⟩ ∧ w.cell? ⟨g, o + k, none⟩ = some (.int .i64 z) := by
  obtain ⟨g, o, e, hc⟩ := h k (List.getElem?_eq_some_iff.1 hk).1
  refine ⟨g, o, e, ?_⟩
  have : l.getD k 0 = z := by rw [List.getD, hk]; rfl
  rw [← this]
  exact hc

set_option maxHeartbeats 2000000 in
theorem readWho_any (a : Option Addr) (x y z : ByteArray) (r : List ByteArray) (n c : Nat) (w : World) (hE : Env w) (hs : SlS w a (x :: y :: z :: r)) (hn : n = r.length + 3) (hc : n ≤ c) :
    Calls Tryz.prog 221 #[.slice a n c] w fun e w' => (∃ q : WhoL, e = .returned (.tuple #[q.v, .bool (whoOf x.data.toList y.data.toList z.data.toList).isSome]) ∧ (whoOf x.data.toList y.data.toList z.data.toList).getD who0 = q) ∧ Below w.heap.size w w' := by
  have h3 : SlS w a [x, y, z] := fun k s hk => hs k s (by
    have := (List.getElem?_eq_some_iff.1 hk).1
    match k, hk with
    | 0, hk => exact hk
    | 1, hk => exact hk
    | 2, hk => exact hk
    | k + 3, hk => simp at hk)
  obtain ⟨g, o, rfl, _⟩ := hs 0 x rfl
  have hE2 : Env (w.alloc (.cells #[.int .i64 0, .int .i64 0, .int .i64 0] 35)) := hE.below ((Below.refl _ _).alloc (Nat.le_refl _) _)
  have HRN := Lib.hid (readNumbers_any (some ⟨g, o, none⟩) [x, y, z] c (w.alloc (.cells #[.int .i64 0, .int .i64 0, .int .i64 0] 35)) hE2 (h3.below ((Below.refl _ _).alloc (Nat.le_refl _) _)) (by simp))
  have hA : Below w.heap.size w (w.alloc (.cells #[.int .i64 0, .int .i64 0, .int .i64 0] 35)) := (Below.refl _ _).alloc (Nat.le_refl _) _
  have HA := Lib.hid hA
  obtain ⟨R, hR⟩ : ∃ R, R = whoOf x.data.toList y.data.toList z.data.toList := ⟨_, rfl⟩
  rw [← hR]
  have HR := Lib.hid hR
  have hc3 : 3 ≤ c := by omega
  have hi3 : (3 : Int) ≤ (c : Int) := by omega
  clear hs h3 hE hE2 hA hn hR
  go_enter Tryz.func221, Tryz.ntmps221
  go_wp2_with fail
  refine HRN.out.mono ?_
  rintro e w1 (⟨l, A, hl, rfl, hsl, hb⟩ | ⟨hl, rfl, hb⟩)
  · obtain ⟨X, Y, Z, rfl, hwo⟩ := whoOf_nums hl
    obtain ⟨g1, o1, rfl, c0⟩ := sl_at hsl (k := 0) rfl
    obtain ⟨_, _, e1, c1⟩ := sl_at hsl (k := 1) rfl
    cases e1
    obtain ⟨_, _, e2, c2⟩ := sl_at hsl (k := 2) rfl
    cases e2
    rw [Nat.add_zero] at c0
    have hgl := cell_lt c0
    obtain rfl : R = some ⟨X, Y, Z⟩ := HR.out.trans hwo
    have HB := Lib.hid (HA.out.trans (hb.mono HA.out.size))
    obtain ⟨hc1, hf1⟩ := bcell hb
    have d0 : w1.cell? ⟨w.heap.size, 0, none⟩ = some (.int .i64 0) := by rw [hc1 _ _ (by simp)]; simp [go_sem]
    have d1 : w1.cell? ⟨w.heap.size, 1, none⟩ = some (.int .i64 0) := by rw [hc1 _ _ (by simp)]; simp [go_sem]
    have d2 : w1.cell? ⟨w.heap.size, 2, none⟩ = some (.int .i64 0) := by rw [hc1 _ _ (by simp)]; simp [go_sem]
    have z0 : w1.frozen? ⟨w.heap.size, 0, none⟩ = false := by rw [hf1 _ _ (by simp)]; simp [go_sem]
    have z1 : w1.frozen? ⟨w.heap.size, 1, none⟩ = false := by rw [hf1 _ _ (by simp)]; simp [go_sem]
    have z2 : w1.frozen? ⟨w.heap.size, 2, none⟩ = false := by rw [hf1 _ _ (by simp)]; simp [go_sem]
    have hwl : w.heap.size < w1.heap.size := cell_lt d0
    clear hl hwo hsl hb hc1 hf1 HRN
    go_wp2_with fail
    go_region
    go_wp2_with fail
    refine bodyPost_ret (v := .tuple #[WhoL.v ⟨X, Y, Z⟩, .bool true]) (by simp [results, Tryz.results221, go_sem, d0, d1, d2, z0, z1, z2]) rfl ?_
    exact ⟨⟨⟨X, Y, Z⟩, rfl, rfl⟩, ((HB.out.drew.setCell (Nat.le_refl _) _).setCell (Nat.le_refl _) _).setCell (Nat.le_refl _) _⟩
  · obtain rfl : R = none := HR.out.trans (whoOf_none hl)
    have HB := Lib.hid (HA.out.trans (hb.mono HA.out.size))
    obtain ⟨hc1, hf1⟩ := bcell hb
    have d0 : w1.cell? ⟨w.heap.size, 0, none⟩ = some (.int .i64 0) := by rw [hc1 _ _ (by simp)]; simp [go_sem]
    have d1 : w1.cell? ⟨w.heap.size, 1, none⟩ = some (.int .i64 0) := by rw [hc1 _ _ (by simp)]; simp [go_sem]
    have d2 : w1.cell? ⟨w.heap.size, 2, none⟩ = some (.int .i64 0) := by rw [hc1 _ _ (by simp)]; simp [go_sem]
    have z0 : w1.frozen? ⟨w.heap.size, 0, none⟩ = false := by rw [hf1 _ _ (by simp)]; simp [go_sem]
    have z1 : w1.frozen? ⟨w.heap.size, 1, none⟩ = false := by rw [hf1 _ _ (by simp)]; simp [go_sem]
    have z2 : w1.frozen? ⟨w.heap.size, 2, none⟩ = false := by rw [hf1 _ _ (by simp)]; simp [go_sem]
    have hwl : w.heap.size < w1.heap.size := cell_lt d0
    clear hl hb hc1 hf1 HRN
    go_wp2_with fail
    refine bodyPost_ret (v := .tuple #[who0.v, .bool false]) (by simp [results, Tryz.results221, go_sem, d0, d1, d2, z0, z1, z2, who0]) rfl ?_
    exact ⟨⟨who0, rfl, (rfl : (none : Option WhoL).getD who0 = who0)⟩, ((HB.out.setCell (Nat.le_refl _) _).setCell (Nat.le_refl _) _).setCell (Nat.le_refl _) _⟩
end Go.Proofs.YtepenlciaanoeaaGreatDoor
namespace Go.Proofs.YtepenlciaanoeaaGreatDoor
open Go.RowKit Go.Sort

/-- the rule that these words say -/
def ruleW : List (List UInt8) → Option RuleL
  | [a, b, c, d, e, f] => ruleOf a b c d e f
  | _ => none
theorem ruleW_len {ws : List (List UInt8)} (h : ws.length ≠ 6) : ruleW ws = none := by
  unfold ruleW
  split
  · exact absurd rfl h
  · rfl
/-- six cells of a block of its own, zero -/
structure Zero6 (b : Nat) (w : World) : Prop where
  c0 : w.cell? ⟨b, 0, none⟩ = some (.int .i64 0)
  c1 : w.cell? ⟨b, 1, none⟩ = some (.int .i64 0)
  c2 : w.cell? ⟨b, 2, none⟩ = some (.int .i64 0)
  c3 : w.cell? ⟨b, 3, none⟩ = some (.int .i64 0)
  c4 : w.cell? ⟨b, 4, none⟩ = some (.int .i64 0)
  c5 : w.cell? ⟨b, 5, none⟩ = some (.bool false)
  f0 : w.frozen? ⟨b, 0, none⟩ = false
  f1 : w.frozen? ⟨b, 1, none⟩ = false
  f2 : w.frozen? ⟨b, 2, none⟩ = false
  f3 : w.frozen? ⟨b, 3, none⟩ = false
  f4 : w.frozen? ⟨b, 4, none⟩ = false
  f5 : w.frozen? ⟨b, 5, none⟩ = false
theorem Zero6.below {b : Nat} {w w' : World} (h : Zero6 b w) (hb : Below w.heap.size w w') : Zero6 b w' := by
  obtain ⟨hc, hf⟩ := bcell hb
  have hl := cell_lt h.c0
  exact ⟨(hc _ _ hl).trans h.c0, (hc _ _ hl).trans h.c1, (hc _ _ hl).trans h.c2, (hc _ _ hl).trans h.c3, (hc _ _ hl).trans h.c4, (hc _ _ hl).trans h.c5, (hf _ _ hl).trans h.f0, (hf _ _ hl).trans h.f1, (hf _ _ hl).trans h.f2, (hf _ _ hl).trans h.f3, (hf _ _ hl).trans h.f4, (hf _ _ hl).trans h.f5⟩
theorem Zero6.made (w : World) : Zero6 w.heap.size (w.alloc (.cells #[.int .i64 0, .int .i64 0, .int .i64 0, .int .i64 0, .int .i64 0, .bool false] 51)) := by constructor <;> simp [go_sem]
theorem rule_nums {a b c d e f : List UInt8} {l : List Int} (h : numsL [a, b, c, d, e] = some l) : ∃ x0 x1 x2 x3 x4, l = [x0, x1, x2, x3, x4] ∧ ruleOf a b c d e f = if f = yesB then some ⟨x0, x1, x2, x3, x4, true⟩ else if f = noB then some ⟨x0, x1, x2, x3, x4, false⟩ else none := by
  have hl := numsL_len h
  match l, hl with
  | [x0, x1, x2, x3, x4], _ => exact ⟨x0, x1, x2, x3, x4, rfl, by unfold ruleOf; rw [h]⟩
theorem rule_none {a b c d e f : List UInt8} (h : numsL [a, b, c, d, e] = none) : ruleOf a b c d e f = none := by unfold ruleOf; rw [h]

def RuleTo (R : Option RuleL) (w : World) (e : Ending) (w' : World) : Prop := ∃ q : RuleL, e = .returned (.tuple #[q.v, .bool R.isSome]) ∧ R.getD rule0 = q ∧ Below w.heap.size w w'
set_option maxHeartbeats 2000000 in
theorem readRule_six (g o c : Nat) (s0 s1 s2 s3 s4 s5 : ByteArray) (w : World) (hE : Env w) (hs : SlS w (some ⟨g, o, none⟩) [s0, s1, s2, s3, s4, s5]) (hc : 6 ≤ c) :
    Calls Tryz.prog 220 #[.slice (some ⟨g, o, none⟩) 6 c] w (RuleTo (ruleOf s0.data.toList s1.data.toList s2.data.toList s3.data.toList s4.data.toList s5.data.toList) w) := by
  have h5 : SlS w (some ⟨g, o, none⟩) [s0, s1, s2, s3, s4] := fun k s hk => hs k s (by
    match k, hk with
    | 0, hk => exact hk
    | 1, hk => exact hk
    | 2, hk => exact hk
    | 3, hk => exact hk
    | 4, hk => exact hk
    | k + 5, hk => simp at hk)
  obtain ⟨_, _, e5, d5⟩ := hs 5 s5 rfl
  cases e5
  have hA : Below w.heap.size w (w.alloc (.cells #[.int .i64 0, .int .i64 0, .int .i64 0, .int .i64 0, .int .i64 0, .bool false] 51)) := (Below.refl _ _).alloc (Nat.le_refl _) _
  have HRN := Lib.hid (readNumbers_any (some ⟨g, o, none⟩) [s0, s1, s2, s3, s4] c (w.alloc (.cells #[.int .i64 0, .int .i64 0, .int .i64 0, .int .i64 0, .int .i64 0, .bool false] 51)) (hE.below hA) (h5.below hA) (by simp))
  have HA := Lib.hid hA
  have HD5 := Lib.hid (((bcell hA).1 _ _ (cell_lt d5)).trans d5)
  have HZ := Lib.hid (Zero6.made w)
  obtain ⟨R, hR⟩ : ∃ R, R = ruleOf s0.data.toList s1.data.toList s2.data.toList s3.data.toList s4.data.toList s5.data.toList := ⟨_, rfl⟩
  rw [← hR]
  have HR := Lib.hid hR
  have hi5 : (5 : Int) ≤ (c : Int) := by omega
  obtain ⟨b1, hb1⟩ : ∃ b1, decide (s5.data.toList = yesB) = b1 := ⟨_, rfl⟩
  obtain ⟨b2, hb2⟩ : ∃ b2, decide (s5.data.toList = noB) = b2 := ⟨_, rfl⟩
  have t1 : (s5.toList == [121, 101, 115]) = b1 := by
    rw [← hb1, Lib.toList_data, Bool.eq_iff_iff, beq_iff_eq, decide_eq_true_eq]
    rfl
  have t2 : (s5.toList == [110, 111]) = b2 := by
    rw [← hb2, Lib.toList_data, Bool.eq_iff_iff, beq_iff_eq, decide_eq_true_eq]
    rfl
  have HB1 := Lib.hid hb1
  have HB2 := Lib.hid hb2
  clear hs h5 hE hA hR d5 hb1 hb2
  go_enter Tryz.func220, Tryz.ntmps220
  go_wp2_with fail
  refine HRN.out.mono ?_
  rintro e w1 (⟨l, A, hl, rfl, hsl, hb⟩ | ⟨hl, rfl, hb⟩)
  · obtain ⟨x0, x1, x2, x3, x4, rfl, hru⟩ := rule_nums (f := s5.data.toList) hl
    obtain ⟨g1, o1, rfl, c0⟩ := sl_at hsl (k := 0) rfl
    obtain ⟨_, _, e1, c1⟩ := sl_at hsl (k := 1) rfl
    cases e1
    obtain ⟨_, _, e2, c2⟩ := sl_at hsl (k := 2) rfl
    cases e2
    obtain ⟨_, _, e3, c3⟩ := sl_at hsl (k := 3) rfl
    cases e3
    obtain ⟨_, _, e4, c4⟩ := sl_at hsl (k := 4) rfl
    cases e4
    rw [Nat.add_zero] at c0
    have hgl := cell_lt c0
    have hrr : R = if b1 = true then some ⟨x0, x1, x2, x3, x4, true⟩ else if b2 = true then some ⟨x0, x1, x2, x3, x4, false⟩ else none := by
      rw [HR.out, hru, ← HB1.out, ← HB2.out]
      simp only [decide_eq_true_eq]
    have HRR := Lib.hid hrr
    have HB := Lib.hid (HA.out.trans (hb.mono HA.out.size))
    obtain ⟨u0, u1, u2, u3, u4, u5, z0, z1, z2, z3, z4, z5⟩ := HZ.out.below hb
    have d5 := ((bcell hb).1 _ _ (cell_lt HD5.out)).trans HD5.out
    have hwl : w.heap.size < w1.heap.size := cell_lt u0
    have hd5l := cell_lt d5
    clear hl hru hsl hb HRN hrr HR HB1 HB2
    cases b1 with
    | true =>
      obtain rfl : R = some ⟨x0, x1, x2, x3, x4, true⟩ := HRR.out
      go_wp2_with fail
      go_region
      go_wp2_with fail
      refine bodyPost_ret (v := .tuple #[RuleL.v ⟨x0, x1, x2, x3, x4, true⟩, .bool true]) (by simp [results, Tryz.results220, go_sem, u0, u1, u2, u3, u4, u5, z0, z1, z2, z3, z4, z5]) rfl ?_
      refine ⟨⟨x0, x1, x2, x3, x4, true⟩, rfl, rfl, ?_⟩
      have hBX := HB.out
      go_grown
    | false =>
      cases b2 with
      | true =>
        obtain rfl : R = some ⟨x0, x1, x2, x3, x4, false⟩ := HRR.out
        go_wp2_with fail
        go_region
        go_wp2_with fail
        refine bodyPost_ret (v := .tuple #[RuleL.v ⟨x0, x1, x2, x3, x4, false⟩, .bool true]) (by simp [results, Tryz.results220, go_sem, u0, u1, u2, u3, u4, u5, z0, z1, z2, z3, z4, z5]) rfl ?_
        refine ⟨⟨x0, x1, x2, x3, x4, false⟩, rfl, rfl, ?_⟩
        have hBX := HB.out
        go_grown
      | false =>
        obtain rfl : R = none := HRR.out
        go_wp2_with fail
        refine bodyPost_ret (v := .tuple #[RuleL.v rule0, .bool false]) (by simp [results, Tryz.results220, go_sem, u0, u1, u2, u3, u4, u5, z0, z1, z2, z3, z4, z5, rule0]) rfl ?_
        refine ⟨rule0, rfl, rfl, ?_⟩
        have hBX := HB.out
        go_grown
  · obtain rfl : R = none := HR.out.trans (rule_none hl)
    have HB := Lib.hid (HA.out.trans (hb.mono HA.out.size))
    obtain ⟨u0, u1, u2, u3, u4, u5, z0, z1, z2, z3, z4, z5⟩ := HZ.out.below hb
    have d5 := ((bcell hb).1 _ _ (cell_lt HD5.out)).trans HD5.out
    have hwl : w.heap.size < w1.heap.size := cell_lt u0
    have hd5l := cell_lt d5
    clear hl hb HRN HR HB1 HB2
    go_wp2_with fail
    refine bodyPost_ret (v := .tuple #[RuleL.v rule0, .bool false]) (by simp [results, Tryz.results220, go_sem, u0, u1, u2, u3, u4, u5, z0, z1, z2, z3, z4, z5, rule0]) rfl ?_
    refine ⟨rule0, rfl, rfl, ?_⟩
    have hBX := HB.out
    go_grown

set_option maxHeartbeats 1000000 in
theorem readRule_any (g o c n : Nat) (xs : List ByteArray) (w : World) (hE : Env w) (hs : SlS w (some ⟨g, o, none⟩) xs) (hn : xs.length = n) (hc : n ≤ c) :
    Calls Tryz.prog 220 #[.slice (some ⟨g, o, none⟩) n c] w (RuleTo (ruleW (xs.map fun s => s.data.toList)) w) := by
  by_cases h6 : n = 6
  · subst h6
    match xs, hn with
    | [s0, s1, s2, s3, s4, s5], _ => exact readRule_six g o c s0 s1 s2 s3 s4 s5 w hE hs hc
  · have hf : ((n : Int) == 6) = false := by simp; omega
    have hf2 : ¬ (n : Int) = 6 := by omega
    have e : ruleW (xs.map fun s => s.data.toList) = none := ruleW_len (by rw [List.length_map]; omega)
    rw [e]
    have hA : Below w.heap.size w (w.alloc (.cells #[.int .i64 0, .int .i64 0, .int .i64 0, .int .i64 0, .int .i64 0, .bool false] 51)) := (Below.refl _ _).alloc (Nat.le_refl _) _
    have HA := Lib.hid hA
    obtain ⟨u0, u1, u2, u3, u4, u5, z0, z1, z2, z3, z4, z5⟩ := Zero6.made w
    clear hs hE e hA hn h6
    go_enter Tryz.func220, Tryz.ntmps220
    go_wp2_with fail
    refine bodyPost_ret (v := .tuple #[RuleL.v rule0, .bool false]) (by simp [results, Tryz.results220, go_sem, u0, u1, u2, u3, u4, u5, z0, z1, z2, z3, z4, z5, rule0]) rfl ?_
    refine ⟨rule0, rfl, rfl, ?_⟩
    have hBX := HA.out
    go_grown
end Go.Proofs.YtepenlciaanoeaaGreatDoor
namespace Go.Proofs.YtepenlciaanoeaaGreatDoor
open Go.RowKit Go.Sort

/-- the cells of an operation that says nothing, that may be written -/
structure Zero12 (b : Nat) (w : World) : Prop where
  c0 : w.cell? ⟨b, 0, none⟩ = some (.int .i64 0)
  c1 : w.cell? ⟨b, 1, none⟩ = some (.int .i64 0)
  c2 : w.cell? ⟨b, 2, none⟩ = some (.int .i64 0)
  c3 : w.cell? ⟨b, 3, none⟩ = some (.int .i64 0)
  c4 : w.cell? ⟨b, 4, none⟩ = some (.slice none 0 0)
  c5 : w.cell? ⟨b, 5, none⟩ = some (.string ⟨#[]⟩)
  c6 : w.cell? ⟨b, 6, none⟩ = some (.int .i64 0)
  c7 : w.cell? ⟨b, 7, none⟩ = some (.slice none 0 0)
  c8 : w.cell? ⟨b, 8, none⟩ = some (.slice none 0 0)
  c9 : w.cell? ⟨b, 9, none⟩ = some (.string ⟨#[]⟩)
  c10 : w.cell? ⟨b, 10, none⟩ = some (.string ⟨#[]⟩)
  c11 : w.cell? ⟨b, 11, none⟩ = some (.string ⟨#[]⟩)
  f : ∀ k, w.frozen? ⟨b, k, none⟩ = false
theorem Zero12.below {b : Nat} {w w' : World} (h : Zero12 b w) (hb : Below w.heap.size w w') : Zero12 b w' := by
  obtain ⟨hc, hf⟩ := bcell hb
  have hl := cell_lt h.c0
  exact ⟨(hc _ _ hl).trans h.c0, (hc _ _ hl).trans h.c1, (hc _ _ hl).trans h.c2, (hc _ _ hl).trans h.c3, (hc _ _ hl).trans h.c4, (hc _ _ hl).trans h.c5, (hc _ _ hl).trans h.c6, (hc _ _ hl).trans h.c7, (hc _ _ hl).trans h.c8, (hc _ _ hl).trans h.c9, (hc _ _ hl).trans h.c10, (hc _ _ hl).trans h.c11, fun k => (hf _ _ hl).trans (h.f k)⟩
theorem Zero12.made (w : World) : Zero12 w.heap.size (w.alloc (.cells #[.int .i64 0, .int .i64 0, .int .i64 0, .int .i64 0, .slice none 0 0, .string ⟨#[]⟩, .int .i64 0, .slice none 0 0, .slice none 0 0, .string ⟨#[]⟩, .string ⟨#[]⟩, .string ⟨#[]⟩] 43)) := by constructor <;> simp [go_sem]

/-- its lists lie from block B on -/
def OpP.from_ (P : OpP) (B : Nat) : Prop := ∀ b off, (P.ra = some ⟨b, off, none⟩ ∨ P.p.fa = some ⟨b, off, none⟩ ∨ P.p.ra = some ⟨b, off, none⟩) → B ≤ b
theorem OpP.none_from (B : Nat) : (⟨none, 0, At.none⟩ : OpP).from_ B := fun b off h => by rcases h with h | h | h <;> cases h
/-- what a call answers that reads words -/
def OpTo (R : Option OpL) (w : World) (e : Ending) (w' : World) : Prop :=
  ∃ (q : OpL) (P : OpP), e = .returned (.tuple #[q.v P, .bool R.isSome]) ∧ (∀ o, R = some o → q = o ∧ q.in_ P w') ∧ Below w.heap.size w w' ∧ P.from_ w.heap.size
/-- what the words behind 'put' say -/
noncomputable def putW : List (List UInt8) → Option OpL
  | [a, b, c, t] =>
    match whoOf a b c, recOf t with
    | some x, some q => some (opPut x q)
    | _, _ => none
  | _ => none
theorem putW_len {ws : List (List UInt8)} (h : ws.length ≠ 4) : putW ws = none := by
  unfold putW
  split
  · exact absurd rfl h
  · rfl
theorem putW_some {a b c t : List UInt8} {o : OpL} (h : putW [a, b, c, t] = some o) : o = opPut ((whoOf a b c).getD who0) (rdRec t) ∧ (rdRec t).Ok := by
  have h2 : (match whoOf a b c, recOf t with
    | some x, some q => some (opPut x q)
    | _, _ => none) = some o := h
  cases hx : whoOf a b c with
  | none =>
    rw [hx] at h2
    cases h2
  | some x =>
    cases hq : recOf t with
    | none =>
      rw [hx, hq] at h2
      cases h2
    | some q =>
      rw [hx, hq] at h2
      cases h2
      have e := (recOf_some hq).2
      unfold recOf at hq
      split at hq
      · cases hq
        exact ⟨rfl, (RecL.err_ok _).1 e⟩
      · cases hq
theorem putW_is (a b c t : List UInt8) : (putW [a, b, c, t]).isSome = ((whoOf a b c).isSome && decide (rdErr t = 0)) := by
  show (match whoOf a b c, recOf t with
    | some x, some q => some (opPut x q)
    | _, _ => none).isSome = _
  unfold recOf
  cases whoOf a b c with
  | none => rfl
  | some x =>
    by_cases h : rdErr t = 0
    · simp [h]
    · simp [h]
theorem opPut_in {x : WhoL} {r : RecL} {p : At} {w : World} (h : r.in_ p w) (hok : r.Ok) : (opPut x r).in_ ⟨none, 0, p⟩ w := ⟨fun k hk => absurd hk (Nat.not_lt_zero k), Nat.le_refl _, Nat.zero_le _, h, hok.short, ⟨Nat.zero_le _, Nat.zero_le _⟩⟩

theorem RecL.in_.far {r : RecL} {p : At} {w : World} {q : Addr} (h : r.in_ p w) (hne : ∀ b off, (p.fa = some ⟨b, off, none⟩ ∨ p.ra = some ⟨b, off, none⟩) → b ≠ q.block) (v : Value) : r.in_ p (w.setCell q v) :=
  ⟨h.hf.far (fun b off e => hne b off (.inl e)) v, h.hr.far (fun b off e => hne b off (.inr e)) v, h.fl, h.rl, h.fm, h.rm⟩

set_option maxHeartbeats 4000000 in
theorem readPut_four (g o c : Nat) (x y z t : ByteArray) (w : World) (hE : Env w) (hs : SlS w (some ⟨g, o, none⟩) [x, y, z, t]) (hc : 4 ≤ c) (ht : t.size < 4294967281) :
    Calls Tryz.prog 166 #[.slice (some ⟨g, o, none⟩) 4 c] w (OpTo (putW [x.data.toList, y.data.toList, z.data.toList, t.data.toList]) w) := by
  obtain ⟨_, _, e3, d3⟩ := hs 3 t rfl
  cases e3
  have hA : Below w.heap.size w (w.alloc (.cells #[.int .i64 0, .int .i64 0, .int .i64 0, .int .i64 0, .slice none 0 0, .string ⟨#[]⟩, .int .i64 0, .slice none 0 0, .slice none 0 0, .string ⟨#[]⟩, .string ⟨#[]⟩, .string ⟨#[]⟩] 43)) := (Below.refl _ _).alloc (Nat.le_refl _) _
  have HRW := Lib.hid (readWho_any (some ⟨g, o, none⟩) x y z [t] 4 c (w.alloc (.cells #[.int .i64 0, .int .i64 0, .int .i64 0, .int .i64 0, .slice none 0 0, .string ⟨#[]⟩, .int .i64 0, .slice none 0 0, .slice none 0 0, .string ⟨#[]⟩, .string ⟨#[]⟩, .string ⟨#[]⟩] 43)) (hE.below hA) (hs.below hA) rfl hc)
  have HA := Lib.hid hA
  have HE := Lib.hid (hE.below hA)
  have HD3 := Lib.hid (((bcell hA).1 _ _ (cell_lt d3)).trans d3)
  have HZ := Lib.hid (Zero12.made w)
  obtain ⟨R, hR⟩ : ∃ R, R = putW [x.data.toList, y.data.toList, z.data.toList, t.data.toList] := ⟨_, rfl⟩
  obtain ⟨bw, hbw⟩ : ∃ bw, (whoOf x.data.toList y.data.toList z.data.toList).isSome = bw := ⟨_, rfl⟩
  obtain ⟨er, her⟩ : ∃ er, rdErr t.data.toList = er := ⟨_, rfl⟩
  obtain ⟨RR, hRR⟩ : ∃ RR, rdRec t.data.toList = RR := ⟨_, rfl⟩
  have his := putW_is x.data.toList y.data.toList z.data.toList t.data.toList
  rw [← hR, hbw, her] at his
  have HIS := Lib.hid his
  have HSOME := Lib.hid (show ∀ q, R = some q → q = opPut ((whoOf x.data.toList y.data.toList z.data.toList).getD who0) RR ∧ RR.Ok from fun q hq => hRR ▸ putW_some (hR.symm.trans hq))
  have HRD := Lib.hid (fun W (hW : Env W) => read_isN (R := RR) (er := er) t W hW ht hRR her)
  rw [hbw] at HRW
  rw [← hR]
  clear hs hE hA hR hbw her hRR his d3
  go_enter Tryz.func166, Tryz.ntmps166
  go_wp2_with fail
  refine HRW.out.mono ?_
  rintro e w1 ⟨⟨q, rfl, hq⟩, hb1⟩
  have HQ := Lib.hid hq
  obtain ⟨qr, qw, qt⟩ := q
  have HB1 := Lib.hid (HA.out.trans (hb1.mono HA.out.size))
  have HE1 := Lib.hid (HE.out.below hb1)
  have HZ1 := Lib.hid (HZ.out.below hb1)
  have HD := Lib.hid (((bcell hb1).1 _ _ (cell_lt HD3.out)).trans HD3.out)
  clear HD3 HZ HE hq hb1 HRW
  have d3 := HD.out
  have hdl := cell_lt d3
  have hA2 : Below w1.heap.size w1 (w1.alloc (.cells #[.int .i64 qr, .int .i64 qw, .int .i64 qt] 35)) := (Below.refl _ _).alloc (Nat.le_refl _) _
  have HA2 := Lib.hid hA2
  have hz1 : w1.heap.size < w1.heap.size + 1 := by omega
  clear hA2
  go_wp2_with fail
  refine (HRD.out _ (HE1.out.below HA2.out)).mono ?_
  rintro e w3 ⟨p', rfl, hi, hb3, hpf⟩
  have HB3 := Lib.hid (HA2.out.trans (hb3.mono HA2.out.size))
  obtain ⟨w4, hw4⟩ : ∃ w4, w3.alloc (.cells #[.string RR.id, .int .i64 RR.cats, .slice p'.fa RR.fs.length p'.fc, .slice p'.ra RR.rs.length p'.rc] 39) = w4 := ⟨_, rfl⟩
  have h34 : Below w3.heap.size w3 w4 := hw4 ▸ (Below.refl _ _).alloc (Nat.le_refl _) _
  have HB4 := Lib.hid (HB3.out.trans (h34.mono HB3.out.size))
  have hc3 := (bcell hb3).1
  have hc4 := (bcell h34).1
  have x0 : w4.cell? ⟨w1.heap.size, 0, none⟩ = some (.int .i64 qr) := by rw [hc4 _ _ (by have := hb3.size; simp at this; omega), hc3 _ _ (by simp)]; simp [go_sem]
  have x1 : w4.cell? ⟨w1.heap.size, 1, none⟩ = some (.int .i64 qw) := by rw [hc4 _ _ (by have := hb3.size; simp at this; omega), hc3 _ _ (by simp)]; simp [go_sem]
  have x2 : w4.cell? ⟨w1.heap.size, 2, none⟩ = some (.int .i64 qt) := by rw [hc4 _ _ (by have := hb3.size; simp at this; omega), hc3 _ _ (by simp)]; simp [go_sem]
  have r0 : w4.cell? ⟨w3.heap.size, 0, none⟩ = some (.string RR.id) := by rw [← hw4]; simp [go_sem]
  have r1 : w4.cell? ⟨w3.heap.size, 1, none⟩ = some (.int .i64 RR.cats) := by rw [← hw4]; simp [go_sem]
  have r2 : w4.cell? ⟨w3.heap.size, 2, none⟩ = some (.slice p'.fa RR.fs.length p'.fc) := by rw [← hw4]; simp [go_sem]
  have r3 : w4.cell? ⟨w3.heap.size, 3, none⟩ = some (.slice p'.ra RR.rs.length p'.rc) := by rw [← hw4]; simp [go_sem]
  obtain ⟨u0, u1, u2, u3, u4, u5, u6, u7, u8, u9, u10, u11, uf⟩ := HZ1.out.below HB4.out
  have v0 := uf 0
  have v1 := uf 1
  have v2 := uf 2
  have v3 := uf 3
  have v4 := uf 4
  have v5 := uf 5
  have v6 := uf 6
  have v7 := uf 7
  have v8 := uf 8
  have v9 := uf 9
  have v10 := uf 10
  have v11 := uf 11
  clear hc3 hc4
  have HPF := Lib.hid (show ∀ b off, (p'.fa = some ⟨b, off, none⟩ ∨ p'.ra = some ⟨b, off, none⟩) → w.heap.size < b from fun b off h => by
    have h1 := HB1.out.size
    rcases h with h | h
    · have := hpf.1 b off h
      simp at this
      omega
    · have := hpf.2 b off h
      simp at this
      omega)
  have HBX := Lib.hid (HB1.out.trans (HB4.out.mono HB1.out.size))
  have HI := Lib.hid (hi.below h34)
  have HW4 := Lib.hid hw4
  clear hpf h34 hi hb3 d3 hdl hz1 uf hw4
  by_cases h0 : er = 0
  · have h0t : (er == 0) = true := by simpa using h0
    have hr1 : R.isSome = bw := by rw [HIS.out, decide_eq_true h0]; simp
    have HR1 := Lib.hid hr1
    clear hr1
    cases bw with
    | true =>
      go_upto_region 5 with (fail)
      rw [HW4.out]
      go_wp2_with fail
      refine bodyPost_ret (v := .tuple #[(opPut ⟨qr, qw, qt⟩ RR).v ⟨none, 0, p'⟩, .bool true]) (by simp [results, Tryz.results166, go_sem, u0, u1, u2, u3, u4, u5, u6, u7, u8, u9, u10, u11, v0, v1, v2, v3, v4, v5, v6, v7, v8, v9, v10, v11, opPut, fld0]) rfl ?_
      have hBX := HBX.out
      refine ⟨opPut ⟨qr, qw, qt⟩ RR, ⟨none, 0, p'⟩, by rw [HR1.out], fun q hq => ?_, by go_grown, fun b off h => by
        rcases h with h | h | h
        · cases h
        · exact Nat.le_of_lt (HPF.out b off (.inl h))
        · exact Nat.le_of_lt (HPF.out b off (.inr h))⟩
      obtain ⟨rfl, hok⟩ := HSOME.out q hq
      refine ⟨by rw [HQ.out], opPut_in ?_ hok⟩
      repeat refine RecL.in_.far ?_ (fun b off h => Nat.ne_of_gt (HPF.out b off h)) _
      exact HI.out
    | false =>
      go_upto_region 5 with (fail)
      rw [HW4.out]
      go_wp2_with fail
      refine bodyPost_ret (v := .tuple #[(opPut ⟨qr, qw, qt⟩ RR).v ⟨none, 0, p'⟩, .bool false]) (by simp [results, Tryz.results166, go_sem, u0, u1, u2, u3, u4, u5, u6, u7, u8, u9, u10, u11, v0, v1, v2, v3, v4, v5, v6, v7, v8, v9, v10, v11, opPut, fld0]) rfl ?_
      have hBX := HBX.out
      refine ⟨opPut ⟨qr, qw, qt⟩ RR, ⟨none, 0, p'⟩, by rw [HR1.out], fun q hq => ?_, by go_grown, fun b off h => by
        rcases h with h | h | h
        · cases h
        · exact Nat.le_of_lt (HPF.out b off (.inl h))
        · exact Nat.le_of_lt (HPF.out b off (.inr h))⟩
      obtain ⟨rfl, hok⟩ := HSOME.out q hq
      refine ⟨by rw [HQ.out], opPut_in ?_ hok⟩
      repeat refine RecL.in_.far ?_ (fun b off h => Nat.ne_of_gt (HPF.out b off h)) _
      exact HI.out
  · have h0t : (er == 0) = false := by simpa using h0
    have hr1 : R.isSome = false := by rw [HIS.out, decide_eq_false h0]; simp
    have HR1 := Lib.hid hr1
    clear hr1
    cases bw with
    | true =>
      go_upto_region 5 with (fail)
      rw [HW4.out]
      go_wp2_with fail
      refine bodyPost_ret (v := .tuple #[(opPut ⟨qr, qw, qt⟩ RR).v ⟨none, 0, p'⟩, .bool false]) (by simp [results, Tryz.results166, go_sem, u0, u1, u2, u3, u4, u5, u6, u7, u8, u9, u10, u11, v0, v1, v2, v3, v4, v5, v6, v7, v8, v9, v10, v11, opPut, fld0]) rfl ?_
      have hBX := HBX.out
      refine ⟨opPut ⟨qr, qw, qt⟩ RR, ⟨none, 0, p'⟩, by rw [HR1.out], fun q hq => ?_, by go_grown, fun b off h => by
        rcases h with h | h | h
        · cases h
        · exact Nat.le_of_lt (HPF.out b off (.inl h))
        · exact Nat.le_of_lt (HPF.out b off (.inr h))⟩
      obtain ⟨rfl, hok⟩ := HSOME.out q hq
      refine ⟨by rw [HQ.out], opPut_in ?_ hok⟩
      repeat refine RecL.in_.far ?_ (fun b off h => Nat.ne_of_gt (HPF.out b off h)) _
      exact HI.out
    | false =>
      go_upto_region 5 with (fail)
      rw [HW4.out]
      go_wp2_with fail
      refine bodyPost_ret (v := .tuple #[(opPut ⟨qr, qw, qt⟩ RR).v ⟨none, 0, p'⟩, .bool false]) (by simp [results, Tryz.results166, go_sem, u0, u1, u2, u3, u4, u5, u6, u7, u8, u9, u10, u11, v0, v1, v2, v3, v4, v5, v6, v7, v8, v9, v10, v11, opPut, fld0]) rfl ?_
      have hBX := HBX.out
      refine ⟨opPut ⟨qr, qw, qt⟩ RR, ⟨none, 0, p'⟩, by rw [HR1.out], fun q hq => ?_, by go_grown, fun b off h => by
        rcases h with h | h | h
        · cases h
        · exact Nat.le_of_lt (HPF.out b off (.inl h))
        · exact Nat.le_of_lt (HPF.out b off (.inr h))⟩
      obtain ⟨rfl, hok⟩ := HSOME.out q hq
      refine ⟨by rw [HQ.out], opPut_in ?_ hok⟩
      repeat refine RecL.in_.far ?_ (fun b off h => Nat.ne_of_gt (HPF.out b off h)) _
      exact HI.out

theorem readPut_any (g o c n : Nat) (xs : List ByteArray) (w : World) (hE : Env w) (hs : SlS w (some ⟨g, o, none⟩) xs) (hn : xs.length = n) (hc : n ≤ c) (hx : ∀ x ∈ xs, x.size < 4294967281) :
    Calls Tryz.prog 166 #[.slice (some ⟨g, o, none⟩) n c] w (OpTo (putW (xs.map fun s => s.data.toList)) w) := by
  by_cases h4 : n = 4
  · subst h4
    match xs, hn with
    | [x, y, z, t], _ => exact readPut_four g o c x y z t w hE hs hc (hx t (by simp))
  · have hf : ((n : Int) == 4) = false := by simp; omega
    have hf2 : ¬ (n : Int) = 4 := by omega
    have e : putW (xs.map fun s => s.data.toList) = none := putW_len (by rw [List.length_map]; omega)
    rw [e]
    have hA : Below w.heap.size w (w.alloc (.cells #[.int .i64 0, .int .i64 0, .int .i64 0, .int .i64 0, .slice none 0 0, .string ⟨#[]⟩, .int .i64 0, .slice none 0 0, .slice none 0 0, .string ⟨#[]⟩, .string ⟨#[]⟩, .string ⟨#[]⟩] 43)) := (Below.refl _ _).alloc (Nat.le_refl _) _
    have HA := Lib.hid hA
    obtain ⟨u0, u1, u2, u3, u4, u5, u6, u7, u8, u9, u10, u11, uf⟩ := Zero12.made w
    have v0 := uf 0
    have v1 := uf 1
    have v2 := uf 2
    have v3 := uf 3
    have v4 := uf 4
    have v5 := uf 5
    have v6 := uf 6
    have v7 := uf 7
    have v8 := uf 8
    have v9 := uf 9
    have v10 := uf 10
    have v11 := uf 11
    clear hs hE e hA hn h4 uf hx
    go_enter Tryz.func166, Tryz.ntmps166
    go_wp2_with fail
    refine bodyPost_ret (v := .tuple #[OpL.zero.v ⟨none, 0, At.none⟩, .bool false]) (by simp [results, Tryz.results166, go_sem, u0, u1, u2, u3, u4, u5, u6, u7, u8, u9, u10, u11, v0, v1, v2, v3, v4, v5, v6, v7, v8, v9, v10, v11, OpL.zero, RecL.zero, At.none, fld0, who0]) rfl ?_
    have hBX := HA.out
    refine ⟨OpL.zero, ⟨none, 0, At.none⟩, rfl, fun q hq => (by cases hq), by go_grown, OpP.none_from _⟩
end Go.Proofs.YtepenlciaanoeaaGreatDoor
namespace Go.Proofs.YtepenlciaanoeaaGreatDoor
open Go.RowKit Go.Sort

/-- what the words behind 'cut' say -/
def cutW : List (List UInt8) → Option OpL
  | [a, b, c, i, k] =>
    match whoOf a b c, numL k with
    | some x, some q => some (opCut x (bs i) q)
    | _, _ => none
  | _ => none
theorem cutW_len {ws : List (List UInt8)} (h : ws.length ≠ 5) : cutW ws = none := by
  unfold cutW
  split
  · exact absurd rfl h
  · rfl
theorem cutW_some {a b c i k : List UInt8} {o : OpL} (h : cutW [a, b, c, i, k] = some o) : o = opCut ((whoOf a b c).getD who0) (bs i) ((numL k).getD 0) := by
  have h2 : (match whoOf a b c, numL k with
    | some x, some q => some (opCut x (bs i) q)
    | _, _ => none) = some o := h
  cases hx : whoOf a b c with
  | none =>
    rw [hx] at h2
    cases h2
  | some x =>
    cases hq : numL k with
    | none =>
      rw [hx, hq] at h2
      cases h2
    | some q =>
      rw [hx, hq] at h2
      cases h2
      rfl
theorem cutW_is (a b c i k : List UInt8) : (cutW [a, b, c, i, k]).isSome = ((whoOf a b c).isSome && (numL k).isSome) := by
  show (match whoOf a b c, numL k with
    | some x, some q => some (opCut x (bs i) q)
    | _, _ => none).isSome = _
  cases whoOf a b c with
  | none => rfl
  | some x => cases numL k <;> rfl
theorem opCut_in {x : WhoL} {i : ByteArray} {n : Int} (w : World) : (opCut x i n).in_ ⟨none, 0, At.none⟩ w := ⟨fun k hk => absurd hk (Nat.not_lt_zero k), Nat.le_refl _, Nat.zero_le _, ⟨SlF.nil _ _, SlS.nil _ _, Nat.le_refl _, Nat.le_refl _, Nat.zero_le _, Nat.zero_le _⟩, ⟨Nat.zero_le _, fun f h => (by cases h), fun s h => (by cases h)⟩, ⟨Nat.zero_le _, Nat.zero_le _⟩⟩

set_option maxHeartbeats 4000000 in
theorem readCut_five (g o c : Nat) (x y z i k : ByteArray) (w : World) (hE : Env w) (hs : SlS w (some ⟨g, o, none⟩) [x, y, z, i, k]) (hc : 5 ≤ c) :
    Calls Tryz.prog 167 #[.slice (some ⟨g, o, none⟩) 5 c] w (OpTo (cutW [x.data.toList, y.data.toList, z.data.toList, i.data.toList, k.data.toList]) w) := by
  obtain ⟨_, _, e3, d3⟩ := hs 3 i rfl
  cases e3
  obtain ⟨_, _, e4, d4⟩ := hs 4 k rfl
  cases e4
  have hA : Below w.heap.size w (w.alloc (.cells #[.int .i64 0, .int .i64 0, .int .i64 0, .int .i64 0, .slice none 0 0, .string ⟨#[]⟩, .int .i64 0, .slice none 0 0, .slice none 0 0, .string ⟨#[]⟩, .string ⟨#[]⟩, .string ⟨#[]⟩] 43)) := (Below.refl _ _).alloc (Nat.le_refl _) _
  have HRW := Lib.hid (readWho_any (some ⟨g, o, none⟩) x y z [i, k] 5 c (w.alloc (.cells #[.int .i64 0, .int .i64 0, .int .i64 0, .int .i64 0, .slice none 0 0, .string ⟨#[]⟩, .int .i64 0, .slice none 0 0, .slice none 0 0, .string ⟨#[]⟩, .string ⟨#[]⟩, .string ⟨#[]⟩] 43)) (hE.below hA) (hs.below hA) rfl hc)
  have HA := Lib.hid hA
  have HE := Lib.hid (hE.below hA)
  have HD3 := Lib.hid (((bcell hA).1 _ _ (cell_lt d3)).trans d3)
  have HD4 := Lib.hid (((bcell hA).1 _ _ (cell_lt d4)).trans d4)
  have HZ := Lib.hid (Zero12.made w)
  obtain ⟨R, hR⟩ : ∃ R, R = cutW [x.data.toList, y.data.toList, z.data.toList, i.data.toList, k.data.toList] := ⟨_, rfl⟩
  obtain ⟨bw, hbw⟩ : ∃ bw, (whoOf x.data.toList y.data.toList z.data.toList).isSome = bw := ⟨_, rfl⟩
  obtain ⟨M, hM⟩ : ∃ M, numL k.data.toList = M := ⟨_, rfl⟩
  have his := cutW_is x.data.toList y.data.toList z.data.toList i.data.toList k.data.toList
  rw [← hR, hbw, hM] at his
  have HIS := Lib.hid his
  have HSOME := Lib.hid (show ∀ q, R = some q → q = opCut ((whoOf x.data.toList y.data.toList z.data.toList).getD who0) i (M.getD 0) from fun q hq => by
    have := cutW_some (hR.symm.trans hq)
    rw [hM, bs_data] at this
    exact this)
  have HRD := Lib.hid (fun W (hW : Env W) => readNumber_is (n := M) k W hW hM)
  rw [hbw] at HRW
  rw [← hR]
  clear hs hE hA hR hbw hM his d3 d4
  go_enter Tryz.func167, Tryz.ntmps167
  go_wp2_with fail
  refine HRW.out.mono ?_
  rintro e w1 ⟨⟨q, rfl, hq⟩, hb1⟩
  have HQ := Lib.hid hq
  obtain ⟨qr, qw, qt⟩ := q
  have HB1 := Lib.hid (HA.out.trans (hb1.mono HA.out.size))
  have HE1 := Lib.hid (HE.out.below hb1)
  have HZ1 := Lib.hid (HZ.out.below hb1)
  have hE3 := ((bcell hb1).1 _ _ (cell_lt HD3.out)).trans HD3.out
  have hE4 := ((bcell hb1).1 _ _ (cell_lt HD4.out)).trans HD4.out
  have HF3 := Lib.hid hE3
  have hdl := cell_lt hE4
  clear HD3 HD4 HZ HE hq hb1 HRW hE3
  have hA2 : Below w1.heap.size w1 (w1.alloc (.cells #[.int .i64 qr, .int .i64 qw, .int .i64 qt] 35)) := (Below.refl _ _).alloc (Nat.le_refl _) _
  have HA2 := Lib.hid hA2
  clear hA2
  go_wp2_with fail
  refine (HRD.out _ (HE1.out.below HA2.out)).mono ?_
  rintro e w3 ⟨rfl, hb3⟩
  have HB3 := Lib.hid (HA2.out.trans (hb3.mono HA2.out.size))
  have HZ3 := Lib.hid (HZ1.out.below HB3.out)
  have hc3 := (bcell hb3).1
  have x0 : w3.cell? ⟨w1.heap.size, 0, none⟩ = some (.int .i64 qr) := by rw [hc3 _ _ (by simp)]; simp [go_sem]
  have x1 : w3.cell? ⟨w1.heap.size, 1, none⟩ = some (.int .i64 qw) := by rw [hc3 _ _ (by simp)]; simp [go_sem]
  have x2 : w3.cell? ⟨w1.heap.size, 2, none⟩ = some (.int .i64 qt) := by rw [hc3 _ _ (by simp)]; simp [go_sem]
  have hxl := cell_lt x0
  have d3 := ((bcell HB3.out).1 _ _ (cell_lt HF3.out)).trans HF3.out
  have hd3l := cell_lt d3
  obtain ⟨u0, u1, u2, u3, u4, u5, u6, u7, u8, u9, u10, u11, uf⟩ := HZ3.out
  have v0 := uf 0
  have v1 := uf 1
  have v2 := uf 2
  have v3 := uf 3
  have v4 := uf 4
  have v5 := uf 5
  have v6 := uf 6
  have v7 := uf 7
  have v8 := uf 8
  have v9 := uf 9
  have v10 := uf 10
  have v11 := uf 11
  have hul := cell_lt u0
  have HBX := Lib.hid (HB1.out.trans (HB3.out.mono HB1.out.size))
  obtain ⟨N, hN⟩ : ∃ N, M.getD 0 = N := ⟨_, rfl⟩
  obtain ⟨bm, hbm⟩ : ∃ bm, M.isSome = bm := ⟨_, rfl⟩
  rw [hN, hbm]
  have hr1 : R.isSome = (bw && bm) := by rw [HIS.out, hbm]
  have HR1 := Lib.hid hr1
  have HN := Lib.hid hN
  clear hb3 hc3 hE4 hdl uf hr1 hN hbm
  cases bw with
  | true =>
    cases bm with
    | true =>
      go_wp2_with fail
      go_region
      go_wp2_with fail
      refine bodyPost_ret (v := .tuple #[(opCut ⟨qr, qw, qt⟩ i N).v ⟨none, 0, At.none⟩, .bool true]) (by simp [results, Tryz.results167, go_sem, u0, u1, u2, u3, u4, u5, u6, u7, u8, u9, u10, u11, v0, v1, v2, v3, v4, v5, v6, v7, v8, v9, v10, v11, opCut, fld0, At.none]) rfl ?_
      have hBX := HBX.out
      refine ⟨opCut ⟨qr, qw, qt⟩ i N, ⟨none, 0, At.none⟩, by rw [HR1.out]; rfl, fun q hq => ?_, by go_grown, OpP.none_from _⟩
      obtain rfl := HSOME.out q hq
      refine ⟨by rw [HQ.out, HN.out], opCut_in _⟩
    | false =>
      go_wp2_with fail
      go_region
      go_wp2_with fail
      refine bodyPost_ret (v := .tuple #[(opCut ⟨qr, qw, qt⟩ i N).v ⟨none, 0, At.none⟩, .bool false]) (by simp [results, Tryz.results167, go_sem, u0, u1, u2, u3, u4, u5, u6, u7, u8, u9, u10, u11, v0, v1, v2, v3, v4, v5, v6, v7, v8, v9, v10, v11, opCut, fld0, At.none]) rfl ?_
      have hBX := HBX.out
      refine ⟨opCut ⟨qr, qw, qt⟩ i N, ⟨none, 0, At.none⟩, by rw [HR1.out]; rfl, fun q hq => ?_, by go_grown, OpP.none_from _⟩
      obtain rfl := HSOME.out q hq
      refine ⟨by rw [HQ.out, HN.out], opCut_in _⟩
  | false =>
    cases bm with
    | true =>
      go_wp2_with fail
      go_region
      go_wp2_with fail
      refine bodyPost_ret (v := .tuple #[(opCut ⟨qr, qw, qt⟩ i N).v ⟨none, 0, At.none⟩, .bool false]) (by simp [results, Tryz.results167, go_sem, u0, u1, u2, u3, u4, u5, u6, u7, u8, u9, u10, u11, v0, v1, v2, v3, v4, v5, v6, v7, v8, v9, v10, v11, opCut, fld0, At.none]) rfl ?_
      have hBX := HBX.out
      refine ⟨opCut ⟨qr, qw, qt⟩ i N, ⟨none, 0, At.none⟩, by rw [HR1.out]; rfl, fun q hq => ?_, by go_grown, OpP.none_from _⟩
      obtain rfl := HSOME.out q hq
      refine ⟨by rw [HQ.out, HN.out], opCut_in _⟩
    | false =>
      go_wp2_with fail
      go_region
      go_wp2_with fail
      refine bodyPost_ret (v := .tuple #[(opCut ⟨qr, qw, qt⟩ i N).v ⟨none, 0, At.none⟩, .bool false]) (by simp [results, Tryz.results167, go_sem, u0, u1, u2, u3, u4, u5, u6, u7, u8, u9, u10, u11, v0, v1, v2, v3, v4, v5, v6, v7, v8, v9, v10, v11, opCut, fld0, At.none]) rfl ?_
      have hBX := HBX.out
      refine ⟨opCut ⟨qr, qw, qt⟩ i N, ⟨none, 0, At.none⟩, by rw [HR1.out]; rfl, fun q hq => ?_, by go_grown, OpP.none_from _⟩
      obtain rfl := HSOME.out q hq
      refine ⟨by rw [HQ.out, HN.out], opCut_in _⟩

theorem readCut_any (g o c n : Nat) (xs : List ByteArray) (w : World) (hE : Env w) (hs : SlS w (some ⟨g, o, none⟩) xs) (hn : xs.length = n) (hc : n ≤ c) :
    Calls Tryz.prog 167 #[.slice (some ⟨g, o, none⟩) n c] w (OpTo (cutW (xs.map fun s => s.data.toList)) w) := by
  by_cases h5 : n = 5
  · subst h5
    match xs, hn with
    | [x, y, z, i, k], _ => exact readCut_five g o c x y z i k w hE hs hc
  · have hf : ((n : Int) == 5) = false := by simp; omega
    have hf2 : ¬ (n : Int) = 5 := by omega
    have e : cutW (xs.map fun s => s.data.toList) = none := cutW_len (by rw [List.length_map]; omega)
    rw [e]
    have hA : Below w.heap.size w (w.alloc (.cells #[.int .i64 0, .int .i64 0, .int .i64 0, .int .i64 0, .slice none 0 0, .string ⟨#[]⟩, .int .i64 0, .slice none 0 0, .slice none 0 0, .string ⟨#[]⟩, .string ⟨#[]⟩, .string ⟨#[]⟩] 43)) := (Below.refl _ _).alloc (Nat.le_refl _) _
    have HA := Lib.hid hA
    obtain ⟨u0, u1, u2, u3, u4, u5, u6, u7, u8, u9, u10, u11, uf⟩ := Zero12.made w
    have v0 := uf 0
    have v1 := uf 1
    have v2 := uf 2
    have v3 := uf 3
    have v4 := uf 4
    have v5 := uf 5
    have v6 := uf 6
    have v7 := uf 7
    have v8 := uf 8
    have v9 := uf 9
    have v10 := uf 10
    have v11 := uf 11
    clear hs hE e hA hn h5 uf
    go_enter Tryz.func167, Tryz.ntmps167
    go_wp2_with fail
    refine bodyPost_ret (v := .tuple #[OpL.zero.v ⟨none, 0, At.none⟩, .bool false]) (by simp [results, Tryz.results167, go_sem, u0, u1, u2, u3, u4, u5, u6, u7, u8, u9, u10, u11, v0, v1, v2, v3, v4, v5, v6, v7, v8, v9, v10, v11, OpL.zero, RecL.zero, At.none, fld0, who0]) rfl ?_
    have hBX := HA.out
    refine ⟨OpL.zero, ⟨none, 0, At.none⟩, rfl, fun q hq => (by cases hq), by go_grown, OpP.none_from _⟩
end Go.Proofs.YtepenlciaanoeaaGreatDoor
