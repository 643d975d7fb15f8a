/- The contract of wyref.Num: the number that a text of at most nine bytes is written for. -/
import Derived.Test.YtepenlciaanoeaaGreatDoorRRefDec
import Derived.Test.YtepenlciaanoeaaGreatDoorRRead
set_option linter.unusedVariables false
set_option linter.unusedSimpArgs false
set_option maxRecDepth 100000
namespace Go.Proofs.YtepenlciaanoeaaGreatDoor
open Go.RowKit Go.Sort

def dgs (l : List UInt8) : Prop := ∀ b ∈ l, 48 ≤ b.toNat ∧ b.toNat ≤ 57
def valL : Nat → List UInt8 → Nat
  | acc, [] => acc
  | acc, c :: r => valL (acc * 10 + (c.toNat - 48)) r
theorem valL_snoc (c : UInt8) : ∀ (l : List UInt8) (acc : Nat), valL acc (l ++ [c]) = valL acc l * 10 + (c.toNat - 48)
  | [], _ => rfl
  | _ :: r, acc => valL_snoc c r _
theorem parse_val : ∀ {l : List UInt8} {j acc : Nat}, dgs l → j + l.length ≤ 9 → acc < 10 ^ j → Lib.parseUint10 acc l = .ok (valL acc l) ∧ valL acc l < 10 ^ (j + l.length)
  | [], j, acc, _, _, ha => ⟨rfl, ha⟩
  | c :: r, j, acc, hd, hl, ha => by
    have hc := hd c (by simp)
    have h9 : 10 ^ j ≤ 10 ^ 9 := Nat.pow_le_pow_right (by omega) (by simp at hl; omega)
    have h9 : 10 ^ j ≤ 1000000000 := by simpa using h9
    have ih := parse_val (l := r) (j := j + 1) (acc := acc * 10 + (c.toNat - 48)) (fun b hb => hd b (List.mem_cons_of_mem _ hb)) (by simp at hl; omega) (by
      rw [Nat.pow_succ]
      omega)
    rw [Lib.parseUint10, if_pos hc, if_neg (by omega), if_neg (by omega)]
    have e : j + (c :: r).length = j + 1 + r.length := by simp; omega
    rw [e]
    exact ih
theorem valL_lt {l : List UInt8} (hd : dgs l) (hl : l.length ≤ 9) : valL 0 l < 1000000000 := by
  have h1 := (parse_val (j := 0) (acc := 0) hd (by omega) (by simp)).2
  have h2 : 10 ^ (0 + l.length) ≤ 10 ^ 9 := Nat.pow_le_pow_right (by omega) (by omega)
  have h2 : 10 ^ (0 + l.length) ≤ 1000000000 := by simpa using h2
  omega

/-- a text: a sign, or none, and the rest -/
structure Sgn (l t : List UInt8) (m : Bool) : Prop where
  eq : l = if m then 45 :: t else t
  hd : m = false → ∀ r, t ≠ 45 :: r
theorem sgn_cut (l : List UInt8) : Sgn l (Lib.trimPrefix l [45]) (Lib.hasPrefix l [45]) := by
  cases l with
  | nil => exact ⟨rfl, fun _ r h => by cases h⟩
  | cons c r =>
    by_cases hc : c = 45
    · subst hc
      refine ⟨?_, fun h => by cases h⟩
      unfold Lib.trimPrefix Lib.hasPrefix
      simp [List.isPrefixOf]
    · have e : Lib.hasPrefix (c :: r) [45] = false := by
        unfold Lib.hasPrefix
        simp [List.isPrefixOf]
        exact fun k => hc k.symm
      unfold Lib.trimPrefix
      rw [e]
      exact ⟨rfl, fun _ r' h => hc (List.cons.inj h).1⟩

theorem numL_long {l : List UInt8} (h : 9 < l.length) : numL l = none := by
  unfold numL
  rw [if_neg (by omega)]
theorem numL_bad {l t : List UInt8} {m : Bool} (h : Sgn l t m) (hb : ¬ dgs t) : numL l = none := by
  cases hn : numL l with
  | none => rfl
  | some n =>
    exfalso
    apply hb
    have h1 := (numL_some hn).1
    have h2 := h.eq
    intro b hbm
    unfold Lib.itoa at h1
    cases m with
    | true =>
      rw [if_pos rfl] at h2
      split at h1
      · rw [h2] at h1
        exact digits_bytes _ b ((List.cons.inj h1).2 ▸ hbm)
      · rw [h2] at h1
        have := digits_bytes n.toNat 45 (by rw [h1]; simp)
        exact absurd this.1 (by decide)
    | false =>
      rw [if_neg (by simp)] at h2
      split at h1
      · rw [h2] at h1
        exact absurd h1.symm (h.hd rfl _)
      · rw [h2] at h1
        exact digits_bytes _ b (h1 ▸ hbm)
/-- what the digits say -/
def sval (t : List UInt8) (m : Bool) : Int := if m then -(valL 0 t : Int) else valL 0 t
theorem numL_val {l t : List UInt8} {m : Bool} (h : Sgn l t m) (hd : dgs t) (hl : l.length ≤ 9) : numL l = if Lib.itoa (sval t m) = l then some (sval t m) else none := by
  have htl : t.length ≤ 9 := by
    rw [h.eq] at hl
    cases m <;> simp at hl <;> omega
  unfold numL
  rw [if_pos hl]
  cases t with
  | nil =>
    have e1 : Lib.atoiAll l = .syntax := by
      rw [h.eq]
      cases m <;> rfl
    have e2 : Lib.itoa (sval [] m) = [48] := by
      have : sval [] m = 0 := by cases m <;> rfl
      rw [this]
      unfold Lib.itoa
      rw [if_neg (by omega), Lib.decDigits_one (by decide)]
      rfl
    rw [e1, e2, if_neg]
    rw [h.eq]
    cases m <;> decide
  | cons c r =>
    have hc := hd c (by simp)
    have hv := valL_lt hd htl
    have hm : Lib.parseMag (c :: r) = .ok (valL 0 (c :: r)) := by
      unfold Lib.parseMag
      rw [if_neg (by simp)]
      exact (parse_val (j := 0) (acc := 0) hd (by omega) (by simp)).1
    have ha : Lib.atoiAll l = .ok (sval (c :: r) m) := by
      rw [h.eq]
      cases m with
      | true =>
        show (match Lib.parseMag (c :: r) with
          | .syntax => Lib.NumEnd.syntax
          | .range => .range
          | .ok u => if ¬ ((45 : UInt8).toNat = 45) ∧ 9223372036854775808 ≤ u then .range else if (45 : UInt8).toNat = 45 ∧ 9223372036854775808 < u then .range else .ok (if (45 : UInt8).toNat = 45 then -(u : Int) else u)) = _
        rw [hm]
        show (if ¬ ((45 : UInt8).toNat = 45) ∧ 9223372036854775808 ≤ valL 0 (c :: r) then Lib.NumEnd.range else if (45 : UInt8).toNat = 45 ∧ 9223372036854775808 < valL 0 (c :: r) then .range else .ok (if (45 : UInt8).toNat = 45 then -(valL 0 (c :: r) : Int) else valL 0 (c :: r))) = _
        rw [if_neg (fun k => k.1 rfl), if_neg (fun k => by have := k.2; omega)]
        rfl
      | false =>
        rw [if_neg (by simp)]
        rw [Lib.atoiAll_plain c r (by omega) (by omega), hm]
        show (if 9223372036854775808 ≤ valL 0 (c :: r) then Lib.NumEnd.range else .ok (valL 0 (c :: r) : Int)) = _
        rw [if_neg (by omega)]
        rfl
    rw [ha]

theorem numL_of {l : List UInt8} {v : Int} (h : numL l = if Lib.itoa v = l then some v else none) : (numL l).isSome = decide (Lib.itoa v = l) ∧ ∀ m, numL l = some m → v = m := by
  by_cases he : Lib.itoa v = l
  · rw [if_pos he] at h
    rw [h, decide_eq_true he]
    exact ⟨rfl, fun m hm => Option.some.inj hm⟩
  · rw [if_neg he] at h
    rw [h, decide_eq_false he]
    exact ⟨rfl, fun m hm => by cases hm⟩

theorem cutPrefix_any (s : ByteArray) (w : World) :
    Calls Tryz.prog 171 #[.string s, .string ⟨#[45]⟩] w fun e w' => e = .returned (.tuple #[.string (bs (Lib.trimPrefix s.data.toList [45])), .bool (Lib.hasPrefix s.data.toList [45])]) ∧ w' = w :=
  Any.strings_CutPrefix Tryz.lays103 s ⟨#[45]⟩ w

def NumTo (l : List UInt8) (w : World) (e : Ending) (w' : World) : Prop := (∃ n : Int, e = .returned (.tuple #[.int .i64 n, .bool (numL l).isSome]) ∧ ∀ m, numL l = some m → n = m) ∧ Below w.heap.size w w'

set_option maxHeartbeats 2000000 in
theorem refNum_any (s : ByteArray) (w : World) : Calls Tryz.prog 102 #[.string s] w (NumTo s.data.toList w) := by
  obtain ⟨t, ht⟩ : ∃ t, t = Lib.trimPrefix s.data.toList [45] := ⟨_, rfl⟩
  obtain ⟨m, hm⟩ : ∃ m, m = Lib.hasPrefix s.data.toList [45] := ⟨_, rfl⟩
  have hsg := sgn_cut s.data.toList
  rw [← ht, ← hm] at hsg
  have HSG := Lib.hid hsg
  have HCP := Lib.hid (cutPrefix_any s w)
  rw [← ht, ← hm] at HCP
  obtain ⟨c, W1, hconv, hcell, hb⟩ := conv_bytes (bs t) w
  have HC := Lib.hid hcell
  have hts : (bs t).size = t.length := bs_size t
  obtain ⟨L, hL⟩ : ∃ L, L = s.data.toList := ⟨_, rfl⟩
  have hLs : s.size = L.length := by rw [hL, ← size_len]
  have hLt : L.length = t.length ∨ L.length = t.length + 1 := by
    rw [hL, hsg.eq]
    cases m <;> simp
  rw [← hL] at HSG ⊢
  have HL := Lib.hid hL
  clear ht hm hsg hcell hL
  go_enter Tryz.func102, Tryz.ntmps102
  go_wp2_with fail
  refine HCP.out.mono ?_
  rintro e w1 ⟨rfl, hw1⟩
  rw [hw1]
  clear hw1 w1
  go_wp2_with fail
  go_loopw [17, 6] (fun i v wr => ∃ k : Nat, k ≤ t.length ∧ i = .int .i64 k ∧ v = .int .i64 (valL 0 (t.take k) : Nat) ∧ wr = W1 ∧ Hid (dgs (t.take k) ∧ (1 ≤ k → L.length ≤ 9))) (fun i _ _ => t.length - (intOf i).toNat)
  case atStart => exact ⟨0, Nat.zero_le _, rfl, rfl, rfl, ⟨fun b hb => absurd hb (by simp), fun h => by omega⟩⟩
  case round =>
    obtain ⟨k, hk, rfl, rfl, rfl, HK⟩ := hrel
    by_cases hlt : k < t.length
    · obtain ⟨b, hb'⟩ : ∃ b, t[k]? = some b := ⟨_, List.getElem?_eq_getElem hlt⟩
      have hcell := HC.out k b (by rw [data_bs]; exact hb')
      have HB := Lib.hid hb'
      have hgl := cell_lt hcell
      clear hb'
      by_cases hd : 48 ≤ b.toNat ∧ b.toNat ≤ 57
      · have i1 : ¬ (b.toNat : Int) < 48 := by omega
        have i2 : ¬ (57 : Int) < (b.toNat : Int) := by omega
        by_cases h9 : L.length ≤ 9
        · have i3 : ¬ (9 : Int) < (s.size : Int) := by omega
          have hv := valL_lt HK.out.1 (by rw [List.length_take]; omega)
          obtain ⟨n, hn⟩ : ∃ n, n = valL 0 (t.take k) := ⟨_, rfl⟩
          rw [← hn] at hv ⊢
          have HN := Lib.hid hn
          clear hn
          go_wp2_with fail
          refine ⟨⟨k + 1, by omega, by go_num, ?_, trivial, ?_⟩, by simp [intOf]; omega⟩
          · rw [List.take_add_one, HB.out]
            show Value.int .i64 (10 * (n : Int) + ((b.toNat : Int) - 48)) = .int .i64 ((valL 0 (t.take k ++ [b]) : Nat) : Int)
            rw [valL_snoc, ← HN.out]
            congr 1
            omega
          · refine ⟨fun x hx => ?_, fun _ => h9⟩
            rw [List.take_add_one, HB.out] at hx
            rcases List.mem_append.1 hx with hx | hx
            · exact HK.out.1 x hx
            · have e : x = b := by simpa using hx
              rw [e]
              exact hd
        · have i3 : (9 : Int) < (s.size : Int) := by omega
          go_wp2_with fail
          go_ret2
          refine ⟨⟨0, by rw [numL_long (by omega)]; rfl, fun m hm => by rw [numL_long (by omega)] at hm; cases hm⟩, hb⟩
      · have hno : numL L = none := numL_bad HSG.out fun k => hd (k b (List.mem_of_getElem? HB.out))
        have HNO := Lib.hid hno
        clear hno
        by_cases i1 : (b.toNat : Int) < 48
        · go_wp2_with fail
          go_ret2
          exact ⟨⟨0, by rw [HNO.out]; rfl, fun m hm => by rw [HNO.out] at hm; cases hm⟩, hb⟩
        · have i2 : (57 : Int) < (b.toNat : Int) := by omega
          go_wp2_with fail
          go_ret2
          exact ⟨⟨0, by rw [HNO.out]; rfl, fun m hm => by rw [HNO.out] at hm; cases hm⟩, hb⟩
    · obtain rfl : k = t.length := by omega
      rw [List.take_length] at HK ⊢
      obtain ⟨n, hn⟩ : ∃ n, n = valL 0 t := ⟨_, rfl⟩
      rw [← hn]
      have HN := Lib.hid hn
      have h9 : L.length ≤ 9 := by
        by_cases h : 1 ≤ t.length
        · exact HK.out.2 h
        · omega
      have hnl := valL_lt HK.out.1 (by omega)
      rw [← hn] at hnl
      have hnv := numL_val HSG.out HK.out.1 h9
      unfold sval at hnv
      rw [← hn] at hnv
      clear hn hconv HC HCP
      cases m with
      | true =>
        obtain ⟨v, hv⟩ : ∃ v : Int, v = -(n : Int) := ⟨_, rfl⟩
        have hnv : numL L = if Lib.itoa v = L then some v else none := by rw [hv]; exact hnv
        have HNV := Lib.hid (numL_of hnv)
        have hw := wrap64_small (n := -(n : Int)) (by omega) (by omega)
        obtain ⟨bb, hbb⟩ : ∃ bb, decide (Lib.itoa v = L) = bb := ⟨_, rfl⟩
        have hbe : ((bs (Lib.itoa v)).toList == s.toList) = bb := by rw [bs_eq, ← HL.out, hbb]
        have HBB := Lib.hid hbb
        rw [← hv] at hw
        have HD := Lib.hid (dec_is (n := v) wr (by omega) rfl)
        have hv2 := hv.symm
        have HV := Lib.hid hv
        clear hnv hbb hv
        go_wp2_with fail
        refine HD.out.mono ?_
        rintro e w2 ⟨rfl, rfl⟩
        go_wp2_with fail
        go_ret2
        exact ⟨⟨v, by rw [HNV.out.1, HBB.out]; rfl, HNV.out.2⟩, hb⟩
      | false =>
        have hnv : numL L = if Lib.itoa (n : Int) = L then some (n : Int) else none := hnv
        have HNV := Lib.hid (numL_of hnv)
        obtain ⟨bb, hbb⟩ : ∃ bb, decide (Lib.itoa (n : Int) = L) = bb := ⟨_, rfl⟩
        have hbe : ((bs (Lib.itoa (n : Int))).toList == s.toList) = bb := by rw [bs_eq, ← HL.out, hbb]
        have HBB := Lib.hid hbb
        have HD := Lib.hid (dec_is (n := (n : Int)) wr (by omega) rfl)
        clear hnv hbb
        go_wp2_with fail
        refine HD.out.mono ?_
        rintro e w2 ⟨rfl, rfl⟩
        go_wp2_with fail
        go_ret2
        exact ⟨⟨n, by rw [HNV.out.1, HBB.out]; rfl, HNV.out.2⟩, hb⟩
end Go.Proofs.YtepenlciaanoeaaGreatDoor
