/- Rules, who sees, lists of rules: plain mathematics, and slices that a call owns. -/
import Derived.Test.YtepenlciaanoeaaGreatDoorBase
import Derived.Deep.AppendLies
import Derived.Laws.AppendOwnNone
set_option linter.unusedVariables false
set_option linter.unusedSimpArgs false
set_option maxRecDepth 100000
namespace Go.Proofs.YtepenlciaanoeaaGreatDoor
open Go.RowKit

/-- A rule. -/
structure RuleL where
  role : Int
  why : Int
  frm : Int
  til : Int
  cats : Int
  allow : Bool

/-- its value -/
abbrev RuleL.v (r : RuleL) : Value := .agg #[.int .i64 r.role, .int .i64 r.why, .int .i64 r.frm, .int .i64 r.til, .int .i64 r.cats, .bool r.allow]

def RuleL.argOk (r : RuleL) : Prop := (-1 ≤ r.role ∧ r.role ≤ 7) ∧ (-1 ≤ r.why ∧ r.why ≤ 3) ∧ 0 ≤ r.frm ∧ r.til ≤ 1000 ∧ (0 ≤ r.cats ∧ r.cats ≤ 255)

instance (r : RuleL) : Decidable r.argOk := by unfold RuleL.argOk; exact inferInstance

def RuleL.ok (r : RuleL) : Prop := r.argOk ∧ r.frm < r.til

instance (r : RuleL) : Decidable r.ok := by unfold RuleL.ok; exact inferInstance

/-- what a rule's check answers -/
def RuleL.err (r : RuleL) : Int := if r.argOk then (if r.frm < r.til then 0 else 3) else 1

theorem RuleL.err_ok {r : RuleL} (h : r.ok) : r.err = 0 := by unfold RuleL.err; rw [if_pos h.1, if_pos h.2]

theorem RuleL.err_form {r : RuleL} (h : r.argOk) (h2 : ¬ r.frm < r.til) : r.err = 3 := by unfold RuleL.err; rw [if_pos h, if_neg h2]

theorem RuleL.err_arg {r : RuleL} (h : ¬ r.argOk) : r.err = 1 := by unfold RuleL.err; rw [if_neg h]

theorem RuleL.err_ne {r : RuleL} (h : ¬ r.ok) : r.err = 1 ∨ r.err = 3 := by
  unfold RuleL.err
  by_cases h1 : r.argOk
  · rw [if_pos h1, if_neg (fun h2 => h ⟨h1, h2⟩)]
    exact .inr rfl
  · rw [if_neg h1]
    exact .inl rfl

/-- Who asks. -/
structure WhoL where
  role : Int
  why : Int
  time : Int

abbrev WhoL.v (x : WhoL) : Value := .agg #[.int .i64 x.role, .int .i64 x.why, .int .i64 x.time]

def WhoL.ok (x : WhoL) : Prop := (0 ≤ x.role ∧ x.role ≤ 7) ∧ (0 ≤ x.why ∧ x.why ≤ 3) ∧ (0 ≤ x.time ∧ x.time ≤ 999)

instance (x : WhoL) : Decidable x.ok := by unfold WhoL.ok; exact inferInstance

/-- the six cells of a rule -/
def RuleAt (w : World) (b o : Nat) (r : RuleL) : Prop :=
  w.cell? ⟨b, o, none⟩ = some (.int .i64 r.role) ∧ w.cell? ⟨b, o + 1, none⟩ = some (.int .i64 r.why) ∧ w.cell? ⟨b, o + 2, none⟩ = some (.int .i64 r.frm) ∧
  w.cell? ⟨b, o + 3, none⟩ = some (.int .i64 r.til) ∧ w.cell? ⟨b, o + 4, none⟩ = some (.int .i64 r.cats) ∧ w.cell? ⟨b, o + 5, none⟩ = some (.bool r.allow)

theorem RuleAt.below {w w' : World} {b o : Nat} {r : RuleL} (h : RuleAt w b o r) (hb : Below w.heap.size w w') : RuleAt w' b o r := by
  have hlt := cell_lt h.1
  exact ⟨(hb.cell (p := ⟨b, _, none⟩) hlt).trans h.1, (hb.cell (p := ⟨b, _, none⟩) hlt).trans h.2.1, (hb.cell (p := ⟨b, _, none⟩) hlt).trans h.2.2.1, (hb.cell (p := ⟨b, _, none⟩) hlt).trans h.2.2.2.1, (hb.cell (p := ⟨b, _, none⟩) hlt).trans h.2.2.2.2.1, (hb.cell (p := ⟨b, _, none⟩) hlt).trans h.2.2.2.2.2⟩

/-- a slice's cells: its first n elements are the rules rs 0, rs 1, .. -/
def SlR (w : World) (a : Option Addr) (n : Nat) (rs : Nat → RuleL) : Prop :=
  ∀ k, k < n → ∃ b off, a = some ⟨b, off, none⟩ ∧ RuleAt w b (off + k * 6) (rs k)

theorem SlR.below {w w' : World} {a : Option Addr} {n : Nat} {rs : Nat → RuleL} (h : SlR w a n rs) (hb : Below w.heap.size w w') : SlR w' a n rs := fun k hk => by
  obtain ⟨b, off, rfl, hc⟩ := h k hk
  exact ⟨b, off, rfl, hc.below hb⟩

/-- the first error among the first k rules; 0, if there is none -/
def errN (rs : Nat → RuleL) : Nat → Int
  | 0 => 0
  | k + 1 => if errN rs k = 0 then (rs k).err else errN rs k

/-- what the rules' check answers -/
def rulesErr (n : Nat) (rs : Nat → RuleL) : Int := if 20 < n then 2 else errN rs n

theorem errN_ok {rs : Nat → RuleL} : ∀ {k : Nat}, (∀ j, j < k → (rs j).ok) → errN rs k = 0
  | 0, _ => rfl
  | k + 1, h => by
    unfold errN
    rw [if_pos (errN_ok fun j hj => h j (by omega)), RuleL.err_ok (h k (by omega))]

theorem errN_bad {rs : Nat → RuleL} {j : Nat} (hok : ∀ k, k < j → (rs k).ok) (hbad : ¬ (rs j).ok) : ∀ {k : Nat}, j < k → errN rs k = (rs j).err
  | 0, h => by omega
  | k + 1, h => by
    unfold errN
    by_cases e : j = k
    · subst e
      rw [if_pos (errN_ok hok)]
    · have ih := errN_bad hok hbad (k := k) (by omega)
      have hne : errN rs k ≠ 0 := by
        rw [ih]
        rcases RuleL.err_ne hbad with h1 | h1 <;> rw [h1] <;> decide
      rw [if_neg hne, ih]

theorem rules_split (rs : Nat → RuleL) : ∀ n : Nat, (∀ k, k < n → (rs k).ok) ∨ ∃ j, j < n ∧ (∀ k, k < j → (rs k).ok) ∧ ¬ (rs j).ok
  | 0 => .inl fun k hk => absurd hk (Nat.not_lt_zero k)
  | n + 1 => by
    rcases rules_split rs n with h | ⟨j, h1, h2, h3⟩
    · by_cases hn : (rs n).ok
      · refine .inl fun k hk => ?_
        by_cases e : k = n
        · subst e
          exact hn
        · exact h k (by omega)
      · exact .inr ⟨n, by omega, h, hn⟩
    · exact .inr ⟨j, by omega, h2, h3⟩

/-- the three cells of who asks -/
structure WhoAt (w : World) (B : Nat) (x : WhoL) : Prop where
  c0 : w.cell? ⟨B, 0, none⟩ = some (.int .i64 x.role)
  c1 : w.cell? ⟨B, 1, none⟩ = some (.int .i64 x.why)
  c2 : w.cell? ⟨B, 2, none⟩ = some (.int .i64 x.time)

theorem WhoAt.below {w w' : World} {B : Nat} {x : WhoL} (h : WhoAt w B x) (hb : Below w.heap.size w w') : WhoAt w' B x := by
  have hlt := cell_lt h.c0
  exact ⟨(hb.cell (p := ⟨B, _, none⟩) hlt).trans h.c0, (hb.cell (p := ⟨B, _, none⟩) hlt).trans h.c1, (hb.cell (p := ⟨B, _, none⟩) hlt).trans h.c2⟩

/-! ### what who asks sees, as plain mathematics -/
/-- is kind i among these kinds? -/
def RuleL.kind (r : RuleL) (i : Nat) : Bool := r.cats.toNat.testBit i

/-- has who asks the role that the rule is for? -/
def forRole (m : Nat) (u : Nat → Nat) (x : WhoL) (r : RuleL) : Bool := decide (r.role = -1) || (decide (r.role < m) && (allU u x.role.toNat).testBit r.role.toNat)

def forWhy (x : WhoL) (r : RuleL) : Bool := decide (r.why = -1) || decide (r.why = x.why)

def forTime (x : WhoL) (r : RuleL) : Bool := decide (r.frm ≤ x.time ∧ x.time ≤ r.til - 1)

/-- does the rule speak of who asks, and of kind i? -/
def speaks (m : Nat) (u : Nat → Nat) (x : WhoL) (i : Nat) (r : RuleL) : Bool := r.kind i && forRole m u x r && forWhy x r && forTime x r

/-- does one of the first k rules allow, deny? -/
def yesN (m : Nat) (u : Nat → Nat) (x : WhoL) (i : Nat) (rs : Nat → RuleL) : Nat → Bool
  | 0 => false
  | k + 1 => yesN m u x i rs k || (speaks m u x i (rs k) && (rs k).allow)

def noN (m : Nat) (u : Nat → Nat) (x : WhoL) (i : Nat) (rs : Nat → RuleL) : Nat → Bool
  | 0 => false
  | k + 1 => noN m u x i rs k || (speaks m u x i (rs k) && !(rs k).allow)

/-- the kinds below k that are seen -/
def seenN (m : Nat) (u : Nat → Nat) (x : WhoL) (n : Nat) (rs : Nat → RuleL) : Nat → Nat
  | 0 => 0
  | k + 1 => seenN m u x n rs k + (if yesN m u x k rs n && !noN m u x k rs n then 2 ^ k else 0)

/-- all that is seen -/
def seen (m : Nat) (u : Nat → Nat) (x : WhoL) (n : Nat) (rs : Nat → RuleL) : Nat := seenN m u x n rs 8

theorem seenN_lt (m : Nat) (u : Nat → Nat) (x : WhoL) (n : Nat) (rs : Nat → RuleL) : ∀ k, seenN m u x n rs k < 2 ^ k
  | 0 => by simp [seenN]
  | k + 1 => by
    have ih := seenN_lt m u x n rs k
    unfold seenN
    rw [Nat.pow_succ]
    split <;> omega

theorem seen_lt (m : Nat) (u : Nat → Nat) (x : WhoL) (n : Nat) (rs : Nat → RuleL) : seen m u x n rs < 256 := seenN_lt m u x n rs 8

theorem seenN_bit (m : Nat) (u : Nat → Nat) (x : WhoL) (n : Nat) (rs : Nat → RuleL) (i : Nat) : ∀ k, (seenN m u x n rs k).testBit i = (decide (i < k) && (yesN m u x i rs n && !noN m u x i rs n))
  | 0 => by simp [seenN]
  | k + 1 => by
    have ih := seenN_bit m u x n rs i k
    have hlt := seenN_lt m u x n rs k
    unfold seenN
    by_cases e : i = k
    · subst e
      have h0 : (seenN m u x n rs i).testBit i = false := Nat.testBit_lt_two_pow hlt
      cases hb : (yesN m u x i rs n && !noN m u x i rs n)
      · simp [h0]
      · rw [if_pos rfl, Nat.add_comm, Nat.testBit_two_pow_add_eq, h0]
        simp
    · have hd : decide (i < k + 1) = decide (i < k) := by
        rw [Bool.eq_iff_iff, decide_eq_true_iff, decide_eq_true_iff]
        omega
      rw [hd, ← ih]
      split
      · by_cases hik : i < k
        · rw [Nat.add_comm, Nat.testBit_two_pow_add_gt hik]
        · rw [Nat.testBit_lt_two_pow (Nat.lt_of_lt_of_le hlt (Nat.pow_le_pow_right (n := 2) (by omega) (by omega)))]
          rw [Nat.testBit_lt_two_pow]
          refine Nat.lt_of_lt_of_le ?_ (Nat.pow_le_pow_right (n := 2) (by omega) (show k + 1 ≤ i by omega))
          rw [Nat.pow_succ]
          omega
      · rw [Nat.add_zero]

theorem seen_bit (m : Nat) (u : Nat → Nat) (x : WhoL) (n : Nat) (rs : Nat → RuleL) (i : Nat) : (seen m u x n rs).testBit i = (decide (i < 8) && (yesN m u x i rs n && !noN m u x i rs n)) := seenN_bit m u x n rs i 8

theorem kind_tmod (r : RuleL) (i : Nat) (h : 0 ≤ r.cats) : (r.cats / 2 ^ i).tmod 2 = if r.kind i = true then 1 else 0 := by
  obtain ⟨c, hc⟩ := Int.eq_ofNat_of_zero_le h
  unfold RuleL.kind
  rw [hc]
  have hp : (0 : Int) < 2 ^ i := Int.pow_pos (by decide)
  rw [Int.tmod_eq_emod_of_nonneg (Int.ediv_nonneg (Int.natCast_nonneg _) (Int.le_of_lt hp))]
  have e : ((c : Int) / 2 ^ i) % 2 = ((c / 2 ^ i % 2 : Nat) : Int) := by simp
  rw [e, Int.toNat_natCast, Nat.testBit_eq_decide_div_mod_eq]
  rcases Nat.mod_two_eq_zero_or_one (c / 2 ^ i) with h1 | h1 <;> simp [h1]

theorem speaks_of {m : Nat} {u : Nat → Nat} {x : WhoL} {i : Nat} {r : RuleL} {a b c d : Bool} (h1 : r.kind i = a) (h2 : forRole m u x r = b) (h3 : forWhy x r = c) (h4 : forTime x r = d) : speaks m u x i r = (a && b && c && d) := by
  unfold speaks
  rw [h1, h2, h3, h4]

theorem errN_cases {rs : Nat → RuleL} : ∀ k, errN rs k = 0 ∨ errN rs k = 1 ∨ errN rs k = 3
  | 0 => .inl rfl
  | k + 1 => by
    unfold errN
    split
    · by_cases h : (rs k).ok
      · exact .inl (RuleL.err_ok h)
      · exact .inr (RuleL.err_ne h)
    · exact errN_cases k

theorem rulesErr_cases (n : Nat) (rs : Nat → RuleL) : rulesErr n rs = 0 ∨ rulesErr n rs = 1 ∨ rulesErr n rs = 2 ∨ rulesErr n rs = 3 := by
  unfold rulesErr
  split
  · exact .inr (.inr (.inl rfl))
  · rcases errN_cases (rs := rs) n with h | h | h
    · exact .inl h
    · exact .inr (.inl h)
    · exact .inr (.inr (.inr h))

theorem errN_zero {rs : Nat → RuleL} {n : Nat} (h : errN rs n = 0) : ∀ k, k < n → (rs k).ok := by
  rcases rules_split rs n with h1 | ⟨j, h1, h2, h3⟩
  · exact h1
  · rw [errN_bad h2 h3 h1] at h
    rcases RuleL.err_ne h3 with h4 | h4 <;> rw [h4] at h <;> cases h

theorem rulesErr_zero {n : Nat} {rs : Nat → RuleL} (h : rulesErr n rs = 0) : n ≤ 20 ∧ ∀ k, k < n → (rs k).ok := by
  unfold rulesErr at h
  split at h
  · cases h
  · exact ⟨by omega, errN_zero h⟩


/-! ### lists of cells -/
/-- the cells of who asks, of a rule -/
def WhoL.cells (x : WhoL) : List Value := [.int .i64 x.role, .int .i64 x.why, .int .i64 x.time]
def RuleL.cells (r : RuleL) : List Value := [.int .i64 r.role, .int .i64 r.why, .int .i64 r.frm, .int .i64 r.til, .int .i64 r.cats, .bool r.allow]
/-- n elements' cells, one behind the other -/
def flat (f : Nat → List Value) (n : Nat) : List Value := (List.range n).flatMap f
theorem flat_succ (f : Nat → List Value) (n : Nat) : flat f (n + 1) = flat f n ++ f n := by simp [flat, List.range_succ]
theorem flat_len {f : Nat → List Value} {s : Nat} (hs : ∀ k, (f k).length = s) : ∀ n, (flat f n).length = n * s
  | 0 => by simp [flat]
  | n + 1 => by rw [flat_succ, List.length_append, flat_len hs n, hs n, Nat.succ_mul]
theorem flat_get {f : Nat → List Value} {s : Nat} (hs : ∀ k, (f k).length = s) : ∀ {n k j : Nat}, k < n → j < s → (flat f n)[k * s + j]? = (f k)[j]?
  | 0, k, j, hk, _ => by omega
  | n + 1, k, j, hk, hj => by
    rw [flat_succ]
    have hl := flat_len hs n
    by_cases e : k = n
    · subst e
      rw [List.getElem?_append_right (by omega), hl, Nat.add_sub_cancel_left]
    · have h1 : k * s + s ≤ n * s := by
        have := Nat.mul_le_mul_right s (show k + 1 ≤ n by omega)
        rw [Nat.succ_mul] at this
        exact this
      rw [List.getElem?_append_left (by omega)]
      exact flat_get hs (by omega) hj
theorem flat_mem {f : Nat → List Value} {p : Value → Prop} (h : ∀ k, ∀ u ∈ f k, p u) (n : Nat) : ∀ u ∈ flat f n, p u := by
  intro u hu
  obtain ⟨k, _, hk⟩ := List.mem_flatMap.1 hu
  exact h k u hk
theorem flat_of_get {f : Nat → List Value} {s : Nat} (hs : ∀ k, (f k).length = s) {n j : Nat} {u : Value} (h : (flat f n)[j]? = some u) : ∃ k i, k < n ∧ i < s ∧ j = k * s + i ∧ (f k)[i]? = some u := by
  have hj := (List.getElem?_eq_some_iff.1 h).1
  rw [flat_len hs] at hj
  rcases Nat.eq_zero_or_pos s with h0 | h0
  · subst h0
    simp at hj
  · have h1 := Nat.div_add_mod j s
    have h2 := Nat.mod_lt j h0
    have h3 : j / s < n := (Nat.div_lt_iff_lt_mul h0).2 hj
    have e : j = j / s * s + j % s := by rw [Nat.mul_comm]; exact h1.symm
    refine ⟨j / s, j % s, h3, h2, e, ?_⟩
    rw [e, flat_get hs h3 h2] at h
    exact h
theorem RuleL.cells_len (rs : Nat → RuleL) (k : Nat) : ((rs k).cells).length = 6 := rfl
/-- n rules' cells -/
def cellsR (rs : Nat → RuleL) (n : Nat) : List Value := flat (fun k => (rs k).cells) n
/-- the first n of rs, then those of q -/
def joinR (n : Nat) (rs q : Nat → RuleL) (k : Nat) : RuleL := if k < n then rs k else q (k - n)
theorem cellsR_join (n : Nat) (rs q : Nat → RuleL) : ∀ m, cellsR (joinR n rs q) (n + m) = cellsR rs n ++ cellsR q m
  | 0 => by
    have : ∀ k, k ≤ n → cellsR (joinR n rs q) k = cellsR rs k := by
      intro k
      induction k with
      | zero => intro _; rfl
      | succ k ih =>
        intro hk
        show flat _ (k + 1) = flat _ (k + 1)
        rw [flat_succ, flat_succ]
        have e1 := ih (by omega)
        unfold cellsR at e1
        rw [e1]
        have e2 : joinR n rs q k = rs k := if_pos (by omega)
        simp only [e2]
    rw [Nat.add_zero, this n (Nat.le_refl _)]
    simp [cellsR, flat]
  | m + 1 => by
    have ih := cellsR_join n rs q m
    show flat _ (n + m + 1) = _
    rw [flat_succ]
    unfold cellsR at ih ⊢
    rw [ih, flat_succ, List.append_assoc]
    have e2 : joinR n rs q (n + m) = q m := by
      unfold joinR
      rw [if_neg (by omega), Nat.add_sub_cancel_left]
    simp only [e2]
theorem cellsR_one (rs : Nat → RuleL) (n : Nat) : ∀ u ∈ cellsR rs n, u.oneCell' = true :=
  flat_mem (fun k u hu => by
    simp only [RuleL.cells, List.mem_cons, List.not_mem_nil, or_false] at hu
    rcases hu with rfl | rfl | rfl | rfl | rfl | rfl <;> rfl) n
theorem SlR.cells {w : World} {b off n : Nat} {rs : Nat → RuleL} (h : SlR w (some ⟨b, off, none⟩) n rs) : ∀ j u, (cellsR rs n)[j]? = some u → w.cell? ((⟨b, off, none⟩ : Addr).add j) = some u := by
  intro j u hj
  obtain ⟨k, i, hk, hi, rfl, hu⟩ := flat_of_get (RuleL.cells_len rs) hj
  obtain ⟨b', off', e, h0, h1, h2, h3, h4, h5⟩ := h k hk
  cases e
  have hadd : ∀ j, (⟨b, off, none⟩ : Addr).add j = ⟨b, off + j, none⟩ := fun j => by unfold Addr.add; split <;> simp_all
  rw [hadd, ← Nat.add_assoc]
  match i, hi, hu with
  | 0, _, hu => rw [← hu]; exact h0
  | 1, _, hu => rw [← hu]; exact h1
  | 2, _, hu => rw [← hu]; exact h2
  | 3, _, hu => rw [← hu]; exact h3
  | 4, _, hu => rw [← hu]; exact h4
  | 5, _, hu => rw [← hu]; exact h5
theorem slr_of_cells {w : World} {b n : Nat} {rs : Nat → RuleL} (h : ∀ j u, (cellsR rs n)[j]? = some u → w.cell? ⟨b, j, none⟩ = some u) : SlR w (some ⟨b, 0, none⟩) n rs := by
  intro k hk
  have g : ∀ i, i < 6 → (cellsR rs n)[k * 6 + i]? = (rs k).cells[i]? := fun i hi => flat_get (RuleL.cells_len rs) hk hi
  refine ⟨b, 0, rfl, ?_, ?_, ?_, ?_, ?_, ?_⟩ <;> rw [Nat.zero_add]
  · exact h _ _ (g 0 (by omega))
  · exact h _ _ (g 1 (by omega))
  · exact h _ _ (g 2 (by omega))
  · exact h _ _ (g 3 (by omega))
  · exact h _ _ (g 4 (by omega))
  · exact h _ _ (g 5 (by omega))

/-! ### all of it, whatever is handed in -/
/-- the first error among the first k roles -/
def rolesN (z : Nat → Int) : Nat → Int
  | 0 => 0
  | k + 1 => if rolesN z k = 0 then (if 0 ≤ z k ∧ z k < 2 ^ k then 0 else 1) else rolesN z k
/-- what the roles' check answers -/
def rolesErr (n : Nat) (z : Nat → Int) : Int := if 8 < n then 2 else rolesN z n
theorem rolesN_cases (z : Nat → Int) : ∀ k, rolesN z k = 0 ∨ rolesN z k = 1
  | 0 => .inl rfl
  | k + 1 => by
    unfold rolesN
    split
    · split
      · exact .inl rfl
      · exact .inr rfl
    · exact rolesN_cases z k
theorem rolesErr_cases (n : Nat) (z : Nat → Int) : rolesErr n z = 0 ∨ rolesErr n z = 1 ∨ rolesErr n z = 2 := by
  unfold rolesErr
  split
  · exact .inr (.inr rfl)
  · rcases rolesN_cases z n with h | h
    · exact .inl h
    · exact .inr (.inl h)
theorem rolesN_ok {z : Nat → Int} : ∀ {n : Nat}, (∀ k, k < n → 0 ≤ z k ∧ z k < 2 ^ k) → rolesN z n = 0
  | 0, _ => rfl
  | n + 1, h => by
    unfold rolesN
    rw [if_pos (rolesN_ok fun k hk => h k (by omega)), if_pos (h n (by omega))]
theorem rolesN_bad {z : Nat → Int} {j : Nat} (hz : ∀ k, k < j → 0 ≤ z k ∧ z k < 2 ^ k) (hbad : ¬ (0 ≤ z j ∧ z j < 2 ^ j)) : ∀ {n : Nat}, j < n → rolesN z n = 1
  | 0, h => by omega
  | n + 1, h => by
    unfold rolesN
    by_cases e : j = n
    · subst e
      rw [if_pos (rolesN_ok hz), if_neg hbad]
    · rw [rolesN_bad hz hbad (n := n) (by omega), if_neg (by decide)]
theorem roles_split (z : Nat → Int) : ∀ n : Nat, (∀ k, k < n → 0 ≤ z k ∧ z k < 2 ^ k) ∨ ∃ j, j < n ∧ (∀ k, k < j → 0 ≤ z k ∧ z k < 2 ^ k) ∧ ¬ (0 ≤ z j ∧ z j < 2 ^ j)
  | 0 => .inl fun k hk => absurd hk (Nat.not_lt_zero k)
  | n + 1 => by
    rcases roles_split z n with h | ⟨j, h1, h2, h3⟩
    · by_cases hn : 0 ≤ z n ∧ z n < 2 ^ n
      · refine .inl fun k hk => ?_
        by_cases e : k = n
        · subst e
          exact hn
        · exact h k (by omega)
      · exact .inr ⟨n, by omega, h, hn⟩
    · exact .inr ⟨j, by omega, h2, h3⟩
theorem rolesErr_zero {n : Nat} {z : Nat → Int} (h : rolesErr n z = 0) : n ≤ 8 ∧ ∀ k, k < n → 0 ≤ z k ∧ z k < 2 ^ k := by
  unfold rolesErr at h
  split at h
  · cases h
  · refine ⟨by omega, ?_⟩
    rcases roles_split z n with h1 | ⟨j, h1, h2, h3⟩
    · exact h1
    · rw [rolesN_bad h2 h3 h1] at h
      cases h
theorem rolesErr_ok {n : Nat} {z : Nat → Int} (h8 : n ≤ 8) (h : ∀ k, k < n → 0 ≤ z k ∧ z k < 2 ^ k) : rolesErr n z = 0 := by
  unfold rolesErr
  rw [if_neg (by omega), rolesN_ok h]
/-- roles as numbers from 0 on -/
def nats (z : Nat → Int) (k : Nat) : Nat := (z k).toNat
theorem slv_of {w : World} {a : Option Addr} {n : Nat} {z : Nat → Int} (hs : Sl w a n z) (h : rolesErr n z = 0) : SlV w a n (nats z) := by
  obtain ⟨h8, hz⟩ := rolesErr_zero h
  refine ⟨fun k hk => ?_, h8, fun k hk => ?_⟩
  · obtain ⟨b, off, h1, h2⟩ := hs k hk
    refine ⟨b, off, h1, ?_⟩
    have := (hz k hk).1
    show _ = some (Value.int .i64 ((z k).toNat : Int))
    rw [Int.toNat_of_nonneg this]
    exact h2
  · have h1 := hz k hk
    have e : (2 : Int) ^ k = ((2 ^ k : Nat) : Int) := by simp
    show (z k).toNat < 2 ^ k
    generalize 2 ^ k = p at *
    omega

/-- what is wrong with what is asked, each thing for itself -/
def askE (m : Nat) (z : Nat → Int) (n : Nat) (rs : Nat → RuleL) (x : WhoL) : Int :=
  if rolesErr m z ≠ 0 then rolesErr m z else if rulesErr n rs ≠ 0 then rulesErr n rs else if x.ok then 0 else 1
/-- the error of 'Sees' -/
def seesE (m : Nat) (z : Nat → Int) (n : Nat) (rs : Nat → RuleL) (x : WhoL) : Int :=
  if askE m z n rs x ≠ 0 then askE m z n rs x else if (m : Int) ≤ x.role then 4 else 0
/-- its kinds -/
def seesV (m : Nat) (z : Nat → Int) (n : Nat) (rs : Nat → RuleL) (x : WhoL) : Nat :=
  if seesE m z n rs x = 0 then seen m (nats z) x n rs else 0
def mayE (m : Nat) (z : Nat → Int) (n : Nat) (rs : Nat → RuleL) (x : WhoL) (cats : Int) : Int :=
  if seesE m z n rs x ≠ 0 then seesE m z n rs x else if 0 ≤ cats ∧ cats ≤ 255 then 0 else 1
def mayV (m : Nat) (z : Nat → Int) (n : Nat) (rs : Nat → RuleL) (x : WhoL) (cats : Int) : Bool :=
  decide (mayE m z n rs x cats = 0) && decide (sub cats.toNat (seesV m z n rs x) = 0)

section
variable {m : Nat} {z : Nat → Int} {n : Nat} {rs : Nat → RuleL} {x : WhoL}
theorem askE_roles (h : rolesErr m z ≠ 0) : askE m z n rs x = rolesErr m z := if_pos h
theorem askE_rules (h : rolesErr m z = 0) (h2 : rulesErr n rs ≠ 0) : askE m z n rs x = rulesErr n rs := by unfold askE; rw [if_neg (by simp [h]), if_pos h2]
theorem askE_who (h : rolesErr m z = 0) (h2 : rulesErr n rs = 0) (h3 : ¬ x.ok) : askE m z n rs x = 1 := by unfold askE; rw [if_neg (by simp [h]), if_neg (by simp [h2]), if_neg h3]
theorem askE_ok (h : rolesErr m z = 0) (h2 : rulesErr n rs = 0) (h3 : x.ok) : askE m z n rs x = 0 := by unfold askE; rw [if_neg (by simp [h]), if_neg (by simp [h2]), if_pos h3]
theorem askE_cases : askE m z n rs x = 0 ∨ askE m z n rs x = 1 ∨ askE m z n rs x = 2 ∨ askE m z n rs x = 3 := by
  unfold askE
  have h1 := rolesErr_cases m z
  have h2 := rulesErr_cases n rs
  split
  · omega
  · split
    · omega
    · split <;> omega
theorem askE_zero (h : askE m z n rs x = 0) : rolesErr m z = 0 ∧ rulesErr n rs = 0 ∧ x.ok := by
  unfold askE at h
  split at h
  · rename_i h1
    exact absurd h h1
  · rename_i h1
    split at h
    · rename_i h2
      exact absurd h h2
    · rename_i h2
      split at h
      · rename_i h3
        exact ⟨by simpa using h1, by simpa using h2, h3⟩
      · cases h
theorem seesE_ask (h : askE m z n rs x ≠ 0) : seesE m z n rs x = askE m z n rs x := if_pos h
theorem seesE_none (h : askE m z n rs x = 0) (h2 : (m : Int) ≤ x.role) : seesE m z n rs x = 4 := by unfold seesE; rw [if_neg (by simp [h]), if_pos h2]
theorem seesE_ok (h : askE m z n rs x = 0) (h2 : x.role < (m : Int)) : seesE m z n rs x = 0 := by unfold seesE; rw [if_neg (by simp [h]), if_neg (by omega)]
theorem seesE_cases : seesE m z n rs x = 0 ∨ seesE m z n rs x = 1 ∨ seesE m z n rs x = 2 ∨ seesE m z n rs x = 3 ∨ seesE m z n rs x = 4 := by
  unfold seesE
  have h1 := askE_cases (m := m) (z := z) (n := n) (rs := rs) (x := x)
  split
  · omega
  · split <;> omega
theorem seesE_zero (h : seesE m z n rs x = 0) : askE m z n rs x = 0 ∧ x.role < (m : Int) := by
  unfold seesE at h
  split at h
  · rename_i h1
    exact absurd h h1
  · rename_i h1
    split at h
    · cases h
    · exact ⟨by simpa using h1, by omega⟩
theorem seesV_ok (h : seesE m z n rs x = 0) : seesV m z n rs x = seen m (nats z) x n rs := if_pos h
theorem seesV_err (h : seesE m z n rs x ≠ 0) : seesV m z n rs x = 0 := if_neg h
theorem seesV_lt : seesV m z n rs x < 256 := by
  unfold seesV
  split
  · exact seen_lt _ _ _ _ _
  · omega
end
end Go.Proofs.YtepenlciaanoeaaGreatDoor
namespace Go.Proofs.YtepenlciaanoeaaGreatDoor
open Go.RowKit

/-- is a rule for who asks, who has these roles? -/
def isForB (M : Nat) (x : WhoL) (r : RuleL) : Bool := (decide (r.role < 0) || M.testBit r.role.toNat) && (decide (r.why < 0) || decide (r.why = x.why)) && decide (r.frm ≤ x.time) && decide (x.time < r.til)
/-- what the first k rules allow, deny -/
def alwN (M : Nat) (x : WhoL) (rs : Nat → RuleL) : Nat → Nat
  | 0 => 0
  | k + 1 => if isForB M x (rs k) && (rs k).allow then alwN M x rs k ||| (rs k).cats.toNat else alwN M x rs k
def denN (M : Nat) (x : WhoL) (rs : Nat → RuleL) : Nat → Nat
  | 0 => 0
  | k + 1 => if isForB M x (rs k) && !(rs k).allow then denN M x rs k ||| (rs k).cats.toNat else denN M x rs k

theorem cats_lt {r : RuleL} (h : r.ok) : r.cats.toNat < 256 := by
  obtain ⟨⟨_, _, _, _, h1⟩, _⟩ := h
  omega
theorem alwN_lt {M : Nat} {x : WhoL} {rs : Nat → RuleL} : ∀ {k : Nat}, (∀ j, j < k → (rs j).ok) → alwN M x rs k < 256
  | 0, _ => by simp [alwN]
  | k + 1, h => by
    have ih := alwN_lt (M := M) (x := x) (k := k) fun j hj => h j (by omega)
    unfold alwN
    split
    · exact Nat.or_lt_two_pow (n := 8) ih (cats_lt (h k (by omega)))
    · exact ih
theorem denN_lt {M : Nat} {x : WhoL} {rs : Nat → RuleL} : ∀ {k : Nat}, (∀ j, j < k → (rs j).ok) → denN M x rs k < 256
  | 0, _ => by simp [denN]
  | k + 1, h => by
    have ih := denN_lt (M := M) (x := x) (k := k) fun j hj => h j (by omega)
    unfold denN
    split
    · exact Nat.or_lt_two_pow (n := 8) ih (cats_lt (h k (by omega)))
    · exact ih

theorem allU_small {n : Nat} {u : Nat → Nat} (hv : Valid n u) {i : Nat} (hi : i < n) : allU u i < 2 ^ n := by
  apply Nat.lt_pow_two_of_testBit
  intro j hj
  cases hb : (allU u i).testBit j
  · rfl
  · have := Reach.le hv ((allU_spec hv hi j).1 hb) hi
    omega

theorem isForB_eq {m : Nat} {u : Nat → Nat} (hv : Valid m u) {x : WhoL} (hx : x.role.toNat < m) {r : RuleL} (hr : r.ok) (i : Nat) : speaks m u x i r = (r.kind i && isForB (allU u x.role.toNat) x r) := by
  obtain ⟨⟨h1, h2, _⟩, _⟩ := hr
  have e1 : forRole m u x r = (decide (r.role < 0) || (allU u x.role.toNat).testBit r.role.toNat) := by
    unfold forRole
    by_cases h : r.role = -1
    · rw [decide_eq_true h, decide_eq_true (show r.role < 0 by omega)]
      rfl
    · rw [decide_eq_false h, decide_eq_false (show ¬ r.role < 0 by omega), Bool.false_or, Bool.false_or]
      by_cases h3 : r.role < m
      · rw [decide_eq_true h3, Bool.true_and]
      · rw [decide_eq_false h3, Bool.false_and]
        refine (Nat.testBit_lt_two_pow (Nat.lt_of_lt_of_le (allU_small hv hx) (Nat.pow_le_pow_right (n := 2) (by omega) (by omega)))).symm
  have e2 : forWhy x r = (decide (r.why < 0) || decide (r.why = x.why)) := by
    unfold forWhy
    have : decide (r.why = -1) = decide (r.why < 0) := by
      rw [Bool.eq_iff_iff, decide_eq_true_iff, decide_eq_true_iff]
      omega
    rw [this]
  have e3 : forTime x r = (decide (r.frm ≤ x.time) && decide (x.time < r.til)) := by
    unfold forTime
    rw [Bool.eq_iff_iff, decide_eq_true_iff, Bool.and_eq_true, decide_eq_true_iff, decide_eq_true_iff]
    omega
  unfold speaks isForB
  rw [e1, e2, e3]
  simp [Bool.and_assoc]

theorem alwN_bit {m : Nat} {u : Nat → Nat} (hv : Valid m u) {x : WhoL} (hx : x.role.toNat < m) {rs : Nat → RuleL} (i : Nat) : ∀ {k : Nat}, (∀ j, j < k → (rs j).ok) → (alwN (allU u x.role.toNat) x rs k).testBit i = yesN m u x i rs k
  | 0, _ => by simp [alwN, yesN]
  | k + 1, h => by
    have ih := alwN_bit hv hx i (rs := rs) (k := k) fun j hj => h j (by omega)
    unfold alwN yesN
    rw [isForB_eq hv hx (h k (by omega)) i, ← ih]
    cases h1 : isForB (allU u x.role.toNat) x (rs k)
    · simp
    · cases h2 : (rs k).allow
      · simp
      · simp [RuleL.kind]
theorem denN_bit {m : Nat} {u : Nat → Nat} (hv : Valid m u) {x : WhoL} (hx : x.role.toNat < m) {rs : Nat → RuleL} (i : Nat) : ∀ {k : Nat}, (∀ j, j < k → (rs j).ok) → (denN (allU u x.role.toNat) x rs k).testBit i = noN m u x i rs k
  | 0, _ => by simp [denN, noN]
  | k + 1, h => by
    have ih := denN_bit hv hx i (rs := rs) (k := k) fun j hj => h j (by omega)
    unfold denN noN
    rw [isForB_eq hv hx (h k (by omega)) i, ← ih]
    cases h1 : isForB (allU u x.role.toNat) x (rs k)
    · simp
    · cases h2 : (rs k).allow
      · simp [RuleL.kind]
      · simp

theorem sub_bit {a b : Nat} (ha : a < 256) (hb : b < 256) (i : Nat) : (sub a b).testBit i = (a.testBit i && !b.testBit i) := by
  unfold sub
  rw [Nat.testBit_and, show 18446744073709551615 - b = 2 ^ 64 - (b + 1) by omega, Nat.testBit_two_pow_sub_succ (show b < 2 ^ 64 by omega)]
  cases h : a.testBit i
  · rfl
  · have : i < 64 := by
      rcases Nat.lt_or_ge i 64 with h1 | h1
      · exact h1
      · rw [Nat.testBit_lt_two_pow (Nat.lt_of_lt_of_le ha (Nat.pow_le_pow_right (n := 2) (show 0 < 2 by omega) (show 8 ≤ i by omega)))] at h
        cases h
    simp [this]

theorem seen_masks {m : Nat} {u : Nat → Nat} (hv : Valid m u) {x : WhoL} (hx : x.role.toNat < m) {n : Nat} {rs : Nat → RuleL} (hok : ∀ k, k < n → (rs k).ok) :
    sub (alwN (allU u x.role.toNat) x rs n) (denN (allU u x.role.toNat) x rs n) = seen m u x n rs := by
  have h1 := alwN_lt (M := allU u x.role.toNat) (x := x) hok
  have h2 := denN_lt (M := allU u x.role.toNat) (x := x) hok
  apply Nat.eq_of_testBit_eq
  intro i
  rw [sub_bit h1 h2, seen_bit, alwN_bit hv hx i hok, denN_bit hv hx i hok]
  by_cases h8 : i < 8
  · rw [decide_eq_true h8, Bool.true_and]
  · rw [decide_eq_false h8, Bool.false_and]
    have : yesN m u x i rs n = false := by
      rw [← alwN_bit hv hx i hok]
      exact Nat.testBit_lt_two_pow (Nat.lt_of_lt_of_le h1 (Nat.pow_le_pow_right (n := 2) (by omega) (show 8 ≤ i by omega)))
    rw [this, Bool.false_and]
end Go.Proofs.YtepenlciaanoeaaGreatDoor
namespace Go.Proofs.YtepenlciaanoeaaGreatDoor
open Go.RowKit

theorem rulesErr_ok {n : Nat} {rs : Nat → RuleL} (h : n ≤ 20) (hok : ∀ k, k < n → (rs k).ok) : rulesErr n rs = 0 := by
  unfold rulesErr
  rw [if_neg (by omega), errN_ok hok]
/-- what it takes that nothing is wrong -/
theorem seesE_parts {m : Nat} {z : Nat → Int} {n : Nat} {rs : Nat → RuleL} {x : WhoL} (h : seesE m z n rs x = 0) : rolesErr m z = 0 ∧ n ≤ 20 ∧ (∀ k, k < n → (rs k).ok) ∧ x.ok ∧ x.role < (m : Int) := by
  obtain ⟨h1, h2⟩ := seesE_zero h
  obtain ⟨h3, h4, h5⟩ := askE_zero h1
  obtain ⟨h6, h7⟩ := rulesErr_zero h4
  exact ⟨h3, h6, h7, h5, h2⟩
theorem seesE_of {m : Nat} {z : Nat → Int} {n : Nat} {rs : Nat → RuleL} {x : WhoL} (h1 : rolesErr m z = 0) (h2 : n ≤ 20) (h3 : ∀ k, k < n → (rs k).ok) (h4 : x.ok) (h5 : x.role < (m : Int)) : seesE m z n rs x = 0 :=
  seesE_ok (askE_ok h1 (rulesErr_ok h2 h3) h4) h5
theorem joinR_ok {n k : Nat} {rs q : Nat → RuleL} (h : ∀ j, j < n → (rs j).ok) (hq : ∀ j, j < k → (q j).ok) : ∀ j, j < n + k → (joinR n rs q j).ok := by
  intro j hj
  unfold joinR
  split
  · rename_i h1
    exact h j h1
  · exact hq _ (by omega)
theorem seesE_join {m : Nat} {z : Nat → Int} {n k : Nat} {rs q : Nat → RuleL} {x : WhoL} (h : seesE m z n rs x = 0) (hk : n + k ≤ 20) (hq : ∀ j, j < k → (q j).ok) : seesE m z (n + k) (joinR n rs q) x = 0 := by
  obtain ⟨h1, _, h3, h4, h5⟩ := seesE_parts h
  exact seesE_of h1 hk (joinR_ok h3 hq) h4 h5

theorem yesN_congr {m : Nat} {u : Nat → Nat} {x : WhoL} {i : Nat} {rs q : Nat → RuleL} : ∀ {n : Nat}, (∀ k, k < n → rs k = q k) → yesN m u x i rs n = yesN m u x i q n
  | 0, _ => rfl
  | n + 1, h => by
    unfold yesN
    rw [yesN_congr fun k hk => h k (by omega), h n (by omega)]
theorem noN_congr {m : Nat} {u : Nat → Nat} {x : WhoL} {i : Nat} {rs q : Nat → RuleL} : ∀ {n : Nat}, (∀ k, k < n → rs k = q k) → noN m u x i rs n = noN m u x i q n
  | 0, _ => rfl
  | n + 1, h => by
    unfold noN
    rw [noN_congr fun k hk => h k (by omega), h n (by omega)]
theorem yesN_join {m : Nat} {u : Nat → Nat} {x : WhoL} {i n : Nat} {rs q : Nat → RuleL} : ∀ k, yesN m u x i (joinR n rs q) (n + k) = (yesN m u x i rs n || yesN m u x i q k)
  | 0 => by
    rw [Nat.add_zero, yesN_congr (rs := joinR n rs q) (q := rs) fun k hk => (if_pos hk : joinR n rs q k = rs k)]
    simp [yesN]
  | k + 1 => by
    have ih := yesN_join (m := m) (u := u) (x := x) (i := i) (n := n) (rs := rs) (q := q) k
    have e : joinR n rs q (n + k) = q k := by
      unfold joinR
      rw [if_neg (by omega), Nat.add_sub_cancel_left]
    show yesN m u x i (joinR n rs q) (n + k + 1) = _
    rw [yesN, ih, e, yesN, Bool.or_assoc]
theorem noN_join {m : Nat} {u : Nat → Nat} {x : WhoL} {i n : Nat} {rs q : Nat → RuleL} : ∀ k, noN m u x i (joinR n rs q) (n + k) = (noN m u x i rs n || noN m u x i q k)
  | 0 => by
    rw [Nat.add_zero, noN_congr (rs := joinR n rs q) (q := rs) fun k hk => (if_pos hk : joinR n rs q k = rs k)]
    simp [noN]
  | k + 1 => by
    have ih := noN_join (m := m) (u := u) (x := x) (i := i) (n := n) (rs := rs) (q := q) k
    have e : joinR n rs q (n + k) = q k := by
      unfold joinR
      rw [if_neg (by omega), Nat.add_sub_cancel_left]
    show noN m u x i (joinR n rs q) (n + k + 1) = _
    rw [noN, ih, e, noN, Bool.or_assoc]
theorem seen_congr {m : Nat} {u : Nat → Nat} {x x' : WhoL} {n n' : Nat} {rs rs' : Nat → RuleL} (h : ∀ i, i < 8 → yesN m u x i rs n = yesN m u x' i rs' n') (h2 : ∀ i, i < 8 → noN m u x i rs n = noN m u x' i rs' n') : seen m u x n rs = seen m u x' n' rs' := by
  apply Nat.eq_of_testBit_eq
  intro i
  rw [seen_bit, seen_bit]
  by_cases h8 : i < 8
  · rw [h i h8, h2 i h8]
  · rw [decide_eq_false h8, Bool.false_and, Bool.false_and]
theorem yes_one {m : Nat} {u : Nat → Nat} {x : WhoL} {i : Nat} {r : RuleL} : yesN m u x i (fun _ => r) 1 = (speaks m u x i r && r.allow) := by simp [yesN]
theorem no_one {m : Nat} {u : Nat → Nat} {x : WhoL} {i : Nat} {r : RuleL} : noN m u x i (fun _ => r) 1 = (speaks m u x i r && !r.allow) := by simp [noN]
def twoR (r q : RuleL) : Nat → RuleL
  | 0 => r
  | _ => q
theorem yes_two {m : Nat} {u : Nat → Nat} {x : WhoL} {i : Nat} {r q : RuleL} : yesN m u x i (twoR r q) 2 = ((speaks m u x i r && r.allow) || (speaks m u x i q && q.allow)) := by simp [yesN, twoR]
theorem no_two {m : Nat} {u : Nat → Nat} {x : WhoL} {i : Nat} {r q : RuleL} : noN m u x i (twoR r q) 2 = ((speaks m u x i r && !r.allow) || (speaks m u x i q && !q.allow)) := by simp [noN, twoR]
theorem twoR_ok {r q : RuleL} (h : r.ok) (h2 : q.ok) : ∀ j, j < 2 → (twoR r q j).ok
  | 0, _ => h
  | 1, _ => h2

/-- a rule that speaks of nobody makes no difference -/
theorem seesV_idle {m : Nat} {z : Nat → Int} {n : Nat} {rs : Nat → RuleL} {x : WhoL} {r : RuleL} (h : seesE m z n rs x = 0) (hn : n + 1 ≤ 20) (hr : r.ok) (hs : ∀ i, speaks m (nats z) x i r = false) : seesV m z (n + 1) (joinR n rs fun _ => r) x = seesV m z n rs x := by
  rw [seesV_ok h, seesV_ok (seesE_join h hn fun _ _ => hr)]
  exact seen_congr (fun i _ => by rw [yesN_join, yes_one, hs i]; simp) (fun i _ => by rw [noN_join, no_one, hs i]; simp)
/-- two rules in the place of one that speak of what that one speaks of -/
theorem seesV_two {m : Nat} {z : Nat → Int} {n : Nat} {rs : Nat → RuleL} {x : WhoL} {r a b : RuleL} (h : seesE m z n rs x = 0) (hn : n + 2 ≤ 20) (hr : r.ok) (ha : a.ok) (hb : b.ok)
    (hs : ∀ i, i < 8 → (speaks m (nats z) x i a || speaks m (nats z) x i b) = speaks m (nats z) x i r) (e1 : a.allow = r.allow) (e2 : b.allow = r.allow) :
    seesV m z (n + 2) (joinR n rs (twoR a b)) x = seesV m z (n + 1) (joinR n rs fun _ => r) x := by
  rw [seesV_ok (seesE_join h hn (twoR_ok ha hb)), seesV_ok (seesE_join h (by omega) fun _ _ => hr)]
  refine seen_congr (fun i hi => ?_) (fun i hi => ?_)
  · rw [yesN_join, yes_two, yesN_join, yes_one, e1, e2, ← Bool.and_or_distrib_right, hs i hi]
  · rw [noN_join, no_two, noN_join, no_one, e1, e2, ← Bool.and_or_distrib_right, hs i hi]
end Go.Proofs.YtepenlciaanoeaaGreatDoor
namespace Go.Proofs.YtepenlciaanoeaaGreatDoor
open Go.RowKit

theorem Tryz.infoRule : (Tryz.prog.info? 51).map (fun i => (i.zero, i.size, i.bytes)) = some (some (.agg #[.int .i64 0, .int .i64 0, .int .i64 0, .int .i64 0, .int .i64 0, .bool false]), 6, 48) := by kernel_rfl

/-- the value v owns, from block B on, n rules -/
def OwnR (B : Nat) (w : World) (v : Value) (n : Nat) (rs : Nat → RuleL) : Prop := w.ownsRow B 51 6 v n (cellsR rs n)

theorem OwnR.slr {B : Nat} {w : World} {A : Option Addr} {n c : Nat} {rs : Nat → RuleL} (h : OwnR B w (.slice A n c) n rs) : SlR w A n rs ∧ n ≤ c ∧ c ≤ maxLen := by
  rcases h.2 with ⟨e, h0⟩ | ⟨g, cap, cur, e, hlo, hg, h1, h2, h3, h4⟩
  · subst h0
    cases e
    exact ⟨fun k hk => absurd hk (Nat.not_lt_zero k), Nat.le_refl _, Nat.zero_le _⟩
  · cases e
    refine ⟨slr_of_cells fun j u hj => ?_, h1, h2⟩
    have := World.ownsRow.cells h (g := g) rfl j u hj
    have hadd : (⟨g, 0, none⟩ : Addr).add j = ⟨g, j, none⟩ := by unfold Addr.add; split <;> simp_all
    rwa [hadd] at this

theorem OwnR.alloc {B : Nat} {w : World} {v : Value} {n : Nat} {rs : Nat → RuleL} {o : Obj} (h : OwnR B w v n rs) : OwnR B (w.alloc o) v n rs := World.ownsRow.alloc h o
theorem le_alloc {B : Nat} {W w1 : World} {o : Obj} (hb : Below B W w1) : W.heap.size ≤ (w1.alloc o).heap.size := Nat.le_trans hb.size (by simp)

/-- a slice of rules that is new from block B on -/
def NewR (B n : Nat) (rs : Nat → RuleL) (w : World) (e : Ending) (w' : World) : Prop :=
  ∃ v A c, e = .returned v ∧ v = .slice A n c ∧ OwnR B w' v n rs ∧ Below B w w'

/-- .. in a world that has more than T blocks -/
def NewT (T n : Nat) (rs : Nat → RuleL) (w : World) (e : Ending) (w' : World) : Prop :=
  ∃ v A c, e = .returned v ∧ v = .slice A n c ∧ OwnR w.heap.size w' v n rs ∧ Below w.heap.size w w' ∧ T < w.heap.size

set_option maxHeartbeats 1000000 in
/-- what is written out as a row of rules -/
theorem slr_lit1 (w : World) (r : RuleL) : SlR (w.alloc (.cells #[.int .i64 r.role, .int .i64 r.why, .int .i64 r.frm, .int .i64 r.til, .int .i64 r.cats, .bool r.allow] 51)) (some ⟨w.heap.size, 0, none⟩) 1 (fun _ => r) := by
  intro k hk
  obtain rfl : k = 0 := by omega
  exact ⟨_, _, rfl, by simp, by simp, by simp, by simp, by simp, by simp⟩
theorem slr_lit1d {w w' : World} {r : RuleL} (hb : Below (w.alloc (.cells #[.int .i64 r.role, .int .i64 r.why, .int .i64 r.frm, .int .i64 r.til, .int .i64 r.cats, .bool r.allow] 51)).drew.heap.size (w.alloc (.cells #[.int .i64 r.role, .int .i64 r.why, .int .i64 r.frm, .int .i64 r.til, .int .i64 r.cats, .bool r.allow] 51)).drew w') {g0 : Nat} (hg : w.heap.size = g0) : SlR w' (some ⟨g0, 0, none⟩) 1 (fun _ => r) := by subst hg; exact SlR.below (w := (w.alloc (.cells #[.int .i64 r.role, .int .i64 r.why, .int .i64 r.frm, .int .i64 r.til, .int .i64 r.cats, .bool r.allow] 51)).drew) (slr_lit1 w r) hb
theorem slr_lit2 (w : World) {r : RuleL} (q : RuleL) : SlR (w.alloc (.cells #[.int .i64 r.role, .int .i64 r.why, .int .i64 r.frm, .int .i64 r.til, .int .i64 r.cats, .bool r.allow, .int .i64 q.role, .int .i64 q.why, .int .i64 q.frm, .int .i64 q.til, .int .i64 q.cats, .bool q.allow] 51)) (some ⟨w.heap.size, 0, none⟩) 2 (twoR r q) := by
  intro k hk
  match k, hk with
  | 0, _ => exact ⟨_, _, rfl, by simp [twoR], by simp [twoR], by simp [twoR], by simp [twoR], by simp [twoR], by simp [twoR]⟩
  | 1, _ => exact ⟨_, _, rfl, by simp [twoR], by simp [twoR], by simp [twoR], by simp [twoR], by simp [twoR], by simp [twoR]⟩

theorem slr_lit2d {w w' : World} {r q : RuleL} (hb : Below (w.alloc (.cells #[.int .i64 r.role, .int .i64 r.why, .int .i64 r.frm, .int .i64 r.til, .int .i64 r.cats, .bool r.allow, .int .i64 q.role, .int .i64 q.why, .int .i64 q.frm, .int .i64 q.til, .int .i64 q.cats, .bool q.allow] 51)).drew.heap.size (w.alloc (.cells #[.int .i64 r.role, .int .i64 r.why, .int .i64 r.frm, .int .i64 r.til, .int .i64 r.cats, .bool r.allow, .int .i64 q.role, .int .i64 q.why, .int .i64 q.frm, .int .i64 q.til, .int .i64 q.cats, .bool q.allow] 51)).drew w') {g0 : Nat} (hg : w.heap.size = g0) : SlR w' (some ⟨g0, 0, none⟩) 2 (twoR r q) := by subst hg; exact SlR.below (w := (w.alloc (.cells #[.int .i64 r.role, .int .i64 r.why, .int .i64 r.frm, .int .i64 r.til, .int .i64 r.cats, .bool r.allow, .int .i64 q.role, .int .i64 q.why, .int .i64 q.frm, .int .i64 q.til, .int .i64 q.cats, .bool q.allow] 51)).drew) (slr_lit2 w (r := r) q) hb
/-- append, at a step of a region that draws its order -/
theorem step_app (w : World) {ops : Array Oper} {o : Oper} {a : Act} {K : Act → World → Prop} {Q : Exit → Act → World → Prop} {E : Prop} (hgd : o.guard = none) (s x : Operand)
    (ho : o.op = .call { callee := .builtin .append, args := #[s, x], argTypes := #[36, 36] })
    (v : Value) (hs : a.eval s = v) {B n : Nat} {rs : Nat → RuleL} (hown : OwnR B w v n rs) (g0 m c0 : Nat) (q : Nat → RuleL) (hx : a.eval x = .slice (some ⟨g0, 0, none⟩) m c0) (hq : SlR w (some ⟨g0, 0, none⟩) m q) (hm : 0 < m) (hn : n + m ≤ 1000) (hB : B ≤ w.heap.size)
    (h : ∀ A cap w', OwnR B w' (.slice A (n + m) cap) (n + m) (joinR n rs q) → Below B w w' → K (a.put o.dst (.slice A (n + m) cap)) w') :
    if Region.wanted o (yielded ops a.tmps) = true then Oper.wp Tryz.prog o a w K Q else E := by
  obtain ⟨i0, hi, hz0, hz1, hz2⟩ := info_parts Tryz.infoRule
  refine step_append_lies (P := Tryz.prog) w hgd s x 36 ho B 51 i0 _ 6 48 Tryz.underlying36 hi hz0 hz1 hz2 rfl (by decide) v n (cellsR rs n) hs hown ⟨g0, 0, none⟩ m c0 (cellsR q m) hx (flat_len (RuleL.cells_len q) m) hq.cells (cellsR_one q m) hm (by unfold maxLen; omega) (by omega) hB _ rfl ?_
  intro g cap w1 hown1 hgrow hat hlt
  refine h (some ⟨g, 0, none⟩) cap w1 ?_ ⟨hgrow.os, hgrow.tape, hgrow.output, hgrow.size, fun i hi => hgrow.block i (by omega) fun e => ?_⟩
  · unfold OwnR
    rw [cellsR_join]
    exact hown1
  · have := (World.ownsRow.lt hown i e.symm).1
    omega
end Go.Proofs.YtepenlciaanoeaaGreatDoor
