/- Sums of texts, the last " =" of a text, numbers as words: plain mathematics. Lines of a log, without the program: what is written, what is read. Lines of a log: what was written is read as it was, what is read is written as it was; a line one byte of which is another one says nothing. A line one byte of which is another one; logs of many lines. -/
import Derived.Test.YtepenlciaanoeaaGreatDoorRRefNum
import Derived.Lib.LastIndexLaws
import Derived.Test.YtepenlciaanoeaaGreatDoorLogOp
import Derived.Test.YtepenlciaanoeaaGreatDoorRHeld
set_option linter.unusedVariables false
set_option linter.unusedSimpArgs false
set_option maxRecDepth 100000
namespace Go.Proofs.YtepenlciaanoeaaGreatDoor
open Go.RowKit Go.Sort

/-! ## the sum: P45 -/
def sumN : Nat → List UInt8 → Nat
  | _, [] => 0
  | k, b :: r => b.toNat * (k + 1) + sumN (k + 1) r
def sumL (l : List UInt8) : Nat := sumN 0 l % 65521
theorem sumN_append : ∀ (a : List UInt8) (k : Nat) (b : List UInt8), sumN k (a ++ b) = sumN k a + sumN (k + a.length) b
  | [], k, b => by simp [sumN]
  | x :: a, k, b => by
    have := sumN_append a (k + 1) b
    show x.toNat * (k + 1) + sumN (k + 1) (a ++ b) = x.toNat * (k + 1) + sumN (k + 1) a + _
    rw [this]
    have e : k + (x :: a).length = k + 1 + a.length := by simp; omega
    rw [e]
    omega
theorem sumL_lt (l : List UInt8) : sumL l < 65521 := Nat.mod_lt _ (by decide)

theorem coprime_small : ∀ d : Fin 256, d.val ≠ 0 → Nat.gcd 65521 d.val = 1 := by decide +kernel
theorem prime_step {d m : Nat} (h0 : d ≠ 0) (h1 : d < 256) (h2 : m ≠ 0) (h3 : m < 65521) : (d * m) % 65521 ≠ 0 := fun h => by
  have hc : Nat.Coprime 65521 d := coprime_small ⟨d, h1⟩ h0
  have hd : 65521 ∣ d * m := Nat.dvd_of_mod_eq_zero h
  have := Nat.le_of_dvd (Nat.pos_of_ne_zero h2) (hc.dvd_of_dvd_mul_left hd)
  omega
/-- one byte that is another one changes the sum -/
theorem sum_byte {a r : List UInt8} {x y : UInt8} (h : x ≠ y) (hl : a.length + 1 < 65521) : sumL (a ++ x :: r) ≠ sumL (a ++ y :: r) := fun e => by
  unfold sumL at e
  rw [sumN_append, sumN_append] at e
  have e1 : sumN (0 + a.length) (x :: r) = x.toNat * (a.length + 1) + sumN (a.length + 1) r := by rw [sumN]; simp
  have e2 : sumN (0 + a.length) (y :: r) = y.toNat * (a.length + 1) + sumN (a.length + 1) r := by rw [sumN]; simp
  rw [e1, e2] at e
  have hx := x.toNat_lt
  have hy := y.toNat_lt
  have hne : x.toNat ≠ y.toNat := fun k => h (UInt8.toNat_inj.1 k)
  obtain ⟨X, hX⟩ : ∃ X, X = x.toNat := ⟨_, rfl⟩
  obtain ⟨Y, hY⟩ : ∃ Y, Y = y.toNat := ⟨_, rfl⟩
  obtain ⟨M, hM⟩ : ∃ M, M = a.length + 1 := ⟨_, rfl⟩
  rw [← hX] at e hx hne
  rw [← hY] at e hy hne
  rw [← hM] at e hl
  have hM0 : M ≠ 0 := by omega
  rcases Nat.lt_or_gt_of_ne hne with hlt | hlt
  · refine prime_step (d := Y - X) (m := M) (by omega) (by omega) hM0 hl ?_
    rw [Nat.sub_mul]
    have : X * M ≤ Y * M := Nat.mul_le_mul_right _ (by omega)
    omega
  · refine prime_step (d := X - Y) (m := M) (by omega) (by omega) hM0 hl ?_
    rw [Nat.sub_mul]
    have : Y * M ≤ X * M := Nat.mul_le_mul_right _ (by omega)
    omega

/-! ## the last " =" -/
def markL : List UInt8 → Option (List UInt8 × List UInt8)
  | [] => none
  | b :: r =>
    match markL r with
    | some p => some (b :: p.1, p.2)
    | none =>
      match r with
      | [] => none
      | c :: t => if b = 32 ∧ c = 61 then some ([], t) else none
def Mk (l : List UInt8) : Prop := ∃ a b, l = a ++ 32 :: 61 :: b
theorem mk_cons {b : UInt8} {r : List UInt8} (h : Mk (b :: r)) : Mk r ∨ b = 32 ∧ ∃ t, r = 61 :: t := by
  obtain ⟨a, t, e⟩ := h
  cases a with
  | nil =>
    cases e
    exact .inr ⟨rfl, _, rfl⟩
  | cons x a =>
    cases e
    exact .inl ⟨a, t, rfl⟩
theorem Mk.cons {r : List UInt8} (b : UInt8) (h : Mk r) : Mk (b :: r) := by
  obtain ⟨a, t, rfl⟩ := h
  exact ⟨b :: a, t, rfl⟩
theorem Mk.append {r : List UInt8} (l : List UInt8) (h : Mk r) : Mk (l ++ r) := by
  obtain ⟨a, t, rfl⟩ := h
  exact ⟨l ++ a, t, by simp⟩
theorem markL_no : ∀ {l : List UInt8}, ¬ Mk l → markL l = none
  | [], _ => rfl
  | b :: r, h => by
    unfold markL
    rw [markL_no (l := r) fun k => h (k.cons b)]
    cases r with
    | nil => rfl
    | cons c t =>
      show (if b = 32 ∧ c = 61 then _ else _) = _
      rw [if_neg]
      rintro ⟨rfl, rfl⟩
      exact h ⟨[], t, rfl⟩
theorem markL_of : ∀ {a b : List UInt8}, ¬ Mk (61 :: b) → markL (a ++ 32 :: 61 :: b) = some (a, b)
  | [], b, h => by
    show markL (32 :: 61 :: b) = _
    unfold markL
    rw [markL_no h]
    show (if (32 : UInt8) = 32 ∧ (61 : UInt8) = 61 then _ else _) = _
    rw [if_pos ⟨rfl, rfl⟩]
  | x :: a, b, h => by
    show markL (x :: (a ++ 32 :: 61 :: b)) = _
    unfold markL
    rw [markL_of h]
theorem markL_none : ∀ {l : List UInt8}, markL l = none → ¬ Mk l
  | [], _, ⟨a, b, e⟩ => by simp at e
  | x :: r, h, hk => by
    unfold markL at h
    cases hm : markL r with
    | some p =>
      rw [hm] at h
      cases h
    | none =>
      rw [hm] at h
      rcases mk_cons hk with k | ⟨rfl, t, rfl⟩
      · exact markL_none hm k
      · simp at h
theorem markL_some : ∀ {l a b : List UInt8}, markL l = some (a, b) → l = a ++ 32 :: 61 :: b ∧ ¬ Mk (61 :: b)
  | [], a, b, h => by cases h
  | x :: r, a, b, h => by
    unfold markL at h
    cases hm : markL r with
    | some p =>
      rw [hm] at h
      cases h
      obtain ⟨e, hn⟩ := markL_some (l := r) (a := p.1) (b := p.2) hm
      exact ⟨by rw [List.cons_append, ← e], hn⟩
    | none =>
      rw [hm] at h
      cases r with
      | nil => cases h
      | cons c t =>
        replace h : (if x = 32 ∧ c = 61 then some (([] : List UInt8), t) else none) = some (a, b) := h
        split at h
        · rename_i hh
          obtain ⟨rfl, rfl⟩ := hh
          cases h
          exact ⟨rfl, markL_none hm⟩
        · cases h
theorem mk_not {l : List UInt8} (h : 32 ∉ l) : ¬ Mk l := fun ⟨a, b, e⟩ => h (by rw [e]; simp)

theorem occ_mk {l : List UInt8} {i : Nat} (h : Lib.occAt l [32, 61] i = true) : ∃ t, l.drop i = 32 :: 61 :: t := by
  unfold Lib.occAt at h
  cases hd : l.drop i with
  | nil =>
    rw [hd] at h
    simp [List.isPrefixOf] at h
  | cons b r =>
    rw [hd] at h
    cases r with
    | nil => simp [List.isPrefixOf] at h
    | cons c t =>
      simp [List.isPrefixOf] at h
      exact ⟨t, by rw [← h.1, ← h.2]⟩
/-- what strings.LastIndex says of " =" -/
theorem last_mark (l : List UInt8) : Lib.lastIndex l [32, 61] = match markL l with
    | none => -1
    | some p => (p.1.length : Int) := by
  unfold Lib.lastIndex
  cases hm : markL l with
  | none =>
    have hn := markL_none hm
    split
    · rcases Lib.lastOcc_spec l [32, 61] (l.length - [32, 61].length + 1) with ⟨e, _⟩ | ⟨i, _, _, h, _⟩
      · exact e
      · obtain ⟨t, ht⟩ := occ_mk h
        exact absurd ⟨l.take i, t, by rw [← ht, List.take_append_drop]⟩ hn
    · rfl
  | some p =>
    obtain ⟨a, b⟩ := p
    obtain ⟨rfl, hn⟩ := markL_some hm
    have hat : Lib.occAt (a ++ 32 :: 61 :: b) [32, 61] a.length = true := by
      unfold Lib.occAt
      rw [List.drop_left]
      simp [List.isPrefixOf]
    rw [if_pos (by simp; omega)]
    rcases Lib.lastOcc_spec (a ++ 32 :: 61 :: b) [32, 61] ((a ++ 32 :: 61 :: b).length - [32, 61].length + 1) with ⟨_, h⟩ | ⟨i, hi, e, h, h2⟩
    · rw [h a.length (by simp; omega)] at hat
      cases hat
    · refine e.trans ?_
      have h3 : ¬ i < a.length := fun k => by
        rw [h2 a.length k (by simp; omega)] at hat
        cases hat
      have h4 : ¬ a.length < i := fun k => by
        obtain ⟨t, ht⟩ := occ_mk h
        rw [List.drop_append, List.drop_eq_nil_of_le (by omega), List.nil_append] at ht
        obtain ⟨j, hj⟩ : ∃ j, i - a.length = j + 1 := ⟨i - a.length - 1, by omega⟩
        rw [hj, List.drop_succ_cons] at ht
        exact hn ⟨(61 :: b).take j, t, by rw [← ht, List.take_append_drop]⟩
      show (i : Int) = (a.length : Int)
      omega

/-! ## numbers -/
theorem valL_digits (u : Nat) : valL 0 (Lib.decDigits u) = u := by
  induction u using Nat.strongRecOn with
  | ind u ih =>
    by_cases h : u < 10
    · rw [Lib.decDigits_one h]
      show 0 * 10 + ((UInt8.ofNat (48 + u)).toNat - 48) = u
      rw [dig_nat h]
      omega
    · rw [digits_step h, valL_snoc, ih (u / 10) (by omega), dig_nat (by omega)]
      omega
theorem sgn_dec (u : Nat) : Sgn (Lib.decDigits u) (Lib.decDigits u) false := ⟨rfl, fun _ r h => by
  have := digits_bytes u 45 (by rw [h]; simp)
  exact absurd this.1 (by decide)⟩
theorem sgn_neg (u : Nat) : Sgn (45 :: Lib.decDigits u) (Lib.decDigits u) true := ⟨rfl, fun h => by cases h⟩
theorem numL_itoa {n : Int} (h0 : -100000000 < n) (h1 : n < 1000000000) : numL (Lib.itoa n) = some n := by
  by_cases hn : n < 0
  · obtain ⟨u, rfl⟩ : ∃ u : Nat, n = -(u : Int) := ⟨n.natAbs, by omega⟩
    have hl := digits_len (k := 7) (u := u) (by omega)
    rw [itoa_neg u (by omega), numL_val (sgn_neg u) (digits_bytes u) (by simp; omega)]
    unfold sval
    rw [if_pos rfl, valL_digits, if_pos (itoa_neg u (by omega))]
  · obtain ⟨u, rfl⟩ : ∃ u : Nat, n = (u : Int) := ⟨n.toNat, by omega⟩
    have hl := digits_len (k := 8) (u := u) (by omega)
    rw [itoa_pos u, numL_val (sgn_dec u) (digits_bytes u) (by omega)]
    have hv : sval (Lib.decDigits u) false = (u : Int) := by
      unfold sval
      rw [if_neg (by simp), valL_digits]
    rw [hv, if_pos (itoa_pos u)]
theorem itoa_bytes (n : Int) : ∀ b ∈ Lib.itoa n, b.toNat = 45 ∨ 48 ≤ b.toNat ∧ b.toNat ≤ 57 := fun b hb => by
  unfold Lib.itoa at hb
  split at hb
  · rcases List.mem_cons.1 hb with rfl | hb
    · exact .inl rfl
    · exact .inr (digits_bytes _ b hb)
  · exact .inr (digits_bytes _ b hb)
theorem itoa_ne (n : Int) : Lib.itoa n ≠ [] := by
  unfold Lib.itoa
  split
  · simp
  · exact digits_ne _
/-- words as numbers -/
def numsL : List (List UInt8) → Option (List Int)
  | [] => some []
  | x :: r =>
    match numL x, numsL r with
    | some n, some l => some (n :: l)
    | _, _ => none
theorem numsL_cons {x : List UInt8} {r : List (List UInt8)} {n : Int} {l : List Int} (h : numL x = some n) (h2 : numsL r = some l) : numsL (x :: r) = some (n :: l) := by
  unfold numsL
  rw [h, h2]
theorem numsL_bad {x : List UInt8} {r : List (List UInt8)} (h : numL x = none) : numsL (x :: r) = none := by
  unfold numsL
  rw [h]
theorem numsL_rest {x : List UInt8} {r : List (List UInt8)} (h : numsL r = none) : numsL (x :: r) = none := by
  unfold numsL
  rw [h]
  cases numL x <;> rfl
theorem numsL_some : ∀ {ws : List (List UInt8)} {l : List Int}, numsL ws = some l → ws = l.map Lib.itoa
  | [], l, h => by
    cases h
    rfl
  | x :: r, l, h => by
    cases h1 : numL x with
    | none =>
      rw [numsL_bad h1] at h
      cases h
    | some n =>
      cases h2 : numsL r with
      | none =>
        rw [numsL_rest h2] at h
        cases h
      | some m =>
        rw [numsL_cons h1 h2] at h
        cases h
        rw [List.map_cons, (numL_some h1).1, ← numsL_some h2]
theorem numsL_itoa : ∀ {l : List Int}, (∀ n ∈ l, -100000000 < n ∧ n < 1000000000) → numsL (l.map Lib.itoa) = some l
  | [], _ => rfl
  | n :: r, h => by
    obtain ⟨h0, h1⟩ := h n (by simp)
    rw [List.map_cons]
    exact numsL_cons (numL_itoa h0 h1) (numsL_itoa fun m hm => h m (List.mem_cons_of_mem _ hm))
end Go.Proofs.YtepenlciaanoeaaGreatDoor
namespace Go.Proofs.YtepenlciaanoeaaGreatDoor
open Go.RowKit Go.Sort

/-! ## words -/
def yesB : List UInt8 := [121, 101, 115]
def noB : List UInt8 := [110, 111]
def wRules : List UInt8 := [114, 117, 108, 101, 115]
def wPut : List UInt8 := [112, 117, 116]
def wCut : List UInt8 := [99, 117, 116]
def allowW (b : Bool) : List UInt8 := if b then yesB else noB
def RuleL.words (r : RuleL) : List (List UInt8) := [Lib.itoa r.role, Lib.itoa r.why, Lib.itoa r.frm, Lib.itoa r.til, Lib.itoa r.cats, allowW r.allow]
def rulesW (n : Nat) (rs : Nat → RuleL) : List (List UInt8) := (List.range n).flatMap fun k => (rs k).words
def WhoL.words (x : WhoL) : List (List UInt8) := [Lib.itoa x.role, Lib.itoa x.why, Lib.itoa x.time]
def OpL.words (o : OpL) : List (List UInt8) :=
  if o.kind = 1 then wRules :: rulesW o.n o.rs
  else if o.kind = 2 then wPut :: (o.who.words ++ [o.r.text])
  else wCut :: (o.who.words ++ [o.id.data.toList, Lib.itoa o.r.cats])
/-- P46: what stands ahead of the sum -/
def OpL.said (o : OpL) : List UInt8 := Lib.join o.words [32]
def OpL.line (o : OpL) : List UInt8 := o.said ++ 32 :: 61 :: (Lib.itoa (sumL o.said) ++ [10])
/-- P44 -/
noncomputable def logErr (o : OpL) : Int :=
  if o.kind = 1 then rulesErr o.n o.rs
  else if o.kind = 2 then (if o.who.ok then o.r.err else 1)
  else if o.kind = 3 then (if o.who.ok ∧ 0 ≤ o.r.cats ∧ o.r.cats ≤ 255 then (if isNm o.id = true then 0 else 3) else 1)
  else 3
noncomputable def wrLine (o : OpL) : ByteArray := if logErr o = 0 then bs o.line else ⟨#[]⟩

/-! ## what is read -/
def who0 : WhoL := ⟨0, 0, 0⟩
def rule0 : RuleL := ⟨0, 0, 0, 0, 0, false⟩
def fld0 : FieldL := ⟨⟨#[]⟩, ⟨#[]⟩⟩
/-- a list of rules as they are numbered -/
def nthR (l : List RuleL) (k : Nat) : RuleL := l.getD k rule0
def OpL.zero : OpL := ⟨0, who0, 0, fun _ => rule0, RecL.zero, ⟨#[]⟩, fld0⟩
def opRules (l : List RuleL) : OpL := ⟨1, who0, l.length, nthR l, RecL.zero, ⟨#[]⟩, fld0⟩
def opPut (x : WhoL) (r : RecL) : OpL := ⟨2, x, 0, fun _ => rule0, r, ⟨#[]⟩, fld0⟩
def opCut (x : WhoL) (id : ByteArray) (c : Int) : OpL := ⟨3, x, 0, fun _ => rule0, ⟨⟨#[]⟩, c, [], []⟩, id, fld0⟩
/-- what is written of o -/
def OpL.plain (o : OpL) : OpL :=
  if o.kind = 1 then opRules ((List.range o.n).map o.rs)
  else if o.kind = 2 then opPut o.who o.r
  else opCut o.who o.id o.r.cats

def ruleOf (a b c d e f : List UInt8) : Option RuleL :=
  match numsL [a, b, c, d, e] with
  | some [n0, n1, n2, n3, n4] => if f = yesB then some ⟨n0, n1, n2, n3, n4, true⟩ else if f = noB then some ⟨n0, n1, n2, n3, n4, false⟩ else none
  | _ => none
def rulesOf : List (List UInt8) → Option (List RuleL)
  | [] => some []
  | a :: b :: c :: d :: e :: f :: r =>
    match ruleOf a b c d e f, rulesOf r with
    | some x, some l => some (x :: l)
    | _, _ => none
  | _ => none
def whoOf (a b c : List UInt8) : Option WhoL :=
  match numsL [a, b, c] with
  | some [x, y, z] => some ⟨x, y, z⟩
  | _ => none
open Classical in
/-- the record that a word says -/
noncomputable def recOf (t : List UInt8) : Option RecL := if rdErr t = 0 then some (rdRec t) else none
/-- what words say -/
noncomputable def opOf2 (w : List UInt8) (r : List (List UInt8)) : Option OpL :=
  if w = wRules then (rulesOf r).map opRules
  else if w = wPut then
    match r with
    | [a, b, c, t] =>
      match whoOf a b c, recOf t with
      | some x, some q => some (opPut x q)
      | _, _ => none
    | _ => none
  else if w = wCut then
    match r with
    | [a, b, c, i, k] =>
      match whoOf a b c, numL k with
      | some x, some q => some (opCut x (bs i) q)
      | _, _ => none
    | _ => none
  else none
noncomputable def opOf : List (List UInt8) → Option OpL
  | [] => none
  | w :: r => opOf2 w r

/-- P47: what a line says -/
noncomputable def lineOp (line : List UInt8) : Except Int OpL :=
  match markL line with
  | none => .error 10
  | some (said, num) =>
    match numL num with
    | none => .error 10
    | some n =>
      if ¬ (0 ≤ n ∧ n < 65521) then .error 10
      else if n ≠ (sumL said : Int) then .error 8
      else
        match opOf (splitC 32 said) with
        | none => .error 10
        | some o => if logErr o ≠ 0 then .error (logErr o) else .ok o
noncomputable def rdOp (s : List UInt8) : Except Int (OpL × Nat) :=
  if 10 ∈ s then
    match lineOp (Lib.cut s [10]).1 with
    | .error e => .error e
    | .ok o => .ok (o, (Lib.cut s [10]).1.length + 1)
  else .error 7
noncomputable def opE (x : Except Int (OpL × Nat)) : Int := match x with | .error e => e | .ok _ => 0
noncomputable def opO (x : Except Int (OpL × Nat)) : OpL := match x with | .error _ => OpL.zero | .ok p => p.1
noncomputable def opN (x : Except Int (OpL × Nat)) : Nat := match x with | .error _ => 0 | .ok p => p.2
/-- more of a log that says x behind it -/
def preL (l : List OpL) (n : Nat) (x : Except Int (List OpL × Nat)) : Except Int (List OpL × Nat) := match x with | .error e => .error e | .ok (m, k) => .ok (l ++ m, n + k)
/-- P48: what all lines say -/
inductive AllTo : List UInt8 → Except Int (List OpL × Nat) → Prop
  | stop {s : List UInt8} : rdOp s = .error 7 → AllTo s (.ok ([], 0))
  | bad {s : List UInt8} {e : Int} : rdOp s = .error e → e ≠ 7 → AllTo s (.error e)
  | more {s : List UInt8} {o : OpL} {n : Nat} {x : Except Int (List OpL × Nat)} : rdOp s = .ok (o, n) → AllTo (s.drop n) x → AllTo s (preL [o] n x)
end Go.Proofs.YtepenlciaanoeaaGreatDoor
namespace Go.Proofs.YtepenlciaanoeaaGreatDoor
open Go.RowKit Go.Sort

/-! ## words without blanks -/
structure Wd (l : List UInt8) : Prop where
  ne : l ≠ []
  b : ∀ b ∈ l, b.toNat ≠ 32 ∧ b.toNat ≠ 10
  h : l.head? ≠ some 61
theorem Wd.m32 {l : List UInt8} (h : Wd l) : 32 ∉ l := fun k => (h.b 32 k).1 rfl
theorem Wd.m10 {l : List UInt8} (h : Wd l) : 10 ∉ l := fun k => (h.b 10 k).2 rfl
theorem wd_itoa (n : Int) : Wd (Lib.itoa n) := ⟨itoa_ne n, fun b hb => by have := itoa_bytes n b hb; omega, fun k => by
  have := itoa_bytes n 61 (List.mem_of_mem_head? (by rw [k]; exact rfl))
  revert this
  decide⟩
theorem wd_allow (b : Bool) : Wd (allowW b) := by
  cases b
  · exact ⟨by decide, by decide, by decide⟩
  · exact ⟨by decide, by decide, by decide⟩
theorem wd_rules : Wd wRules := ⟨by decide, by decide, by decide⟩
theorem wd_put : Wd wPut := ⟨by decide, by decide, by decide⟩
theorem wd_cut : Wd wCut := ⟨by decide, by decide, by decide⟩
theorem wd_nm {s : ByteArray} (h : isNm s = true) : Wd s.data.toList := ⟨nm_ne h, fun b hb => by have := nm_bytes h b hb; omega, fun k => by
  have := nm_bytes h 61 (List.mem_of_mem_head? (by rw [k]; exact rfl))
  exact this.2.2 rfl⟩
theorem vl_low {s : ByteArray} (h : isVl s = true) : ∀ b ∈ s.data.toList, 33 ≤ b.toNat := fun b hb => by
  unfold isVl at h
  simp only [Bool.and_eq_true, List.all_eq_true] at h
  have := h.2 b hb
  unfold vlB at this
  simp only [Bool.and_eq_true, decide_eq_true_eq] at this
  exact this.1.1.1.1
theorem wd_text {r : RecL} (h : r.Ok) : Wd r.text := by
  have hid := wd_nm h.id
  refine ⟨?_, fun b hb => ?_, ?_⟩
  · unfold RecL.text
    rw [joinC_cons]
    intro k
    exact hid.ne (List.append_eq_nil_iff.1 k).1
  · unfold RecL.text at hb
    rcases mem_join hb with rfl | ⟨x, hx, hb⟩
    · decide
    · simp only [List.mem_cons, List.mem_nil_iff, or_false] at hx
      rcases hx with rfl | rfl | rfl | rfl
      · exact hid.b b hb
      · exact (wd_itoa _).b b hb
      · rcases mem_join hb with rfl | ⟨y, hy, hb⟩
        · decide
        · obtain ⟨f, hf, rfl⟩ := List.mem_map.1 hy
          obtain ⟨h1, h2⟩ := fields_bytes h hf
          unfold fieldText at hb
          rcases List.mem_append.1 hb with hb | hb
          · exact (wd_nm h1).b b hb
          · rcases List.mem_cons.1 hb with rfl | hb
            · decide
            · have := vl_low h2 b hb
              omega
      · rcases mem_join hb with rfl | ⟨y, hy, hb⟩
        · decide
        · obtain ⟨f, hf, rfl⟩ := List.mem_map.1 hy
          exact (wd_nm (refs_bytes h hf)).b b hb
  · unfold RecL.text
    rw [joinC_cons]
    intro k
    apply hid.h
    cases e : r.id.data.toList with
    | nil => exact absurd e hid.ne
    | cons c t =>
      rw [e] at k
      exact k

/-- what can be written -/
theorem logErr_ok {o : OpL} (h : logErr o = 0) : o.kind = 1 ∧ rulesErr o.n o.rs = 0 ∨ o.kind = 2 ∧ o.who.ok ∧ o.r.err = 0 ∨ o.kind = 3 ∧ o.who.ok ∧ (0 ≤ o.r.cats ∧ o.r.cats ≤ 255) ∧ isNm o.id = true := by
  unfold logErr at h
  split at h
  · exact .inl ⟨by assumption, h⟩
  · split at h
    · split at h
      · exact .inr (.inl ⟨by assumption, by assumption, h⟩)
      · exact absurd h (by decide)
    · split at h
      · split at h
        · rename_i hh
          split at h
          · exact .inr (.inr ⟨by assumption, hh.1, hh.2, by assumption⟩)
          · exact absurd h (by decide)
        · exact absurd h (by decide)
      · exact absurd h (by decide)
theorem words_wd {o : OpL} (h : logErr o = 0) : ∀ x ∈ o.words, Wd x := fun x hx => by
  have hw : ∀ y ∈ o.who.words, Wd y := fun y hy => by
    unfold WhoL.words at hy
    simp only [List.mem_cons, List.mem_nil_iff, or_false] at hy
    rcases hy with rfl | rfl | rfl <;> exact wd_itoa _
  unfold OpL.words at hx
  rcases logErr_ok h with ⟨h1, h2⟩ | ⟨h1, h2, h3⟩ | ⟨h1, h2, h3, h4⟩
  · rw [if_pos h1] at hx
    rcases List.mem_cons.1 hx with rfl | hx
    · exact wd_rules
    · unfold rulesW at hx
      obtain ⟨k, _, hx⟩ := List.mem_flatMap.1 hx
      unfold RuleL.words at hx
      simp only [List.mem_cons, List.mem_nil_iff, or_false] at hx
      rcases hx with rfl | rfl | rfl | rfl | rfl | rfl <;> first | exact wd_itoa _ | exact wd_allow _
  · rw [if_neg (by omega), if_pos h1] at hx
    rcases List.mem_cons.1 hx with rfl | hx
    · exact wd_put
    · rcases List.mem_append.1 hx with hx | hx
      · exact hw x hx
      · rw [List.mem_singleton.1 hx]
        exact wd_text ((RecL.err_ok _).1 h3)
  · rw [if_neg (by omega), if_neg (by omega)] at hx
    rcases List.mem_cons.1 hx with rfl | hx
    · exact wd_cut
    · rcases List.mem_append.1 hx with hx | hx
      · exact hw x hx
      · simp only [List.mem_cons, List.mem_nil_iff, or_false] at hx
        rcases hx with rfl | rfl
        · exact wd_nm h4
        · exact wd_itoa _
theorem words_ne (o : OpL) : o.words ≠ [] := by
  unfold OpL.words
  split
  · simp
  · split <;> simp

/-! ## no " =" between words -/
structure Wm (l : List UInt8) : Prop where
  b : 32 ∉ l
  h : l.head? ≠ some 61
theorem Wd.wm {l : List UInt8} (h : Wd l) : Wm l := ⟨h.m32, h.h⟩
theorem mk_skip {s : List UInt8} : ∀ {x : List UInt8}, 32 ∉ x → Mk (x ++ s) → Mk s
  | [], _, h => h
  | b :: x, h0, h => by
    rcases mk_cons h with h | ⟨rfl, _⟩
    · exact mk_skip (fun k => h0 (List.mem_cons_of_mem _ k)) h
    · exact absurd (List.mem_cons_self ..) h0
theorem join_head {y : List UInt8} {r : List (List UInt8)} (h : y.head? ≠ some 61) : ∀ t, Lib.join (y :: r) [32] ≠ 61 :: t := fun t e => by
  cases r with
  | nil =>
    rw [Lib.join_one] at e
    rw [e] at h
    exact h rfl
  | cons z r =>
    rw [joinC_cons] at e
    cases y with
    | nil => exact absurd (List.cons.inj e).1 (by decide)
    | cons c y =>
      have := (List.cons.inj e).1
      subst this
      exact h rfl
theorem no_mark : ∀ {ws : List (List UInt8)}, (∀ x ∈ ws, Wm x) → ¬ Mk (Lib.join ws [32])
  | [], _, h => by
    obtain ⟨a, b, e⟩ := h
    have := congrArg List.length e
    simp [Lib.join_nil] at this
  | [x], hx, h => by
    rw [Lib.join_one] at h
    exact mk_not (hx x (by simp)).b h
  | x :: y :: r, hx, h => by
    rw [joinC_cons] at h
    rcases mk_cons (mk_skip (hx x (by simp)).b h) with h | ⟨_, t, e⟩
    · exact no_mark (fun z hz => hx z (List.mem_cons_of_mem _ hz)) h
    · exact join_head (hx y (by simp)).h t e
theorem join_last (c : UInt8) (l e : List UInt8) : ∀ ws : List (List UInt8), Lib.join (ws ++ [l]) [c] ++ e = Lib.join (ws ++ [l ++ e]) [c]
  | [] => by
    show Lib.join [l] [c] ++ e = Lib.join [l ++ e] [c]
    rw [Lib.join_one, Lib.join_one]
  | [x] => by
    show Lib.join [x, l] [c] ++ e = Lib.join [x, l ++ e] [c]
    rw [joinC_cons, joinC_cons, Lib.join_one, Lib.join_one]
    simp
  | x :: y :: r => by
    have ih := join_last c l e (y :: r)
    show Lib.join (x :: y :: (r ++ [l])) [c] ++ e = Lib.join (x :: y :: (r ++ [l ++ e])) [c]
    rw [joinC_cons, joinC_cons]
    have e2 : Lib.join (y :: (r ++ [l])) [c] ++ e = Lib.join (y :: (r ++ [l ++ e])) [c] := ih
    rw [← e2]
    simp
theorem said_no10 {o : OpL} (h : logErr o = 0) : 10 ∉ o.said := fun k => by
  rcases mem_join k with k | ⟨x, hx, k⟩
  · exact absurd k (by decide)
  · exact (words_wd h x hx).m10 k
theorem said_mk {o : OpL} (h : logErr o = 0) : ¬ Mk o.said := no_mark fun x hx => (words_wd h x hx).wm
/-- .. nor behind them, if what comes has none and does not begin with a blank -/
theorem said_mk_to {o : OpL} (h : logErr o = 0) {e : List UInt8} (he : 32 ∉ e) : ¬ Mk (o.said ++ e) := by
  obtain ⟨ws, l, hw⟩ : ∃ ws l, o.words = ws ++ [l] := ⟨_, _, (List.dropLast_concat_getLast (words_ne o)).symm⟩
  have hl := words_wd h l (by rw [hw]; simp)
  unfold OpL.said
  rw [hw, join_last]
  refine no_mark fun x hx => ?_
  rcases List.mem_append.1 hx with hx | hx
  · exact (words_wd h x (by rw [hw]; exact List.mem_append_left _ hx)).wm
  · rw [List.mem_singleton.1 hx]
    refine ⟨fun k => ?_, ?_⟩
    · rcases List.mem_append.1 k with k | k
      · exact hl.m32 k
      · exact he k
    · have := hl.h
      cases e2 : l with
      | nil => exact absurd e2 hl.ne
      | cons c t =>
        rw [e2] at this
        exact this
theorem said_mk_word {o : OpL} (h : logErr o = 0) {ws : List (List UInt8)} (he : ∀ x ∈ ws, Wm x) (hn : ws ≠ []) : ¬ Mk (o.said ++ 32 :: Lib.join ws [32]) := by
  have e : o.said ++ 32 :: Lib.join ws [32] = Lib.join (o.words ++ ws) [32] := by
    unfold OpL.said
    have : ∀ {xs ys : List (List UInt8)}, xs ≠ [] → ys ≠ [] → Lib.join xs [32] ++ 32 :: Lib.join ys [32] = Lib.join (xs ++ ys) [32] := by
      intro xs ys hx hy
      induction xs with
      | nil => exact absurd rfl hx
      | cons x r ih =>
        cases r with
        | nil =>
          obtain ⟨y, t, rfl⟩ := List.exists_cons_of_ne_nil hy
          rw [Lib.join_one]
          show _ = Lib.join (x :: y :: t) [32]
          rw [joinC_cons]
        | cons z r =>
          show _ = Lib.join (x :: z :: (r ++ ys)) [32]
          rw [joinC_cons, joinC_cons]
          have e3 : Lib.join (z :: (r ++ ys)) [32] = Lib.join (z :: r) [32] ++ 32 :: Lib.join ys [32] := (ih (by simp)).symm
          rw [e3]
          simp
    exact this (words_ne o) hn
  rw [e]
  refine no_mark fun x hx => ?_
  rcases List.mem_append.1 hx with hx | hx
  · exact (words_wd h x hx).wm
  · exact he x hx

/-! ## what was written is read as it was -/
theorem rules_back : ∀ {l : List RuleL}, (∀ r ∈ l, r.ok) → rulesOf (l.flatMap RuleL.words) = some l
  | [], _ => rfl
  | r :: l, h => by
    have ih := rules_back (l := l) fun q hq => h q (List.mem_cons_of_mem _ hq)
    obtain ⟨⟨h1, h2, h3, h4, h5⟩, h6⟩ := h r (by simp)
    have hn : numsL [Lib.itoa r.role, Lib.itoa r.why, Lib.itoa r.frm, Lib.itoa r.til, Lib.itoa r.cats] = some [r.role, r.why, r.frm, r.til, r.cats] := numsL_itoa (l := [r.role, r.why, r.frm, r.til, r.cats]) fun n hn => by
      simp only [List.mem_cons, List.mem_nil_iff, or_false] at hn
      rcases hn with rfl | rfl | rfl | rfl | rfl <;> omega
    have hr : ruleOf (Lib.itoa r.role) (Lib.itoa r.why) (Lib.itoa r.frm) (Lib.itoa r.til) (Lib.itoa r.cats) (allowW r.allow) = some r := by
      unfold ruleOf
      rw [hn]
      show (if allowW r.allow = yesB then _ else _) = _
      obtain ⟨ro, wh, fr, ti, ca, al⟩ := r
      cases al
      · show (if allowW false = yesB then _ else if allowW false = noB then _ else _) = _
        rw [if_neg (by decide), if_pos (show allowW false = noB from rfl)]
      · show (if allowW true = yesB then _ else _) = _
        rw [if_pos (show allowW true = yesB from rfl)]
    rw [List.flatMap_cons]
    show rulesOf (Lib.itoa r.role :: Lib.itoa r.why :: Lib.itoa r.frm :: Lib.itoa r.til :: Lib.itoa r.cats :: allowW r.allow :: (l.flatMap RuleL.words)) = _
    unfold rulesOf
    rw [hr, ih]
theorem rulesW_map (n : Nat) (rs : Nat → RuleL) : rulesW n rs = ((List.range n).map rs).flatMap RuleL.words := by
  unfold rulesW
  rw [List.flatMap_map]
theorem nthR_map (l : List RuleL) : (List.range l.length).map (nthR l) = l := by
  apply List.ext_getElem?
  intro i
  rw [List.getElem?_map]
  unfold nthR
  by_cases h : i < l.length
  · rw [List.getElem?_range h]
    show some (l.getD i rule0) = _
    rw [List.getD, List.getElem?_eq_getElem h]
    rfl
  · rw [List.getElem?_eq_none (by simpa using h), List.getElem?_eq_none (by omega)]
    rfl
theorem opOf_rules (r : List (List UInt8)) : opOf (wRules :: r) = (rulesOf r).map opRules := by
  show opOf2 wRules r = _
  unfold opOf2
  rw [if_pos rfl]
theorem opOf_put (a b c t : List UInt8) : opOf [wPut, a, b, c, t] = match whoOf a b c, recOf t with
    | some x, some q => some (opPut x q)
    | _, _ => none := by
  show opOf2 wPut [a, b, c, t] = _
  unfold opOf2
  rw [if_neg (by decide), if_pos rfl]
  all_goals rfl
theorem opOf_cut (a b c i k : List UInt8) : opOf [wCut, a, b, c, i, k] = match whoOf a b c, numL k with
    | some x, some q => some (opCut x (bs i) q)
    | _, _ => none := by
  show opOf2 wCut [a, b, c, i, k] = _
  unfold opOf2
  rw [if_neg (by decide), if_neg (by decide), if_pos rfl]
  all_goals rfl
theorem logErr_rules (l : List RuleL) : logErr (opRules l) = rulesErr l.length (nthR l) := by
  unfold logErr
  rw [if_pos (show (opRules l).kind = 1 from rfl)]
  rfl
theorem logErr_put (x : WhoL) (r : RecL) : logErr (opPut x r) = if x.ok then r.err else 1 := by
  unfold logErr
  rw [if_neg (show ¬ (opPut x r).kind = 1 from (by decide : ¬ (2 : Int) = 1)), if_pos (show (opPut x r).kind = 2 from rfl)]
  rfl
theorem logErr_cut (x : WhoL) (i : ByteArray) (c : Int) : logErr (opCut x i c) = if x.ok ∧ 0 ≤ c ∧ c ≤ 255 then (if isNm i = true then 0 else 3) else 1 := by
  unfold logErr
  rw [if_neg (show ¬ (opCut x i c).kind = 1 from (by decide : ¬ (3 : Int) = 1)), if_neg (show ¬ (opCut x i c).kind = 2 from (by decide : ¬ (3 : Int) = 2)), if_pos (show (opCut x i c).kind = 3 from rfl)]
  rfl
theorem who_back {x : WhoL} (h : x.ok) : whoOf (Lib.itoa x.role) (Lib.itoa x.why) (Lib.itoa x.time) = some x := by
  obtain ⟨h1, h2, h3⟩ := h
  have hn : numsL [Lib.itoa x.role, Lib.itoa x.why, Lib.itoa x.time] = some [x.role, x.why, x.time] := numsL_itoa (l := [x.role, x.why, x.time]) fun n hn => by
    simp only [List.mem_cons, List.mem_nil_iff, or_false] at hn
    rcases hn with rfl | rfl | rfl <;> omega
  unfold whoOf
  rw [hn]
theorem rec_back {r : RecL} (h : r.err = 0) : recOf r.text = some r := by
  have := rd_text h
  rw [data_bs] at this
  unfold recOf
  rw [if_pos this.2, this.1]
theorem op_back {o : OpL} (h : logErr o = 0) : opOf o.words = some o.plain := by
  unfold OpL.words OpL.plain
  rcases logErr_ok h with ⟨h1, h2⟩ | ⟨h1, h2, h3⟩ | ⟨h1, h2, h3, h4⟩
  · rw [if_pos h1, if_pos h1]
    rw [opOf_rules, rulesW_map, rules_back fun r hr => by
      obtain ⟨k, hk, rfl⟩ := List.mem_map.1 hr
      exact (rulesErr_zero h2).2 k (List.mem_range.1 hk)]
    rfl
  · rw [if_neg (by omega), if_pos h1, if_neg (by omega), if_pos h1]
    show opOf [wPut, Lib.itoa o.who.role, Lib.itoa o.who.why, Lib.itoa o.who.time, o.r.text] = _
    rw [opOf_put, who_back h2, rec_back h3]
  · rw [if_neg (by omega), if_neg (by omega), if_neg (by omega), if_neg (by omega)]
    show opOf [wCut, Lib.itoa o.who.role, Lib.itoa o.who.why, Lib.itoa o.who.time, o.id.data.toList, Lib.itoa o.r.cats] = _
    rw [opOf_cut, who_back h2, numL_itoa (by omega) (by omega), bs_data]
theorem plain_err {o : OpL} (h : logErr o = 0) : logErr o.plain = 0 := by
  unfold OpL.plain
  rcases logErr_ok h with ⟨h1, h2⟩ | ⟨h1, h2, h3⟩ | ⟨h1, h2, h3, h4⟩
  · rw [if_pos h1, logErr_rules]
    have hz := rulesErr_zero h2
    refine rulesErr_ok (by simp; exact hz.1) fun k hk => ?_
    have hk' : k < o.n := by simpa using hk
    unfold nthR
    rw [List.getD, List.getElem?_map, List.getElem?_range hk']
    exact hz.2 k hk'
  · rw [if_neg (by omega), if_pos h1, logErr_put, if_pos h2]
    exact h3
  · rw [if_neg (by omega), if_neg (by omega), logErr_cut, if_pos ⟨h2, h3⟩, if_pos h4]
theorem itoa_no {n : Int} {c : UInt8} (h : c.toNat < 45) : c ∉ Lib.itoa n := fun k => by
  have := itoa_bytes n c k
  omega
theorem line_op {o : OpL} (h : logErr o = 0) : lineOp (o.said ++ 32 :: 61 :: Lib.itoa (sumL o.said)) = .ok o.plain := by
  have hlt := sumL_lt o.said
  have hm : markL (o.said ++ 32 :: 61 :: Lib.itoa (sumL o.said)) = some (o.said, Lib.itoa (sumL o.said)) := markL_of (mk_not fun k => by
    rcases List.mem_cons.1 k with k | k
    · exact absurd k (by decide)
    · exact itoa_no (by decide) k)
  have hs : splitC 32 o.said = o.words := splitC_join (words_ne o) fun x hx => (words_wd h x hx).m32
  unfold lineOp
  rw [hm]
  show (match numL (Lib.itoa (sumL o.said : Int)) with
    | none => _
    | some n => _) = _
  rw [numL_itoa (by omega) (by omega)]
  show (if ¬ (0 ≤ (sumL o.said : Int) ∧ (sumL o.said : Int) < 65521) then _ else if (sumL o.said : Int) ≠ (sumL o.said : Int) then _ else _) = _
  rw [if_neg (by omega), if_neg (fun k => k rfl), hs, op_back h]
  show (if logErr o.plain ≠ 0 then _ else _) = _
  rw [if_neg (fun k => k (plain_err h))]
theorem line_no10 {o : OpL} (h : logErr o = 0) : 10 ∉ o.said ++ 32 :: 61 :: Lib.itoa (sumL o.said) := fun k => by
  rcases List.mem_append.1 k with k | k
  · exact said_no10 h k
  · rcases List.mem_cons.1 k with k | k
    · exact absurd k (by decide)
    · rcases List.mem_cons.1 k with k | k
      · exact absurd k (by decide)
      · exact itoa_no (by decide) k
theorem line_eq (o : OpL) : o.line = (o.said ++ 32 :: 61 :: Lib.itoa (sumL o.said)) ++ [10] := by
  unfold OpL.line
  simp
theorem rd_line {o : OpL} (h : logErr o = 0) (more : List UInt8) : rdOp (o.line ++ more) = .ok (o.plain, o.line.length) := by
  rw [line_eq]
  obtain ⟨L, hL⟩ : ∃ L, L = o.said ++ 32 :: 61 :: Lib.itoa (sumL o.said) := ⟨_, rfl⟩
  have h1 := line_op h
  have h2 := line_no10 h
  rw [← hL] at h1 h2 ⊢
  have e : L ++ [10] ++ more = L ++ 10 :: more := by simp
  unfold rdOp
  rw [e, if_pos (by simp), cut_hit more h2]
  show (match lineOp L with
    | .error e => (Except.error e : Except Int (OpL × Nat))
    | .ok o => .ok (o, L.length + 1)) = _
  rw [h1]
  simp

/-! ## what is read is written as it was -/
theorem words_rules (l : List RuleL) : (opRules l).words = wRules :: l.flatMap RuleL.words := by
  unfold OpL.words
  rw [if_pos (show (opRules l).kind = 1 from rfl)]
  show wRules :: rulesW l.length (nthR l) = _
  rw [rulesW_map, nthR_map]
theorem words_put (x : WhoL) (r : RecL) : (opPut x r).words = wPut :: (x.words ++ [r.text]) := by
  unfold OpL.words
  rw [if_neg (show ¬ (opPut x r).kind = 1 from (by decide : ¬ (2 : Int) = 1)), if_pos (show (opPut x r).kind = 2 from rfl)]
  rfl
theorem words_cut (x : WhoL) (i : ByteArray) (c : Int) : (opCut x i c).words = wCut :: (x.words ++ [i.data.toList, Lib.itoa c]) := by
  unfold OpL.words
  rw [if_neg (show ¬ (opCut x i c).kind = 1 from (by decide : ¬ (3 : Int) = 1)), if_neg (show ¬ (opCut x i c).kind = 2 from (by decide : ¬ (3 : Int) = 2))]
  rfl
theorem plain_rules (l : List RuleL) : (opRules l).plain = opRules l := by
  unfold OpL.plain
  rw [if_pos (show (opRules l).kind = 1 from rfl)]
  show opRules ((List.range l.length).map (nthR l)) = _
  rw [nthR_map]
theorem plain_put (x : WhoL) (r : RecL) : (opPut x r).plain = opPut x r := by
  unfold OpL.plain
  rw [if_neg (show ¬ (opPut x r).kind = 1 from (by decide : ¬ (2 : Int) = 1)), if_pos (show (opPut x r).kind = 2 from rfl)]
  rfl
theorem plain_cut (x : WhoL) (i : ByteArray) (c : Int) : (opCut x i c).plain = opCut x i c := by
  unfold OpL.plain
  rw [if_neg (show ¬ (opCut x i c).kind = 1 from (by decide : ¬ (3 : Int) = 1)), if_neg (show ¬ (opCut x i c).kind = 2 from (by decide : ¬ (3 : Int) = 2))]
  rfl
theorem ruleOf_some {a b c d e f : List UInt8} {r : RuleL} (h : ruleOf a b c d e f = some r) : [a, b, c, d, e, f] = r.words := by
  unfold ruleOf at h
  split at h
  · rename_i n0 n1 n2 n3 n4 hn
    have hw := numsL_some hn
    simp only [List.map_cons, List.map_nil, List.cons.injEq, and_true] at hw
    obtain ⟨rfl, rfl, rfl, rfl, rfl⟩ := hw
    split at h
    · rename_i hf
      cases h
      rw [hf]
      rfl
    · split at h
      · rename_i hf
        cases h
        rw [hf]
        rfl
      · cases h
  · cases h
theorem rulesOf_some : ∀ {ws : List (List UInt8)} {l : List RuleL}, rulesOf ws = some l → ws = l.flatMap RuleL.words
  | [], l, h => by
    cases h
    rfl
  | [_], _, h => by cases h
  | [_, _], _, h => by cases h
  | [_, _, _], _, h => by cases h
  | [_, _, _, _], _, h => by cases h
  | [_, _, _, _, _], _, h => by cases h
  | a :: b :: c :: d :: e :: f :: r, l, h => by
    unfold rulesOf at h
    split at h
    · rename_i x m hx hm
      cases h
      rw [List.flatMap_cons, ← ruleOf_some hx, ← rulesOf_some hm]
      rfl
    · cases h
theorem whoOf_some {a b c : List UInt8} {x : WhoL} (h : whoOf a b c = some x) : [a, b, c] = x.words := by
  unfold whoOf at h
  split at h
  · rename_i n0 n1 n2 hn
    have hw := numsL_some hn
    cases h
    exact hw
  · cases h
theorem recOf_some {t : List UInt8} {r : RecL} (h : recOf t = some r) : r.text = t ∧ r.err = 0 := by
  unfold recOf at h
  split at h
  · rename_i he
    cases h
    have h2 := rd_ok (s := bs t) (R := rdRec t) (by rw [data_bs]) (by rw [data_bs]; exact he)
    refine ⟨?_, h2.2⟩
    have := h2.1
    rw [wrS_ok h2.2] at this
    exact bs_inj this
  · cases h
theorem opOf_some {ws : List (List UInt8)} {o : OpL} (h : opOf ws = some o) : ws = o.words ∧ o.plain = o := by
  cases ws with
  | nil => cases h
  | cons w r =>
    replace h : opOf2 w r = some o := h
    unfold opOf2 at h
    split at h
    · rename_i hw
      subst hw
      obtain ⟨l, hl, rfl⟩ := Option.map_eq_some_iff.1 h
      exact ⟨by rw [words_rules, rulesOf_some hl], plain_rules l⟩
    · split at h
      · rename_i hw
        subst hw
        split at h
        · split at h
          · rename_i x q hx hq
            cases h
            refine ⟨?_, plain_put _ _⟩
            rw [words_put, ← whoOf_some hx, (recOf_some hq).1]
            rfl
          · cases h
        · cases h
      · split at h
        · rename_i hw
          subst hw
          split at h
          · split at h
            · rename_i i k _ x q hx hq
              cases h
              refine ⟨?_, plain_cut _ _ _⟩
              rw [words_cut, ← whoOf_some hx, data_bs, (numL_some hq).1]
              rfl
            · cases h
          · cases h
        · cases h
theorem lineOp_ok {line : List UInt8} {o : OpL} (h : lineOp line = .ok o) : line = o.said ++ 32 :: 61 :: Lib.itoa (sumL o.said) ∧ logErr o = 0 ∧ o.plain = o := by
  unfold lineOp at h
  split at h
  · cases h
  · rename_i said num hm
    split at h
    · cases h
    · rename_i n hn
      split at h
      · cases h
      · split at h
        · cases h
        · rename_i hs
          split at h
          · cases h
          · rename_i q hq
            split at h
            · cases h
            · rename_i he
              cases h
              obtain ⟨h1, h2⟩ := opOf_some hq
              have hsd : said = o.said := by
                unfold OpL.said
                rw [← h1, join_splitC]
              obtain rfl : n = (sumL said : Int) := Decidable.byContradiction hs
              refine ⟨?_, Decidable.byContradiction he, h2⟩
              rw [(markL_some hm).1, ← (numL_some hn).1, hsd]
theorem rd_ok_line {s : List UInt8} {o : OpL} {n : Nat} (h : rdOp s = .ok (o, n)) : (∃ r, s = o.line ++ r) ∧ n = o.line.length ∧ logErr o = 0 ∧ o.plain = o := by
  unfold rdOp at h
  split at h
  · rename_i h10
    obtain ⟨a, r, rfl, ha⟩ := cut_list h10
    rw [cut_hit r ha] at h
    split at h
    · cases h
    · rename_i q hq
      cases h
      obtain ⟨h1, h2, h3⟩ := lineOp_ok hq
      refine ⟨⟨r, ?_⟩, ?_, h2, h3⟩
      · rw [line_eq, ← h1]
        simp
      · rw [line_eq, ← h1]
        simp
  · cases h
theorem rd_size {s : List UInt8} {o : OpL} {n : Nat} (h : rdOp s = .ok (o, n)) : 1 ≤ n ∧ n ≤ s.length := by
  obtain ⟨⟨r, rfl⟩, rfl, _⟩ := rd_ok_line h
  rw [line_eq]
  simp
  omega
theorem rd_error {s : List UInt8} {e : Int} (h : rdOp s = .error e) : e ≠ 0 := by
  unfold rdOp at h
  split at h
  · split at h
    · rename_i q hq
      cases h
      unfold lineOp at hq
      split at hq
      · cases hq; decide
      · split at hq
        · cases hq; decide
        · split at hq
          · cases hq; decide
          · split at hq
            · cases hq; decide
            · split at hq
              · cases hq; decide
              · split at hq
                · cases hq; assumption
                · cases hq
    · cases h
  · cases h
    decide
end Go.Proofs.YtepenlciaanoeaaGreatDoor
namespace Go.Proofs.YtepenlciaanoeaaGreatDoor
open Go.RowKit Go.Sort

theorem mark_unique {a b a' b' : List UInt8} (h : ¬ Mk a) (hb : ¬ Mk (61 :: b)) (e : a ++ 32 :: 61 :: b = a' ++ 32 :: 61 :: b') : a = a' ∧ b = b' := by
  rcases List.append_eq_append_iff.1 e with ⟨sa, h1, h2⟩ | ⟨cs, h1, h2⟩
  · cases sa with
    | nil =>
      simp at h1 h2
      exact ⟨h1.symm, h2⟩
    | cons c sa =>
      exact absurd ⟨sa, b', (List.cons.inj h2).2⟩ hb
  · cases cs with
    | nil =>
      simp at h1 h2
      exact ⟨h1, h2.symm⟩
    | cons c cs =>
      obtain ⟨rfl, h3⟩ := List.cons.inj h2
      cases cs with
      | nil => exact absurd (List.cons.inj h3).1 (by decide)
      | cons d cs =>
        obtain ⟨rfl, h4⟩ := List.cons.inj h3
        exact absurd ⟨a', cs, h1⟩ h
theorem itoa_inj {a b : Int} (h : Lib.itoa a = Lib.itoa b) (ha : -100000000 < a ∧ a < 1000000000) (hb : -100000000 < b ∧ b < 1000000000) : a = b := by
  have h1 := numL_itoa ha.1 ha.2
  rw [h, numL_itoa hb.1 hb.2] at h1
  exact (Option.some.inj h1).symm
theorem num_len {n : Int} (h0 : -100000000 < n) (h1 : n < 100000000) : (Lib.itoa n).length ≤ 10 := itoa_len (k := 8) (by omega)
theorem words_len {o : OpL} (h : logErr o = 0) : (∀ x ∈ o.words, x.length ≤ 532) ∧ o.words.length ≤ 121 := by
  have hw : o.who.ok → ∀ y ∈ o.who.words, y.length ≤ 532 := fun hk y hy => by
    obtain ⟨h1, h2, h3⟩ := hk
    unfold WhoL.words at hy
    simp only [List.mem_cons, List.mem_nil_iff, or_false] at hy
    rcases hy with rfl | rfl | rfl
    · have := num_len (n := o.who.role) (by omega) (by omega); omega
    · have := num_len (n := o.who.why) (by omega) (by omega); omega
    · have := num_len (n := o.who.time) (by omega) (by omega); omega
  have hal : ∀ b, (allowW b).length ≤ 532 := fun b => by cases b <;> decide
  unfold OpL.words
  rcases logErr_ok h with ⟨h1, h2⟩ | ⟨h1, h2, h3⟩ | ⟨h1, h2, h3, h4⟩
  · rw [if_pos h1]
    have hz := rulesErr_zero h2
    constructor
    · intro x hx
      rcases List.mem_cons.1 hx with rfl | hx
      · decide
      · unfold rulesW at hx
        obtain ⟨k, hk, hx⟩ := List.mem_flatMap.1 hx
        obtain ⟨⟨k1, k2, k3, k4, k5⟩, k6⟩ := hz.2 k (List.mem_range.1 hk)
        unfold RuleL.words at hx
        simp only [List.mem_cons, List.mem_nil_iff, or_false] at hx
        rcases hx with rfl | rfl | rfl | rfl | rfl | rfl
        · have := num_len (n := (o.rs k).role) (by omega) (by omega); omega
        · have := num_len (n := (o.rs k).why) (by omega) (by omega); omega
        · have := num_len (n := (o.rs k).frm) (by omega) (by omega); omega
        · have := num_len (n := (o.rs k).til) (by omega) (by omega); omega
        · have := num_len (n := (o.rs k).cats) (by omega) (by omega); omega
        · exact hal _
    · have : ∀ n, (rulesW n o.rs).length = 6 * n := fun n => by
        induction n with
        | zero => rfl
        | succ n ih =>
          unfold rulesW at ih ⊢
          rw [List.range_succ, List.flatMap_append, List.length_append, ih]
          simp [RuleL.words]
          omega
      rw [List.length_cons, this]
      have := hz.1
      omega
  · rw [if_neg (by omega), if_pos h1]
    constructor
    · intro x hx
      rcases List.mem_cons.1 hx with rfl | hx
      · decide
      · rcases List.mem_append.1 hx with hx | hx
        · exact hw h2 x hx
        · rw [List.mem_singleton.1 hx]
          exact text_len ((RecL.err_ok _).1 h3)
    · simp [WhoL.words]
  · rw [if_neg (by omega), if_neg (by omega)]
    constructor
    · intro x hx
      rcases List.mem_cons.1 hx with rfl | hx
      · decide
      · rcases List.mem_append.1 hx with hx | hx
        · exact hw h2 x hx
        · simp only [List.mem_cons, List.mem_nil_iff, or_false] at hx
          rcases hx with rfl | rfl
          · unfold isNm at h4
            simp only [Bool.and_eq_true, decide_eq_true_eq] at h4
            have := Lib.size_eq o.id
            omega
          · have := num_len (n := o.r.cats) (by omega) (by omega); omega
    · simp [WhoL.words]
theorem said_len {o : OpL} (h : logErr o = 0) : o.said.length ≤ 64493 := by
  obtain ⟨h1, h2⟩ := words_len h
  have := join_le (c := 32) h1
  have h3 : o.words.length * (532 + 1) ≤ 121 * 533 := Nat.mul_le_mul h2 (Nat.le_refl _)
  unfold OpL.said
  omega
theorem line_len {o : OpL} (h : logErr o = 0) : o.line.length ≤ 64506 ∧ 9 ≤ o.line.length := by
  have h1 := said_len h
  have h2 := num_len (n := sumL o.said) (by omega) (by have := sumL_lt o.said; omega)
  have h3 : 5 ≤ o.said.length := by
    unfold OpL.said OpL.words
    rcases logErr_ok h with ⟨k1, k2⟩ | ⟨k1, k2, k3⟩ | ⟨k1, k2, k3, k4⟩
    · rw [if_pos k1, Lib.join_cons]
      simp [wRules]
    · rw [if_neg (by omega), if_pos k1]
      show 5 ≤ (Lib.join (wPut :: Lib.itoa o.who.role :: ([Lib.itoa o.who.why, Lib.itoa o.who.time] ++ [o.r.text])) [32]).length
      rw [joinC_cons]
      have := List.length_pos_iff.2 (itoa_ne o.who.role)
      rw [Lib.join_cons]
      simp [wPut]
      omega
    · rw [if_neg (by omega), if_neg (by omega)]
      show 5 ≤ (Lib.join (wCut :: Lib.itoa o.who.role :: ([Lib.itoa o.who.why, Lib.itoa o.who.time] ++ [o.id.data.toList, Lib.itoa o.r.cats])) [32]).length
      rw [joinC_cons]
      have := List.length_pos_iff.2 (itoa_ne o.who.role)
      rw [Lib.join_cons]
      simp [wCut]
      omega
  have h4 := List.length_pos_iff.2 (itoa_ne (sumL o.said : Int))
  unfold OpL.line
  simp only [List.length_append, List.length_cons, List.length_nil]
  omega

/-- one byte that is another one -/
theorem byte_bad {o : OpL} (h : logErr o = 0) {A B : List UInt8} {x y : UInt8} (hl : o.said ++ 32 :: 61 :: Lib.itoa (sumL o.said) = A ++ x :: B) (hne : y ≠ x) : ∃ e, rdOp (A ++ y :: B ++ [10]) = .error e := by
  have hlt := sumL_lt o.said
  have h10 := line_no10 h
  rw [hl] at h10
  have hA : 10 ∉ A := fun k => h10 (List.mem_append_left _ k)
  have hB : 10 ∉ B := fun k => h10 (List.mem_append_right _ (List.mem_cons_of_mem _ k))
  have hsm := said_mk h
  obtain ⟨D, hD⟩ : ∃ D, D = Lib.itoa (sumL o.said : Int) := ⟨_, rfl⟩
  rw [← hD] at hl
  have hD32 : 32 ∉ D := by rw [hD]; exact itoa_no (by decide)
  have hD61 : 61 ∉ D := fun k => by
    rw [hD] at k
    have := itoa_bytes _ 61 k
    revert this
    decide
  have hDm : ¬ Mk (61 :: D) := mk_not fun k => by
    rcases List.mem_cons.1 k with k | k
    · exact absurd k (by decide)
    · exact hD32 k
  have key : ∀ X R, 10 ∉ X → (∀ q, lineOp X ≠ .ok q) → ∃ e, rdOp (X ++ 10 :: R) = .error e := fun X R hX hq => by
    unfold rdOp
    rw [if_pos (by simp), cut_hit R hX]
    show ∃ e, (match lineOp X with
      | .error e => (Except.error e : Except Int (OpL × Nat))
      | .ok o => .ok (o, X.length + 1)) = _
    cases hx : lineOp X with
    | error e => exact ⟨e, rfl⟩
    | ok q => exact absurd hx (hq q)
  by_cases hy : y = 10
  · subst hy
    have e : A ++ 10 :: B ++ [10] = A ++ 10 :: (B ++ [10]) := by simp
    rw [e]
    refine key A _ hA fun q hq => ?_
    obtain ⟨h1, h2, h3⟩ := lineOp_ok hq
    have e2 : o.said ++ 32 :: 61 :: D = q.said ++ 32 :: 61 :: (Lib.itoa (sumL q.said) ++ x :: B) := by
      rw [hl, h1]
      simp
    obtain ⟨e3, e4⟩ := mark_unique hsm hDm e2
    rw [hD, e3] at e4
    have := congrArg List.length e4
    simp at this
  · have e : A ++ y :: B ++ [10] = (A ++ y :: B) ++ 10 :: [] := by simp
    rw [e]
    refine key (A ++ y :: B) _ (fun k => ?_) fun q hq => ?_
    · rcases List.mem_append.1 k with k | k
      · exact hA k
      · rcases List.mem_cons.1 k with k | k
        · exact hy k.symm
        · exact hB k
    obtain ⟨h1, h2, h3⟩ := lineOp_ok hq
    have hqm : Mk (A ++ y :: B) := ⟨_, _, h1⟩
    obtain ⟨N, hN⟩ : ∃ N, N = Lib.itoa (sumL q.said : Int) := ⟨_, rfl⟩
    rw [← hN] at h1
    have hN32 : 32 ∉ N := by rw [hN]; exact itoa_no (by decide)
    have hNm : ¬ Mk (61 :: N) := mk_not fun k => by
      rcases List.mem_cons.1 k with k | k
      · exact absurd k (by decide)
      · exact hN32 k
    have step : ∀ cs, o.said = A ++ cs → x :: B = cs ++ 32 :: 61 :: D → cs ≠ [] → False := fun cs e1 e2 hc => by
      obtain ⟨c, cs, rfl⟩ := List.exists_cons_of_ne_nil hc
      obtain ⟨rfl, rfl⟩ := List.cons.inj e2
      have e3 : q.said ++ 32 :: 61 :: N = (A ++ y :: cs) ++ 32 :: 61 :: D := by
        rw [← h1]
        simp
      obtain ⟨e4, e5⟩ := mark_unique (said_mk h2) hNm e3
      have hlq := sumL_lt q.said
      have e6 : (sumL q.said : Int) = (sumL o.said : Int) := itoa_inj (by rw [← hN, ← hD, e5]) (by omega) (by omega)
      have e7 : sumL q.said = sumL o.said := by omega
      have hsl := said_len h
      rw [e1, List.length_append, List.length_cons] at hsl
      refine sum_byte (a := A) (r := cs) hne (by omega) ?_
      rw [← e4, e7, e1]
    rcases List.append_eq_append_iff.1 hl with ⟨sa, e1, e2⟩ | ⟨cs, e1, e2⟩
    · -- A = said ++ sa
      cases sa with
      | nil =>
        obtain ⟨rfl, rfl⟩ := List.cons.inj e2
        rw [List.append_nil] at e1
        subst e1
        refine said_mk_to h (e := y :: 61 :: D) (fun k => ?_) hqm
        rcases List.mem_cons.1 k with k | k
        · exact hne k.symm
        · rcases List.mem_cons.1 k with k | k
          · exact absurd k (by decide)
          · exact hD32 k
      | cons c sa =>
        obtain ⟨rfl, e3⟩ := List.cons.inj e2
        cases sa with
        | nil =>
          obtain ⟨rfl, rfl⟩ := List.cons.inj e3
          subst e1
          by_cases hy32 : y = 32
          · subst hy32
            refine said_mk_word h (ws := [[], D]) (fun z hz => ?_) (by simp) ?_
            · simp only [List.mem_cons, List.mem_nil_iff, or_false] at hz
              rcases hz with rfl | rfl
              · exact ⟨by simp, by simp⟩
              · exact ⟨hD32, fun k => hD61 (List.mem_of_mem_head? (by rw [k]; exact rfl))⟩
            · rw [joinC_cons, Lib.join_one]
              have : o.said ++ [32] ++ 32 :: D = o.said ++ 32 :: ([] ++ 32 :: D) := by simp
              rw [← this]
              exact hqm
          · refine said_mk_word h (ws := [y :: D]) (fun z hz => ?_) (by simp) ?_
            · rw [List.mem_singleton.1 hz]
              refine ⟨fun k => ?_, fun k => hne (Option.some.inj k)⟩
              rcases List.mem_cons.1 k with k | k
              · exact hy32 k.symm
              · exact hD32 k
            · rw [Lib.join_one]
              have : o.said ++ [32] ++ y :: D = o.said ++ 32 :: y :: D := by simp
              rw [← this]
              exact hqm
        | cons d sa =>
          obtain ⟨rfl, e4⟩ := List.cons.inj e3
          subst e1
          have ha32 : 32 ∉ sa := fun k => hD32 (by rw [e4]; exact List.mem_append_left _ k)
          have hb32 : 32 ∉ B := fun k => hD32 (by rw [e4]; exact List.mem_append_right _ (List.mem_cons_of_mem _ k))
          have hb61 : 61 ∉ B := fun k => hD61 (by rw [e4]; exact List.mem_append_right _ (List.mem_cons_of_mem _ k))
          have hm : ¬ Mk (61 :: (sa ++ y :: B)) := fun k => by
            have k2 : Mk ((61 :: sa) ++ y :: B) := k
            rcases mk_cons (mk_skip (x := 61 :: sa) (fun k => by
              rcases List.mem_cons.1 k with k | k
              · exact absurd k (by decide)
              · exact ha32 k) k2) with k3 | ⟨_, t, k3⟩
            · exact mk_not hb32 k3
            · exact hb61 (by rw [k3]; simp)
          have e5 : o.said ++ 32 :: 61 :: (sa ++ y :: B) = q.said ++ 32 :: 61 :: N := by
            rw [← h1]
            simp
          obtain ⟨e6, e7⟩ := mark_unique hsm hm e5
          rw [hN, ← e6, ← hD, e4] at e7
          exact hne (List.cons.inj (List.append_cancel_left e7)).1
    · cases cs with
      | nil =>
        obtain ⟨rfl, rfl⟩ := List.cons.inj e2
        rw [List.append_nil] at e1
        subst e1
        refine said_mk_to h (e := y :: 61 :: D) (fun k => ?_) hqm
        rcases List.mem_cons.1 k with k | k
        · exact hne k.symm
        · rcases List.mem_cons.1 k with k | k
          · exact absurd k (by decide)
          · exact hD32 k
      | cons c cs => exact step (c :: cs) e1 e2 (by simp)

/-! ## logs -/
theorem AllTo.det {s : List UInt8} {x y : Except Int (List OpL × Nat)} (h : AllTo s x) (h2 : AllTo s y) : x = y := by
  induction h generalizing y with
  | stop h =>
    cases h2 with
    | stop _ => rfl
    | bad h3 h4 =>
      rw [h] at h3
      cases h3
      exact absurd rfl h4
    | more h3 _ =>
      rw [h] at h3
      cases h3
  | bad h hn =>
    cases h2 with
    | stop h3 =>
      rw [h] at h3
      cases h3
      exact absurd rfl hn
    | bad h3 _ =>
      rw [h] at h3
      cases h3
      rfl
    | more h3 _ =>
      rw [h] at h3
      cases h3
  | more h _ ih =>
    cases h2 with
    | stop h3 =>
      rw [h] at h3
      cases h3
    | bad h3 _ =>
      rw [h] at h3
      cases h3
    | more h3 h4 =>
      rw [h] at h3
      cases h3
      rw [ih h4]
theorem AllTo.ex (s : List UInt8) : ∃ x, AllTo s x := by
  induction hn : s.length using Nat.strongRecOn generalizing s with
  | ind n ih =>
    cases h : rdOp s with
    | error e =>
      by_cases h7 : e = 7
      · subst h7
        exact ⟨_, .stop h⟩
      · exact ⟨_, .bad h h7⟩
    | ok p =>
      obtain ⟨h1, h2⟩ := rd_size (o := p.1) (n := p.2) h
      obtain ⟨x, hx⟩ := ih (s.drop p.2).length (by rw [List.length_drop]; omega) (s.drop p.2) rfl
      exact ⟨_, .more (o := p.1) (n := p.2) h hx⟩
theorem preL_preL (l m : List OpL) (n k : Nat) (x : Except Int (List OpL × Nat)) : preL l n (preL m k x) = preL (l ++ m) (n + k) x := by
  cases x with
  | error e => rfl
  | ok p =>
    show Except.ok (l ++ (m ++ p.1), n + (k + p.2)) = Except.ok (l ++ m ++ p.1, n + k + p.2)
    rw [List.append_assoc, Nat.add_assoc]
theorem preL_nil (x : Except Int (List OpL × Nat)) : preL [] 0 x = x := by
  cases x with
  | error e => rfl
  | ok p =>
    show Except.ok ([] ++ p.1, 0 + p.2) = _
    rw [List.nil_append, Nat.zero_add]
def logText (l : List OpL) : List UInt8 := l.flatMap OpL.line
theorem logText_cons (o : OpL) (l : List OpL) : logText (o :: l) = o.line ++ logText l := by
  unfold logText
  rw [List.flatMap_cons]
theorem logText_append (l m : List OpL) : logText (l ++ m) = logText l ++ logText m := by
  unfold logText
  rw [List.flatMap_append]
theorem all_lines {t : List UInt8} {x : Except Int (List OpL × Nat)} : ∀ {l : List OpL}, (∀ o ∈ l, logErr o = 0) → AllTo t x → AllTo (logText l ++ t) (preL (l.map OpL.plain) (logText l).length x)
  | [], _, h => by
    show AllTo ([] ++ t) (preL [] 0 x)
    rw [preL_nil]
    exact h
  | o :: l, ho, h => by
    have ih := all_lines (l := l) (fun q hq => ho q (List.mem_cons_of_mem _ hq)) h
    have h1 := rd_line (ho o (by simp)) (logText l ++ t)
    rw [logText_cons, List.append_assoc]
    have h2 := AllTo.more h1 (x := preL (l.map OpL.plain) (logText l).length x) (by rw [List.drop_left]; exact ih)
    rw [preL_preL] at h2
    rw [List.length_append]
    exact h2
theorem all_end {t : List UInt8} (h : 10 ∉ t) : AllTo t (.ok ([], 0)) := .stop (by unfold rdOp; rw [if_neg h])
theorem all_log {l : List OpL} (h : ∀ o ∈ l, logErr o = 0) : AllTo (logText l) (.ok (l.map OpL.plain, (logText l).length)) := by
  have := all_lines h (all_end (t := []) (by simp))
  rw [List.append_nil] at this
  show AllTo _ _
  have e : preL (l.map OpL.plain) (logText l).length (.ok ([], 0)) = .ok (l.map OpL.plain, (logText l).length) := by
    show Except.ok (l.map OpL.plain ++ [], (logText l).length + 0) = _
    rw [List.append_nil, Nat.add_zero]
  rw [e] at this
  exact this
/-- a log that is cut off -/
theorem log_cut : ∀ {l : List OpL} (c : Nat), (∀ o ∈ l, logErr o = 0) → c ≤ (logText l).length → ∃ m t, m ≤ l.length ∧ (logText l).take c = logText (l.take m) ++ t ∧ 10 ∉ t
  | [], c, _, _ => ⟨0, [], Nat.le_refl _, by simp [logText], by simp⟩
  | o :: l, c, h, hc => by
    by_cases hl : o.line.length ≤ c
    · obtain ⟨m, t, h1, h2, h3⟩ := log_cut (l := l) (c - o.line.length) (fun q hq => h q (List.mem_cons_of_mem _ hq)) (by rw [logText_cons, List.length_append] at hc; omega)
      refine ⟨m + 1, t, by simpa using h1, ?_, h3⟩
      rw [logText_cons, List.take_append, List.take_of_length_le hl, h2, List.take_succ_cons, logText_cons, List.append_assoc]
    · refine ⟨0, o.line.take c, Nat.zero_le _, ?_, fun k => ?_⟩
      · rw [logText_cons, List.take_append, show c - o.line.length = 0 by omega]
        simp [logText]
      · rw [line_eq] at k hl
        rw [List.take_append_of_le_length (by simp at hl ⊢; omega)] at k
        exact line_no10 (h o (by simp)) (List.mem_of_mem_take k)
theorem line_count {o : OpL} (h : logErr o = 0) : o.line.count 10 = 1 := by
  rw [line_eq, List.count_append, List.count_eq_zero.2 (line_no10 h)]
  rfl
theorem log_count : ∀ {l : List OpL}, (∀ o ∈ l, logErr o = 0) → (logText l).count 10 = l.length
  | [], _ => rfl
  | o :: l, h => by
    rw [logText_cons, List.count_append, line_count (h o (by simp)), log_count fun q hq => h q (List.mem_cons_of_mem _ hq)]
    simp
    omega
end Go.Proofs.YtepenlciaanoeaaGreatDoor
