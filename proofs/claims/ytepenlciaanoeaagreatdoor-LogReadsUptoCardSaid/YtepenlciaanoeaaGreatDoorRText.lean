/- Records as texts, without the program: pieces between separators, numbers, fields, what Write and Read compute. -/
import Derived.Test.YtepenlciaanoeaaGreatDoorRMath
import Derived.Lib.SplitLaws
import Derived.Lib.CutLaws
import Derived.Lib.Join
import Derived.Lib.ItoaNum
import Derived.Lib.AtoiAll
import Derived.Lib.AtoiAllCases
set_option maxRecDepth 100000
namespace Go.Proofs.YtepenlciaanoeaaGreatDoor

def bs (l : List UInt8) : ByteArray := ⟨l.toArray⟩
theorem bs_data (s : ByteArray) : bs s.data.toList = s := by simp [bs]
theorem data_bs (l : List UInt8) : (bs l).data.toList = l := by simp [bs]
theorem data_inj {a b : ByteArray} (h : a.data.toList = b.data.toList) : a = b := by rw [← bs_data a, ← bs_data b, h]
theorem bs_inj {a b : List UInt8} (h : bs a = bs b) : a = b := by rw [← data_bs a, ← data_bs b, h]

/-! ## the pieces between each c -/

def splitC (c : UInt8) : List UInt8 → List (List UInt8)
  | [] => [[]]
  | b :: r => if b = c then [] :: splitC c r else
    match splitC c r with
    | [] => [[b]]
    | x :: xs => (b :: x) :: xs
theorem splitC_ne (c : UInt8) : ∀ l, splitC c l ≠ []
  | [] => by simp [splitC]
  | b :: r => by
    unfold splitC
    split
    · simp
    · split <;> simp
theorem splitC_none {c : UInt8} : ∀ {l : List UInt8}, c ∉ l → splitC c l = [l]
  | [], _ => rfl
  | b :: r, h => by
    have h1 : b ≠ c := fun e => h (by rw [e]; exact List.mem_cons_self ..)
    have h2 : c ∉ r := fun k => h (List.mem_cons_of_mem _ k)
    unfold splitC
    rw [if_neg h1, splitC_none h2]
theorem splitC_at {c : UInt8} : ∀ {a : List UInt8} (r : List UInt8), c ∉ a → splitC c (a ++ c :: r) = a :: splitC c r
  | [], r, _ => by
    show splitC c (c :: r) = _
    rw [splitC, if_pos rfl]
  | b :: a, r, h => by
    have h1 : b ≠ c := fun e => h (by rw [e]; exact List.mem_cons_self ..)
    have h2 : c ∉ a := fun k => h (List.mem_cons_of_mem _ k)
    show splitC c (b :: (a ++ c :: r)) = _
    rw [splitC, if_neg h1, splitC_at r h2]
theorem joinC_cons (c : UInt8) (x y : List UInt8) (r : List (List UInt8)) : Lib.join (x :: y :: r) [c] = x ++ c :: Lib.join (y :: r) [c] := by
  rw [Lib.join_cons, Lib.join_cons, Lib.joinTail]
  simp [Lib.joinTail]
theorem join_splitC (c : UInt8) : ∀ l, Lib.join (splitC c l) [c] = l
  | [] => by rw [splitC, Lib.join_one]
  | b :: r => by
    have ih := join_splitC c r
    unfold splitC
    by_cases h : b = c
    · rw [if_pos h]
      cases hs : splitC c r with
      | nil => exact absurd hs (splitC_ne c r)
      | cons x xs =>
        rw [hs] at ih
        rw [joinC_cons, ih, h]
        rfl
    · rw [if_neg h]
      cases hs : splitC c r with
      | nil => exact absurd hs (splitC_ne c r)
      | cons x xs =>
        rw [hs] at ih
        show Lib.join ((b :: x) :: xs) [c] = _
        cases xs with
        | nil =>
          rw [Lib.join_one] at ih ⊢
          rw [ih]
        | cons y ys =>
          rw [joinC_cons] at ih ⊢
          rw [List.cons_append, ih]
theorem splitC_join {c : UInt8} : ∀ {xs : List (List UInt8)}, xs ≠ [] → (∀ x ∈ xs, c ∉ x) → splitC c (Lib.join xs [c]) = xs
  | [], h, _ => absurd rfl h
  | [x], _, h => by rw [Lib.join_one, splitC_none (h x (by simp))]
  | x :: y :: r, _, h => by
    rw [joinC_cons, splitC_at _ (h x (by simp)), splitC_join (by simp) (fun z hz => h z (List.mem_cons_of_mem _ hz))]
theorem splitC_length (c : UInt8) : ∀ l, (splitC c l).length = l.count c + 1
  | [] => rfl
  | b :: r => by
    have ih := splitC_length c r
    unfold splitC
    by_cases h : b = c
    · rw [if_pos h, h, List.count_cons_self, List.length_cons, ih]
    · rw [if_neg h, List.count_cons_of_ne h]
      cases hs : splitC c r with
      | nil => exact absurd hs (splitC_ne c r)
      | cons x xs =>
        rw [hs] at ih
        exact ih
theorem cut_list {c : UInt8} : ∀ {l : List UInt8}, c ∈ l → ∃ a r, l = a ++ c :: r ∧ c ∉ a
  | [], h => by cases h
  | b :: l, h => by
    by_cases e : b = c
    · exact ⟨[], l, by rw [e]; rfl, by simp⟩
    · rcases List.mem_cons.1 h with h | h
      · exact absurd h.symm e
      · obtain ⟨a, r, rfl, hn⟩ := cut_list h
        refine ⟨b :: a, r, rfl, fun k => ?_⟩
        rcases List.mem_cons.1 k with k | k
        · exact e k.symm
        · exact hn k

theorem index_none1 {c : UInt8} : ∀ {l : List UInt8}, c ∉ l → Lib.index l [c] = -1
  | [], _ => rfl
  | b :: l, h => by
    have h1 : ¬ c = b := fun e => h (by rw [e]; exact List.mem_cons_self ..)
    have ih := index_none1 (l := l) (fun k => h (List.mem_cons_of_mem _ k))
    unfold Lib.index
    rw [if_neg (by simp [List.isPrefixOf, h1]), ih]
    rfl
theorem index_at1 {c : UInt8} : ∀ {a : List UInt8} (r : List UInt8), c ∉ a → Lib.index (a ++ c :: r) [c] = a.length
  | [], r, _ => by
    show Lib.index (c :: r) [c] = 0
    unfold Lib.index
    rw [if_pos (by simp [List.isPrefixOf])]
  | b :: a, r, h => by
    have h1 : ¬ c = b := fun e => h (by rw [e]; exact List.mem_cons_self ..)
    have ih := index_at1 (a := a) r (fun k => h (List.mem_cons_of_mem _ k))
    show Lib.index (b :: (a ++ c :: r)) [c] = _
    unfold Lib.index
    rw [if_neg (by simp [List.isPrefixOf, h1]), ih]
    have h3 : ((a.length : Int) == -1) = false := by rw [beq_eq_false_iff_ne]; omega
    rw [h3]
    simp
theorem cut_miss {c : UInt8} {l : List UInt8} (h : c ∉ l) : Lib.cut l [c] = (l, [], false) := by
  unfold Lib.cut
  rw [index_none1 h, if_neg (by omega)]
theorem cut_hit {c : UInt8} {a : List UInt8} (r : List UInt8) (h : c ∉ a) : Lib.cut (a ++ c :: r) [c] = (a, r, true) := by
  unfold Lib.cut
  rw [index_at1 r h, if_pos (by omega)]
  simp
theorem splitK_eq (c : UInt8) : ∀ (k : Nat) (l : List UInt8), l.count c = k → Lib.splitK [c] 0 k l = splitC c l
  | 0, l, h => by
    rw [splitC_none (List.count_eq_zero.1 h)]
    rfl
  | k + 1, l, h => by
    obtain ⟨a, r, rfl, hn⟩ := cut_list (c := c) (l := l) (List.count_pos_iff.1 (by omega))
    have hr : r.count c = k := by
      rw [List.count_append, List.count_cons_self, List.count_eq_zero.2 hn] at h
      omega
    unfold Lib.splitK
    rw [index_at1 r hn, if_neg (by rw [beq_iff_eq]; omega), splitC_at r hn]
    have e1 : ((a.length : Int).toNat + 0) = a.length := by omega
    have e2 : (a ++ c :: r).take a.length = a := by simp
    have e3 : (a ++ c :: r).drop ((a.length : Int).toNat + [c].length) = r := by
      have : ((a.length : Int).toNat + [c].length) = a.length + 1 := by simp
      rw [this, ← List.drop_drop, List.drop_left]
      rfl
    rw [e1, e2, e3, splitK_eq c k r hr]
/-- what strings.Split lays -/
theorem splitB_eq (c : UInt8) (s : ByteArray) : Lib.splitB ⟨#[c]⟩ 0 (Lib.countB s ⟨#[c]⟩) s = (splitC c s.data.toList).map bs := by
  have h1 := Lib.splitB_data ⟨#[c]⟩ 0 (Lib.countB s ⟨#[c]⟩) s
  have h2 : Lib.countB s ⟨#[c]⟩ = s.data.toList.count c := Lib.count_one c s.data.toList
  rw [splitK_eq c _ _ h2.symm] at h1
  have h3 := congrArg (List.map bs) h1
  rw [List.map_map] at h3
  have h4 : (bs ∘ fun x : ByteArray => x.data.toList) = id := funext fun x => bs_data x
  rw [h4, List.map_id] at h3
  exact h3
theorem countB_eq (c : UInt8) (s : ByteArray) : Lib.countB s ⟨#[c]⟩ + 1 = (splitC c s.data.toList).length := by
  rw [splitC_length]
  show Lib.count s.data.toList [c] + 1 = _
  rw [Lib.count_one]

/-- no piece where nothing stands -/
def piecesC (c : UInt8) (l : List UInt8) : List (List UInt8) := if l = [] then [] else splitC c l
theorem join_pieces (c : UInt8) (l : List UInt8) : Lib.join (piecesC c l) [c] = l := by
  unfold piecesC
  split
  · rename_i h
    rw [h]
    rfl
  · exact join_splitC c l
theorem join_ne {c : UInt8} : ∀ {xs : List (List UInt8)}, (∀ x ∈ xs, x ≠ []) → xs ≠ [] → Lib.join xs [c] ≠ []
  | [], _, h => absurd rfl h
  | [x], h, _ => by
    rw [Lib.join_one]
    exact h x (by simp)
  | x :: y :: r, h, _ => by
    rw [joinC_cons]
    simp
theorem pieces_join {c : UInt8} {xs : List (List UInt8)} (h1 : ∀ x ∈ xs, x ≠ []) (h2 : ∀ x ∈ xs, c ∉ x) : piecesC c (Lib.join xs [c]) = xs := by
  cases xs with
  | nil => rfl
  | cons x r =>
    unfold piecesC
    rw [if_neg (join_ne h1 (by simp)), splitC_join (by simp) h2]
theorem mem_join {c b : UInt8} : ∀ {xs : List (List UInt8)}, b ∈ Lib.join xs [c] → b = c ∨ ∃ x ∈ xs, b ∈ x
  | [], h => by cases h
  | [x], h => by
    rw [Lib.join_one] at h
    exact .inr ⟨x, by simp, h⟩
  | x :: y :: r, h => by
    rw [joinC_cons] at h
    rcases List.mem_append.1 h with h | h
    · exact .inr ⟨x, by simp, h⟩
    · rcases List.mem_cons.1 h with h | h
      · exact .inl h
      · rcases mem_join h with h | ⟨z, hz, h⟩
        · exact .inl h
        · exact .inr ⟨z, List.mem_cons_of_mem _ hz, h⟩

/-! ## numbers -/

/-- the number that l is written for -/
def numL (l : List UInt8) : Option Int :=
  if l.length ≤ 9 then
    match Lib.atoiAll l with
    | .ok n => if Lib.itoa n = l then some n else none
    | _ => none
  else none
theorem numL_some {l : List UInt8} {n : Int} (h : numL l = some n) : Lib.itoa n = l ∧ l.length ≤ 9 ∧ Lib.atoiAll l = .ok n := by
  unfold numL at h
  split at h
  · rename_i hl
    split at h
    · rename_i m hm
      split at h
      · rename_i he
        cases h
        exact ⟨he, hl, hm⟩
      · cases h
    · cases h
  · cases h

theorem dig_nat {d : Nat} (h : d < 10) : (UInt8.ofNat (48 + d)).toNat = 48 + d := by
  simp
  omega
theorem parse_dig {d acc : Nat} (r : List UInt8) (h : d < 10) (ha : acc < 1000) : Lib.parseUint10 acc (UInt8.ofNat (48 + d) :: r) = Lib.parseUint10 (acc * 10 + d) r := by
  rw [Lib.parseUint10, dig_nat h, if_pos (by omega), if_neg (by omega), if_neg (by omega)]
  congr 1
  omega
/-- the digits of a small number -/
theorem digits_small {u : Nat} (h : u < 1000) : ∃ ds : List UInt8, Lib.decDigits u = ds ∧ ds ≠ [] ∧ ds.length ≤ 3 ∧ (∀ b ∈ ds, 48 ≤ b.toNat ∧ b.toNat ≤ 57) ∧ Lib.parseUint10 0 ds = .ok u := by
  by_cases h1 : u < 10
  · refine ⟨_, Lib.decDigits_one h1, by simp, by simp, fun b hb => ?_, ?_⟩
    · rw [List.mem_singleton.1 hb, dig_nat h1]
      omega
    · rw [parse_dig _ h1 (by omega), Lib.parseUint10]
      simp
  · by_cases h2 : u < 100
    · refine ⟨_, Lib.decDigits_two h1 h2, by simp, by simp, fun b hb => ?_, ?_⟩
      · rcases List.mem_cons.1 hb with rfl | hb
        · rw [dig_nat (by omega)]
          omega
        · rw [List.mem_singleton.1 hb, dig_nat (by omega)]
          omega
      · rw [parse_dig _ (by omega) (by omega), parse_dig _ (by omega) (by omega), Lib.parseUint10]
        congr 1
        omega
    · have e : Lib.decDigits u = [UInt8.ofNat (48 + u / 10 / 10), UInt8.ofNat (48 + u / 10 % 10)] ++ [UInt8.ofNat (48 + u % 10)] := by
        rw [Lib.decDigits, dif_neg h1, Lib.decDigits_two (by omega) (by omega)]
      refine ⟨_, e, by simp, by simp, fun b hb => ?_, ?_⟩
      · simp only [List.cons_append, List.nil_append, List.mem_cons, List.mem_nil_iff, or_false] at hb
        rcases hb with rfl | rfl | rfl
        · rw [dig_nat (by omega)]
          omega
        · rw [dig_nat (by omega)]
          omega
        · rw [dig_nat (by omega)]
          omega
      · show Lib.parseUint10 0 (UInt8.ofNat (48 + u / 10 / 10) :: UInt8.ofNat (48 + u / 10 % 10) :: UInt8.ofNat (48 + u % 10) :: []) = _
        rw [parse_dig _ (by omega) (by omega), parse_dig _ (by omega) (by omega), parse_dig _ (by omega) (by omega), Lib.parseUint10]
        congr 1
        omega
theorem itoa_cats {n : Int} (h0 : 0 ≤ n) (h1 : n ≤ 255) : numL (Lib.itoa n) = some n ∧ (∀ b ∈ Lib.itoa n, 48 ≤ b.toNat ∧ b.toNat ≤ 57) ∧ (Lib.itoa n).length ≤ 3 := by
  obtain ⟨u, rfl⟩ : ∃ u : Nat, n = u := ⟨n.toNat, by omega⟩
  obtain ⟨ds, he, hne, hl, hb, hp⟩ := digits_small (u := u) (by omega)
  have hi : Lib.itoa (u : Int) = ds := by
    unfold Lib.itoa
    rw [if_neg (by omega)]
    exact he
  rw [hi]
  refine ⟨?_, hb, hl⟩
  unfold numL
  rw [if_pos (by omega)]
  have ha : Lib.atoiAll ds = .ok (u : Int) := by
    cases ds with
    | nil => exact absurd rfl hne
    | cons c r =>
      have hc := hb c (by simp)
      have e1 : ¬ (c.toNat = 43 ∨ c.toNat = 45) := by omega
      have e2 : ¬ c.toNat = 45 := by omega
      have hm : Lib.parseMag (c :: r) = .ok u := by
        unfold Lib.parseMag
        rw [if_neg (by simp)]
        exact hp
      rw [Lib.atoiAll_plain c r (fun k => e1 (.inl k)) e2, hm]
      show (if 9223372036854775808 ≤ u then _ else _) = _
      rw [if_neg (by omega)]
  rw [ha]
  show (if Lib.itoa (u : Int) = ds then some (u : Int) else none) = _
  rw [if_pos hi]

/-! ## fields -/

def fieldText (f : FieldL) : List UInt8 := f.key.data.toList ++ 61 :: f.val.data.toList
/-- the fields that pieces say -/
def fieldsL : List (List UInt8) → Option (List FieldL)
  | [] => some []
  | x :: r =>
    match Lib.cut x [61] with
    | (k, v, true) => (fieldsL r).map (⟨bs k, bs v⟩ :: ·)
    | _ => none
theorem fieldsL_cons (x : List UInt8) (r : List (List UInt8)) (h : (Lib.cut x [61]).2.2 = true) : fieldsL (x :: r) = (fieldsL r).map (⟨bs (Lib.cut x [61]).1, bs (Lib.cut x [61]).2.1⟩ :: ·) := by
  rw [fieldsL]
  split
  · rename_i k v e
    rw [e]
  · rename_i hne
    exact (hne _ _ (Prod.ext rfl (Prod.ext rfl h))).elim
theorem fieldsL_none (x : List UInt8) (r : List (List UInt8)) (h : (Lib.cut x [61]).2.2 = false) : fieldsL (x :: r) = none := by
  rw [fieldsL]
  split
  · rename_i k v e
    rw [e] at h
    cases h
  · rfl
theorem cut_back {x : List UInt8} (h : (Lib.cut x [61]).2.2 = true) : (Lib.cut x [61]).1 ++ 61 :: (Lib.cut x [61]).2.1 = x := by
  by_cases hm : 61 ∈ x
  · obtain ⟨a, r, rfl, hn⟩ := cut_list hm
    rw [cut_hit r hn]
  · rw [cut_miss hm] at h
    cases h
theorem fieldsL_text : ∀ {fs : List FieldL}, (∀ f ∈ fs, 61 ∉ f.key.data.toList) → fieldsL (fs.map fieldText) = some fs
  | [], _ => rfl
  | f :: r, h => by
    have h1 := cut_hit f.val.data.toList (h f (by simp))
    have h2 : Lib.cut (fieldText f) [61] = (f.key.data.toList, f.val.data.toList, true) := h1
    rw [List.map_cons, fieldsL_cons _ _ (by rw [h2]), h2, fieldsL_text fun g hg => h g (List.mem_cons_of_mem _ hg)]
    show some (⟨bs f.key.data.toList, bs f.val.data.toList⟩ :: r) = _
    rw [bs_data, bs_data]
theorem text_fieldsL : ∀ {l : List (List UInt8)} {fs : List FieldL}, fieldsL l = some fs → fs.map fieldText = l
  | [], fs, h => by
    cases h
    rfl
  | x :: r, fs, h => by
    cases hc : (Lib.cut x [61]).2.2 with
    | false =>
      rw [fieldsL_none x r hc] at h
      cases h
    | true =>
      rw [fieldsL_cons x r hc] at h
      obtain ⟨gs, hg, rfl⟩ := Option.map_eq_some_iff.1 h
      rw [List.map_cons, text_fieldsL hg]
      congr 1
      show (bs _).data.toList ++ 61 :: (bs _).data.toList = x
      rw [data_bs, data_bs]
      exact cut_back hc

/-! ## records -/

/-- P19 -/
def RecL.text (r : RecL) : List UInt8 := Lib.join [r.id.data.toList, Lib.itoa r.cats, Lib.join (r.fs.map fieldText) [44], Lib.join (r.rs.map (fun s : ByteArray => s.data.toList)) [44]] [59]

/-- what Read's text says, where it can be read -/
def recL (l : List UInt8) : Option RecL :=
  match splitC 59 l with
  | [a, b, c, d] =>
    match numL b, fieldsL (piecesC 44 c) with
    | some n, some fs => some ⟨bs a, n, fs, (piecesC 44 d).map bs⟩
    | _, _ => none
  | _ => none
/-- P20 -/
noncomputable def rdErr (l : List UInt8) : Int :=
  match recL l with
  | some r => r.err
  | none => 10
noncomputable def rdRec (l : List UInt8) : RecL :=
  match recL l with
  | some r => if r.err = 0 then r else RecL.zero
  | none => RecL.zero

theorem nm_bytes {s : ByteArray} (h : isNm s = true) : ∀ b ∈ s.data.toList, 48 ≤ b.toNat ∧ b.toNat ≠ 59 ∧ b.toNat ≠ 61 := fun b hb => by
  unfold isNm at h
  simp only [Bool.and_eq_true, List.all_eq_true] at h
  have := h.2 b hb
  unfold nmB at this
  simp only [Bool.or_eq_true, Bool.and_eq_true, decide_eq_true_eq] at this
  omega
theorem nm_ne {s : ByteArray} (h : isNm s = true) : s.data.toList ≠ [] := fun e => by
  unfold isNm at h
  simp only [Bool.and_eq_true, decide_eq_true_eq] at h
  have := Lib.size_eq s
  rw [e, List.length_nil] at this
  omega
theorem vl_bytes {s : ByteArray} (h : isVl s = true) : ∀ b ∈ s.data.toList, b.toNat ≠ 44 ∧ b.toNat ≠ 59 ∧ b.toNat ≠ 61 := fun b hb => by
  unfold isVl at h
  simp only [Bool.and_eq_true, List.all_eq_true] at h
  have := h.2 b hb
  unfold vlB at this
  simp only [Bool.and_eq_true, decide_eq_true_eq, Bool.not_eq_true', decide_eq_false_iff_not] at this
  exact ⟨this.1.1.2, this.1.2, this.2⟩
theorem not_mem_of {c : UInt8} {l : List UInt8} (h : ∀ b ∈ l, b.toNat ≠ c.toNat) : c ∉ l := fun k => h c k rfl

theorem fields_bytes {r : RecL} (h : r.Ok) {f : FieldL} (hf : f ∈ r.fs) : isNm f.key = true ∧ isVl f.val = true := by
  obtain ⟨k, hk⟩ := List.getElem?_of_mem hf
  have h1 := (h.fs k f (List.getElem?_eq_some_iff.1 hk).1 hk).1
  unfold isFd at h1
  rw [Bool.and_eq_true] at h1
  exact h1
theorem refs_bytes {r : RecL} (h : r.Ok) {s : ByteArray} (hs : s ∈ r.rs) : isNm s = true := by
  obtain ⟨k, hk⟩ := List.getElem?_of_mem hs
  exact (h.rs k s (List.getElem?_eq_some_iff.1 hk).1 hk).1
theorem fieldText_bytes {r : RecL} (h : r.Ok) {f : FieldL} (hf : f ∈ r.fs) : ∀ b ∈ fieldText f, b.toNat ≠ 44 ∧ b.toNat ≠ 59 := fun b hb => by
  obtain ⟨h1, h2⟩ := fields_bytes h hf
  rcases List.mem_append.1 hb with hb | hb
  · have := nm_bytes h1 b hb
    omega
  · rcases List.mem_cons.1 hb with rfl | hb
    · decide
    · have := vl_bytes h2 b hb
      omega

/-- what was written is read as it was -/
theorem recL_text {r : RecL} (h : r.Ok) : recL r.text = some r := by
  obtain ⟨c1, c2, _⟩ := itoa_cats h.c0 h.c1
  have hs : splitC 59 r.text = [r.id.data.toList, Lib.itoa r.cats, Lib.join (r.fs.map fieldText) [44], Lib.join (r.rs.map (fun s : ByteArray => s.data.toList)) [44]] := by
    unfold RecL.text
    refine splitC_join (by simp) fun x hx => ?_
    simp only [List.mem_cons, List.mem_nil_iff, or_false] at hx
    rcases hx with rfl | rfl | rfl | rfl
    · exact not_mem_of fun b hb => (nm_bytes h.id b hb).2.1
    · exact not_mem_of fun b hb => by
        have := c2 b hb
        show b.toNat ≠ 59
        omega
    · exact not_mem_of fun b hb => by
        rcases mem_join hb with rfl | ⟨x, hx, hb⟩
        · decide
        · obtain ⟨f, hf, rfl⟩ := List.mem_map.1 hx
          exact (fieldText_bytes h hf b hb).2
    · exact not_mem_of fun b hb => by
        rcases mem_join hb with rfl | ⟨x, hx, hb⟩
        · decide
        · obtain ⟨s, hs, rfl⟩ := List.mem_map.1 hx
          exact (nm_bytes (refs_bytes h hs) b hb).2.1
  have hf : fieldsL (piecesC 44 (Lib.join (r.fs.map fieldText) [44])) = some r.fs := by
    rw [pieces_join (fun x hx => ?_) (fun x hx => ?_)]
    · exact fieldsL_text fun f hf => not_mem_of fun b hb => (nm_bytes (fields_bytes h hf).1 b hb).2.2
    · obtain ⟨f, hf, rfl⟩ := List.mem_map.1 hx
      unfold fieldText
      simp
    · obtain ⟨f, hf, rfl⟩ := List.mem_map.1 hx
      exact not_mem_of fun b hb => (fieldText_bytes h hf b hb).1
  have hr : (piecesC 44 (Lib.join (r.rs.map (fun s : ByteArray => s.data.toList)) [44])).map bs = r.rs := by
    rw [pieces_join (fun x hx => ?_) (fun x hx => ?_)]
    · rw [List.map_map]
      have : (bs ∘ fun x : ByteArray => x.data.toList) = id := funext fun x => bs_data x
      rw [this, List.map_id]
    · obtain ⟨s, hs, rfl⟩ := List.mem_map.1 hx
      exact nm_ne (refs_bytes h hs)
    · obtain ⟨s, hs, rfl⟩ := List.mem_map.1 hx
      exact not_mem_of fun b hb => by
        have := nm_bytes (refs_bytes h hs) b hb
        show b.toNat ≠ 44
        omega
  unfold recL
  rw [hs]
  show (match numL (Lib.itoa r.cats), fieldsL (piecesC 44 (Lib.join (r.fs.map fieldText) [44])) with
    | some n, some fs => some (⟨bs r.id.data.toList, n, fs, (piecesC 44 (Lib.join (r.rs.map (fun s : ByteArray => s.data.toList)) [44])).map bs⟩ : RecL)
    | _, _ => none) = _
  rw [c1, hf, hr, bs_data]
/-- a text is written as it was read -/
theorem text_recL {l : List UInt8} {r : RecL} (h : recL l = some r) : r.text = l := by
  unfold recL at h
  split at h
  · rename_i a b c d hs
    split at h
    · rename_i n fs hn hf
      cases h
      unfold RecL.text
      show Lib.join [(bs a).data.toList, Lib.itoa n, Lib.join (fs.map fieldText) [44], Lib.join (((piecesC 44 d).map bs).map (fun s : ByteArray => s.data.toList)) [44]] [59] = l
      rw [data_bs, (numL_some hn).1, text_fieldsL hf, join_pieces, List.map_map]
      have : ((fun x : ByteArray => x.data.toList) ∘ bs) = id := funext fun x => data_bs x
      rw [this, List.map_id, join_pieces, ← hs, join_splitC]
    · cases h
  · cases h
theorem text_inj {r q : RecL} (hr : r.Ok) (hq : q.Ok) : r.text = q.text ↔ r = q := by
  constructor
  · intro h
    have h1 := recL_text hr
    rw [h, recL_text hq] at h1
    exact (Option.some.inj h1).symm
  · intro h
    rw [h]
end Go.Proofs.YtepenlciaanoeaaGreatDoor
