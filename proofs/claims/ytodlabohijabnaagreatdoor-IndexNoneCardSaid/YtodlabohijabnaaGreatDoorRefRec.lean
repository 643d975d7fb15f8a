/- Contracts of wyref.within, Cats, Id, Value, Record: what the document says of names, values and records, by the reference's road. -/
import Derived.Test.YtodlabohijabnaaGreatDoorRCheck
import Derived.Test.YtodlabohijabnaaGreatDoorShelf
set_option linter.unusedVariables false
set_option linter.unusedSimpArgs false
set_option maxRecDepth 100000
namespace Go.Proofs.YtodlabohijabnaaGreatDoor
open Go.RowKit Go.Sort

set_option maxHeartbeats 400000 in
theorem within_any (x a b : Int) (w : World) :
    Calls Tryz.prog 99 #[.int .i64 x, .int .i64 a, .int .i64 b] w fun e w' => e = .returned (.bool (decide (a ≤ x ∧ x ≤ b))) ∧ w = w' := by
  by_cases h1 : a ≤ x
  · by_cases h2 : x ≤ b
    · have e : decide (a ≤ x ∧ x ≤ b) = true := by simp [h1, h2]
      rw [e]
      go_enter Tryz.func99, Tryz.ntmps99
      go_wp2
      go_ret
      exact ⟨rfl, rfl⟩
    · have e : decide (a ≤ x ∧ x ≤ b) = false := by simp [h2]
      rw [e]
      go_enter Tryz.func99, Tryz.ntmps99
      go_wp2
      go_ret
      exact ⟨rfl, rfl⟩
  · have e : decide (a ≤ x ∧ x ≤ b) = false := by simp [h1]
    rw [e]
    go_enter Tryz.func99, Tryz.ntmps99
    go_wp2
    go_ret
    exact ⟨rfl, rfl⟩
theorem within_is {t : Bool} (x a b : Int) (w : World) (h : decide (a ≤ x ∧ x ≤ b) = t) :
    Calls Tryz.prog 99 #[.int .i64 x, .int .i64 a, .int .i64 b] w fun e w' => e = .returned (.bool t) ∧ w = w' := h ▸ within_any x a b w

set_option maxHeartbeats 400000 in
theorem refCats_is {t : Bool} (x : Int) (w : World) (h : decide (0 ≤ x ∧ x ≤ 255) = t) :
    Calls Tryz.prog 72 #[.int .i64 x] w fun e w' => e = .returned (.bool t) ∧ w = w' := by
  have H := Lib.hid h
  clear h
  go_enter Tryz.func72, Tryz.ntmps72
  go_wp2_with fail
  refine (within_is x 0 255 _ H.out).mono ?_
  rintro e w' ⟨rfl, rfl⟩
  go_wp2_with fail
  go_ret
  exact ⟨rfl, rfl⟩

/-! ## strings.Trim at the letters of a name -/

def nameBytes : List UInt8 := [97, 98, 99, 100, 101, 102, 103, 104, 105, 106, 107, 108, 109, 110, 111, 112, 113, 114, 115, 116, 117, 118, 119, 120, 121, 122, 48, 49, 50, 51, 52, 53, 54, 55, 56, 57]
theorem nameBytes_all : ((List.range 256).all fun n => nameBytes.contains (UInt8.ofNat n) == nmB (UInt8.ofNat n)) = true := by kernel_rfl
theorem nameBytes_eq (b : UInt8) : nameBytes.contains b = nmB b := by
  have h := List.all_eq_true.1 nameBytes_all b.toNat (List.mem_range.2 b.toNat_lt)
  rw [UInt8.ofNat_toNat] at h
  simpa using h

theorem dropWhile_nil {p : UInt8 → Bool} : ∀ {l : List UInt8}, l.dropWhile p = [] ↔ ∀ b ∈ l, p b = true
  | [] => by simp
  | a :: l => by
    rw [List.dropWhile_cons]
    cases h : p a with
    | true =>
      simp only [if_true]
      rw [dropWhile_nil]
      simp [h]
    | false => simp [h]
theorem takeWhile_all {p : UInt8 → Bool} : ∀ {l : List UInt8} {b : UInt8}, b ∈ l.takeWhile p → p b = true
  | [], b, h => by simp at h
  | a :: l, b, h => by
    rw [List.takeWhile_cons] at h
    split at h
    · rcases List.mem_cons.1 h with rfl | h
      · assumption
      · exact takeWhile_all h
    · cases h
theorem trimS_nil (l cs : List UInt8) : Lib.trimS l cs = [] ↔ ∀ b ∈ l, cs.contains b = true := by
  unfold Lib.trimS Lib.trimLeftS
  rw [dropWhile_nil]
  unfold Lib.trimRightS
  constructor
  · intro h b hb
    have hr : b ∈ l.reverse := List.mem_reverse.2 hb
    rw [← List.takeWhile_append_dropWhile (p := fun x => cs.contains x) (l := l.reverse)] at hr
    rcases List.mem_append.1 hr with h1 | h1
    · exact takeWhile_all (p := fun x => cs.contains x) h1
    · exact h b (List.mem_reverse.2 h1)
  · intro h b hb
    have h1 := List.mem_reverse.1 hb
    exact h b (List.mem_reverse.1 ((List.dropWhile_sublist _).subset h1))

theorem nm_trim {s : ByteArray} : isNm s = (decide (1 ≤ (s.size : Int) ∧ (s.size : Int) ≤ 8) && decide (Lib.trimS s.data.toList nameBytes = [])) := by
  unfold isNm
  have e1 : decide (1 ≤ (s.size : Int) ∧ (s.size : Int) ≤ 8) = (decide (1 ≤ s.size) && decide (s.size ≤ 8)) := by
    rw [Bool.eq_iff_iff]
    simp
    omega
  have e2 : decide (Lib.trimS s.data.toList nameBytes = []) = s.data.toList.all nmB := by
    rw [Bool.eq_iff_iff, decide_eq_true_eq, trimS_nil, List.all_eq_true]
    constructor
    · intro h b hb
      rw [← nameBytes_eq]
      exact h b hb
    · intro h b hb
      rw [nameBytes_eq]
      exact h b hb
  rw [e1, e2]

theorem trim_call (s : ByteArray) (w : World) (hs : s.size ≤ 8) :
    Calls Tryz.prog 100 #[.string s, .string ⟨#[97, 98, 99, 100, 101, 102, 103, 104, 105, 106, 107, 108, 109, 110, 111, 112, 113, 114, 115, 116, 117, 118, 119, 120, 121, 122, 48, 49, 50, 51, 52, 53, 54, 55, 56, 57]⟩] w
      fun e w' => e = .returned (.string ⟨(Lib.trimS s.data.toList nameBytes).toArray⟩) ∧ Below w.heap.size w w' :=
  Any.strings_Trim_laid Tryz.lays160 (by kernel_rfl) s ⟨#[97, 98, 99, 100, 101, 102, 103, 104, 105, 106, 107, 108, 109, 110, 111, 112, 113, 114, 115, 116, 117, 118, 119, 120, 121, 122, 48, 49, 50, 51, 52, 53, 54, 55, 56, 57]⟩ w (by omega) (by decide) (ascii_of_all (by decide))

set_option maxHeartbeats 1000000 in
theorem refId_any (s : ByteArray) (w : World) :
    Calls Tryz.prog 71 #[.string s] w fun e w' => e = .returned (.bool (isNm s)) ∧ Below w.heap.size w w' := by
  rw [nm_trim]
  cases hd : decide (1 ≤ (s.size : Int) ∧ (s.size : Int) ≤ 8) with
  | false =>
    have HD := Lib.hid hd
    clear hd
    go_enter Tryz.func71, Tryz.ntmps71
    go_wp2_with fail
    refine (within_is (s.size : Int) 1 8 _ HD.out).mono ?_
    rintro e w' ⟨rfl, rfl⟩
    go_wp2_with fail
    go_ret
    exact ⟨rfl, Below.refl _ _⟩
  | true =>
    have h8 : s.size ≤ 8 := by
      rw [decide_eq_true_eq] at hd
      omega
    have HD := Lib.hid hd
    have H8 := Lib.hid h8
    clear hd h8
    obtain ⟨l, hl⟩ : ∃ l, l = Lib.trimS s.data.toList nameBytes := ⟨_, rfl⟩
    have hc := trim_call s w H8.out
    rw [← hl] at hc ⊢
    have HC := Lib.hid hc
    clear hc hl
    cases l with
    | nil =>
      have h1 : (⟨([] : List UInt8).toArray⟩ : ByteArray).toList = [] := by rw [Lib.toList_data]
      have h2 : (⟨([] : List UInt8).toArray⟩ : ByteArray).toList.isEmpty = true := by rw [h1]; rfl
      go_enter Tryz.func71, Tryz.ntmps71
      go_wp2_with fail
      refine (within_is (s.size : Int) 1 8 _ HD.out).mono ?_
      rintro e w' ⟨rfl, rfl⟩
      go_wp2_with fail
      refine HC.out.mono ?_
      rintro e w1 ⟨rfl, hb1⟩
      go_wp2_with fail
      go_ret
      exact ⟨rfl, hb1⟩
    | cons a l =>
      obtain ⟨r, hr⟩ : ∃ r : ByteArray, r = ⟨(a :: l).toArray⟩ := ⟨_, rfl⟩
      have h2 : r.toList.isEmpty = false := by rw [hr, Lib.toList_data]; rfl
      have h1 : ¬ r.toList = [] := by rw [hr, Lib.toList_data]; simp
      rw [← hr] at HC
      clear hr
      go_enter Tryz.func71, Tryz.ntmps71
      go_wp2_with fail
      refine (within_is (s.size : Int) 1 8 _ HD.out).mono ?_
      rintro e w' ⟨rfl, rfl⟩
      go_wp2_with fail
      refine HC.out.mono ?_
      rintro e w1 ⟨rfl, hb1⟩
      go_wp2_with fail
      go_ret
      exact ⟨rfl, hb1⟩
theorem refId_is {t : Bool} (s : ByteArray) (w : World) (h : isNm s = t) : Calls Tryz.prog 71 #[.string s] w fun e w' => e = .returned (.bool t) ∧ Below w.heap.size w w' := h ▸ refId_any s w

set_option maxHeartbeats 1000000 in
/-- the key ahead of place k -/
def lastF (fs : List FieldL) : Nat → ByteArray
  | 0 => ⟨#[]⟩
  | j + 1 => (fs.getD j ⟨⟨#[]⟩, ⟨#[]⟩⟩).key
def lastS (rs : List ByteArray) : Nat → ByteArray
  | 0 => ⟨#[]⟩
  | j + 1 => rs.getD j ⟨#[]⟩
theorem lt_empty {s : ByteArray} (h : isNm s = true) : sLt ⟨#[]⟩ s = true := by
  unfold sLt
  have h1 : 1 ≤ s.size := by
    unfold isNm at h
    simp only [Bool.and_eq_true, decide_eq_true_eq] at h
    exact h.1.1
  rw [Lib.toList_data, Lib.toList_data]
  cases e : s.data.toList with
  | nil =>
    have := Lib.size_eq s
    rw [e, List.length_nil] at this
    omega
  | cons a l => rfl
theorem lastF_succ {fs : List FieldL} {k : Nat} {f : FieldL} (h : fs[k]? = some f) : lastF fs (k + 1) = f.key := by
  show (fs.getD k _).key = _
  rw [List.getD, h]
  rfl
theorem lastS_succ {rs : List ByteArray} {k : Nat} {s : ByteArray} (h : rs[k]? = some s) : lastS rs (k + 1) = s := by
  show rs.getD k _ = _
  rw [List.getD, h]
  rfl
theorem fOk_last {fs : List FieldL} {k : Nat} {f : FieldL} (h : fOk fs k) (hf : fs[k]? = some f) (h1 : isFd f = true) (h2 : sLt (lastF fs k) f.key = true) : fOk fs (k + 1) :=
  fOk_succ h hf h1 fun j g e hg => by
    subst e
    rw [lastF_succ hg] at h2
    exact h2
theorem rOk_last {rs : List ByteArray} {k : Nat} {s : ByteArray} (h : rOk rs k) (hf : rs[k]? = some s) (h1 : isNm s = true) (h2 : sLt (lastS rs k) s = true) : rOk rs (k + 1) :=
  rOk_succ h hf h1 fun j g e hg => by
    subst e
    rw [lastS_succ hg] at h2
    exact h2
theorem fOk_bad {fs : List FieldL} {k : Nat} {f : FieldL} (hf : fs[k]? = some f) (h : isFd f = false ∨ isFd f = true ∧ sLt (lastF fs k) f.key = false) : ¬ fOk fs fs.length := fun ho => by
  have hk := (List.getElem?_eq_some_iff.1 hf).1
  obtain ⟨h1, h2⟩ := ho k f hk hf
  rcases h with h | ⟨_, h⟩
  · rw [h1] at h
    cases h
  · cases k with
    | zero =>
      have : isNm f.key = true := by
        unfold isFd at h1
        exact (Bool.and_eq_true _ _ ▸ h1).1
      rw [show lastF fs 0 = ⟨#[]⟩ from rfl, lt_empty this] at h
      cases h
    | succ j =>
      have hj : fs[j]? = some fs[j] := List.getElem?_eq_getElem (by omega)
      rw [lastF_succ hj, h2 j _ rfl hj] at h
      cases h
theorem rOk_bad {rs : List ByteArray} {k : Nat} {s : ByteArray} (hf : rs[k]? = some s) (h : isNm s = false ∨ isNm s = true ∧ sLt (lastS rs k) s = false) : ¬ rOk rs rs.length := fun ho => by
  have hk := (List.getElem?_eq_some_iff.1 hf).1
  obtain ⟨h1, h2⟩ := ho k s hk hf
  rcases h with h | ⟨_, h⟩
  · rw [h1] at h
    cases h
  · cases k with
    | zero =>
      rw [show lastS rs 0 = ⟨#[]⟩ from rfl, lt_empty h1] at h
      cases h
    | succ j =>
      have hj : rs[j]? = some rs[j] := List.getElem?_eq_getElem (by omega)
      rw [lastS_succ hj, h2 j _ rfl hj] at h
      cases h

end Go.Proofs.YtodlabohijabnaaGreatDoor
