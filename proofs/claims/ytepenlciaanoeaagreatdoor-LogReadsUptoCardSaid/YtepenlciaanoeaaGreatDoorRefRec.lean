/- Contracts of wyref.within, Cats, Id, Value, Record: what the document says of names, values and records, by the reference's road. -/
import Derived.Test.YtepenlciaanoeaaGreatDoorRCheck
import Derived.Test.YtepenlciaanoeaaGreatDoorShelf
set_option linter.unusedVariables false
set_option linter.unusedSimpArgs false
set_option maxRecDepth 100000
namespace Go.Proofs.YtepenlciaanoeaaGreatDoor
open Go.RowKit Go.Sort

set_option maxHeartbeats 400000 in
theorem within_any (x a b : Int) (w : World) :
    Calls Tryz.prog 77 #[.int .i64 x, .int .i64 a, .int .i64 b] w fun e w' => e = .returned (.bool (decide (a ≤ x ∧ x ≤ b))) ∧ w = w' := by
  by_cases h1 : a ≤ x
  · by_cases h2 : x ≤ b
    · have e : decide (a ≤ x ∧ x ≤ b) = true := by simp [h1, h2]
      rw [e]
      go_enter Tryz.func77, Tryz.ntmps77
      go_wp2
      go_ret
      exact ⟨rfl, rfl⟩
    · have e : decide (a ≤ x ∧ x ≤ b) = false := by simp [h2]
      rw [e]
      go_enter Tryz.func77, Tryz.ntmps77
      go_wp2
      go_ret
      exact ⟨rfl, rfl⟩
  · have e : decide (a ≤ x ∧ x ≤ b) = false := by simp [h1]
    rw [e]
    go_enter Tryz.func77, Tryz.ntmps77
    go_wp2
    go_ret
    exact ⟨rfl, rfl⟩
theorem within_is {t : Bool} (x a b : Int) (w : World) (h : decide (a ≤ x ∧ x ≤ b) = t) :
    Calls Tryz.prog 77 #[.int .i64 x, .int .i64 a, .int .i64 b] w fun e w' => e = .returned (.bool t) ∧ w = w' := h ▸ within_any x a b w

set_option maxHeartbeats 400000 in
theorem refCats_is {t : Bool} (x : Int) (w : World) (h : decide (0 ≤ x ∧ x ≤ 255) = t) :
    Calls Tryz.prog 153 #[.int .i64 x] w fun e w' => e = .returned (.bool t) ∧ w = w' := by
  have H := Lib.hid h
  clear h
  go_enter Tryz.func153, Tryz.ntmps153
  go_wp2_with fail
  refine (within_is x 0 255 _ H.out).mono ?_
  rintro e w' ⟨rfl, rfl⟩
  go_wp2_with fail
  go_ret
  exact ⟨rfl, rfl⟩

/-! ## strings.Trim at the letters of a name -/

def nameBytes : List UInt8 := [97, 98, 99, 100, 101, 102, 103, 104, 105, 106, 107, 108, 109, 110, 111, 112, 113, 114, 115, 116, 117, 118, 119, 120, 121, 122, 48, 49, 50, 51, 52, 53, 54, 55, 56, 57]
theorem nameBytes_all : ((List.range 256).all fun n => nameBytes.contains (UInt8.ofNat n) == nmB (UInt8.ofNat n)) = true := by kernel_rfl
theorem nameBytes_eq (b : UInt8) : nameBytes.contains b = nmB b := by
  have h := List.all_eq_true.1 nameBytes_all b.toNat (List.mem_range.2 b.toNat_lt)
  rw [UInt8.ofNat_toNat] at h
  simpa using h

theorem dropWhile_nil {p : UInt8 → Bool} : ∀ {l : List UInt8}, l.dropWhile p = [] ↔ ∀ b ∈ l, p b = true
  | [] => by simp
  | a :: l => by
    rw [List.dropWhile_cons]
    cases h : p a with
    | true =>
      simp only [if_true]
      rw [dropWhile_nil]
      simp [h]
    | false => simp [h]
theorem takeWhile_all {p : UInt8 → Bool} : ∀ {l : List UInt8} {b : UInt8}, b ∈ l.takeWhile p → p b = true
  | [], b, h => by simp at h
  | a :: l, b, h => by
    rw [List.takeWhile_cons] at h
    split at h
    · rcases List.mem_cons.1 h with rfl | h
      · assumption
      · exact takeWhile_all h
    · cases h
theorem trimS_nil (l cs : List UInt8) : Lib.trimS l cs = [] ↔ ∀ b ∈ l, cs.contains b = true := by
  unfold Lib.trimS Lib.trimLeftS
  rw [dropWhile_nil]
  unfold Lib.trimRightS
  constructor
  · intro h b hb
    have hr : b ∈ l.reverse := List.mem_reverse.2 hb
    rw [← List.takeWhile_append_dropWhile (p := fun x => cs.contains x) (l := l.reverse)] at hr
    rcases List.mem_append.1 hr with h1 | h1
    · exact takeWhile_all (p := fun x => cs.contains x) h1
    · exact h b (List.mem_reverse.2 h1)
  · intro h b hb
    have h1 := List.mem_reverse.1 hb
    exact h b (List.mem_reverse.1 ((List.dropWhile_sublist _).subset h1))

theorem nm_trim {s : ByteArray} : isNm s = (decide (1 ≤ (s.size : Int) ∧ (s.size : Int) ≤ 8) && decide (Lib.trimS s.data.toList nameBytes = [])) := by
  unfold isNm
  have e1 : decide (1 ≤ (s.size : Int) ∧ (s.size : Int) ≤ 8) = (decide (1 ≤ s.size) && decide (s.size ≤ 8)) := by
    rw [Bool.eq_iff_iff]
    simp
    omega
  have e2 : decide (Lib.trimS s.data.toList nameBytes = []) = s.data.toList.all nmB := by
    rw [Bool.eq_iff_iff, decide_eq_true_eq, trimS_nil, List.all_eq_true]
    constructor
    · intro h b hb
      rw [← nameBytes_eq]
      exact h b hb
    · intro h b hb
      rw [nameBytes_eq]
      exact h b hb
  rw [e1, e2]

theorem trim_call (s : ByteArray) (w : World) (hs : s.size ≤ 8) :
    Calls Tryz.prog 160 #[.string s, .string ⟨#[97, 98, 99, 100, 101, 102, 103, 104, 105, 106, 107, 108, 109, 110, 111, 112, 113, 114, 115, 116, 117, 118, 119, 120, 121, 122, 48, 49, 50, 51, 52, 53, 54, 55, 56, 57]⟩] w
      fun e w' => e = .returned (.string ⟨(Lib.trimS s.data.toList nameBytes).toArray⟩) ∧ Below w.heap.size w w' :=
  Any.strings_Trim_laid Tryz.lays160 (by kernel_rfl) s ⟨#[97, 98, 99, 100, 101, 102, 103, 104, 105, 106, 107, 108, 109, 110, 111, 112, 113, 114, 115, 116, 117, 118, 119, 120, 121, 122, 48, 49, 50, 51, 52, 53, 54, 55, 56, 57]⟩ w (by omega) (by decide) (ascii_of_all (by decide))

set_option maxHeartbeats 1000000 in
theorem refId_any (s : ByteArray) (w : World) :
    Calls Tryz.prog 88 #[.string s] w fun e w' => e = .returned (.bool (isNm s)) ∧ Below w.heap.size w w' := by
  rw [nm_trim]
  cases hd : decide (1 ≤ (s.size : Int) ∧ (s.size : Int) ≤ 8) with
  | false =>
    have HD := Lib.hid hd
    clear hd
    go_enter Tryz.func88, Tryz.ntmps88
    go_wp2_with fail
    refine (within_is (s.size : Int) 1 8 _ HD.out).mono ?_
    rintro e w' ⟨rfl, rfl⟩
    go_wp2_with fail
    go_ret
    exact ⟨rfl, Below.refl _ _⟩
  | true =>
    have h8 : s.size ≤ 8 := by
      rw [decide_eq_true_eq] at hd
      omega
    have HD := Lib.hid hd
    have H8 := Lib.hid h8
    clear hd h8
    obtain ⟨l, hl⟩ : ∃ l, l = Lib.trimS s.data.toList nameBytes := ⟨_, rfl⟩
    have hc := trim_call s w H8.out
    rw [← hl] at hc ⊢
    have HC := Lib.hid hc
    clear hc hl
    cases l with
    | nil =>
      have h1 : (⟨([] : List UInt8).toArray⟩ : ByteArray).toList = [] := by rw [Lib.toList_data]
      have h2 : (⟨([] : List UInt8).toArray⟩ : ByteArray).toList.isEmpty = true := by rw [h1]; rfl
      go_enter Tryz.func88, Tryz.ntmps88
      go_wp2_with fail
      refine (within_is (s.size : Int) 1 8 _ HD.out).mono ?_
      rintro e w' ⟨rfl, rfl⟩
      go_wp2_with fail
      refine HC.out.mono ?_
      rintro e w1 ⟨rfl, hb1⟩
      go_wp2_with fail
      go_ret
      exact ⟨rfl, hb1⟩
    | cons a l =>
      obtain ⟨r, hr⟩ : ∃ r : ByteArray, r = ⟨(a :: l).toArray⟩ := ⟨_, rfl⟩
      have h2 : r.toList.isEmpty = false := by rw [hr, Lib.toList_data]; rfl
      have h1 : ¬ r.toList = [] := by rw [hr, Lib.toList_data]; simp
      rw [← hr] at HC
      clear hr
      go_enter Tryz.func88, Tryz.ntmps88
      go_wp2_with fail
      refine (within_is (s.size : Int) 1 8 _ HD.out).mono ?_
      rintro e w' ⟨rfl, rfl⟩
      go_wp2_with fail
      refine HC.out.mono ?_
      rintro e w1 ⟨rfl, hb1⟩
      go_wp2_with fail
      go_ret
      exact ⟨rfl, hb1⟩
theorem refId_is {t : Bool} (s : ByteArray) (w : World) (h : isNm s = t) : Calls Tryz.prog 88 #[.string s] w fun e w' => e = .returned (.bool t) ∧ Below w.heap.size w w' := h ▸ refId_any s w

set_option maxHeartbeats 1000000 in
theorem refValue_any (s : ByteArray) (w : World) (hs : s.size ≤ maxLen) :
    Calls Tryz.prog 89 #[.string s] w fun e w' => e = .returned (.bool (isVl s)) ∧ Below w.heap.size w w' := by
  unfold maxLen at hs
  obtain ⟨c, W1, hconv, hcell, hb⟩ := conv_bytes s w
  have HC := Lib.hid hcell
  clear hcell
  go_enter Tryz.func89, Tryz.ntmps89
  go_wp2
  go_loop [8] (fun i => ∃ k : Nat, k ≤ s.size ∧ i = .int .i64 k ∧ Hid (∀ j b, j < k → s.data.toList[j]? = some b → vlB b = true)) (fun i => s.size - (intOf i).toNat)
  case atStart => exact ⟨0, Nat.zero_le _, rfl, fun j b hj => absurd hj (Nat.not_lt_zero j)⟩
  case round =>
    obtain ⟨k, hk, rfl, H⟩ := hrel
    by_cases hlt : k < s.size
    · obtain ⟨b, hb'⟩ : ∃ b, s.data.toList[k]? = some b := ⟨_, List.getElem?_eq_getElem (by rw [← Lib.size_eq]; exact hlt)⟩
      have hcell := HC.out k b hb'
      have HB := Lib.hid hb'
      clear hb'
      go_wp2
      all_goals first
        | (go_round
           case rel =>
             refine ⟨k + 1, by omega, by go_num, fun j b' hj hb' => ?_⟩
             by_cases e : j = k
             · subst e
               have := HB.out
               rw [hb'] at this
               cases this
               rw [vlB_eq]
               first | omega | (simp_all; done) | (simp_all; omega)
             · exact H.out j b' (by omega) hb'
           case measure => simp [intOf]; omega)
        | (go_ret
           refine ⟨ret_bool (vl_bad HB.out ?_).symm, hb⟩
           rw [vlB_no]
           first | omega | (simp_all; done) | (simp_all; omega))
    · by_cases h13 : (s.size : Int) < 13
      · have e : isVl s = true := vl_all (by omega) (fun j b hj => H.out j b (by omega))
        have HE := Lib.hid e
        clear e
        go_wp2
        go_ret
        exact ⟨ret_bool HE.out.symm, hb⟩
      · have e : isVl s = false := vl_long (by omega)
        have HE := Lib.hid e
        clear e
        go_wp2
        go_ret
        exact ⟨ret_bool HE.out.symm, hb⟩
theorem refValue_is {t : Bool} (s : ByteArray) (w : World) (hs : s.size ≤ maxLen) (h : isVl s = t) : Calls Tryz.prog 89 #[.string s] w fun e w' => e = .returned (.bool t) ∧ Below w.heap.size w w' := h ▸ refValue_any s w hs

/-- the key ahead of place k -/
def lastF (fs : List FieldL) : Nat → ByteArray
  | 0 => ⟨#[]⟩
  | j + 1 => (fs.getD j ⟨⟨#[]⟩, ⟨#[]⟩⟩).key
def lastS (rs : List ByteArray) : Nat → ByteArray
  | 0 => ⟨#[]⟩
  | j + 1 => rs.getD j ⟨#[]⟩
theorem lt_empty {s : ByteArray} (h : isNm s = true) : sLt ⟨#[]⟩ s = true := by
  unfold sLt
  have h1 : 1 ≤ s.size := by
    unfold isNm at h
    simp only [Bool.and_eq_true, decide_eq_true_eq] at h
    exact h.1.1
  rw [Lib.toList_data, Lib.toList_data]
  cases e : s.data.toList with
  | nil =>
    have := Lib.size_eq s
    rw [e, List.length_nil] at this
    omega
  | cons a l => rfl
theorem lastF_succ {fs : List FieldL} {k : Nat} {f : FieldL} (h : fs[k]? = some f) : lastF fs (k + 1) = f.key := by
  show (fs.getD k _).key = _
  rw [List.getD, h]
  rfl
theorem lastS_succ {rs : List ByteArray} {k : Nat} {s : ByteArray} (h : rs[k]? = some s) : lastS rs (k + 1) = s := by
  show rs.getD k _ = _
  rw [List.getD, h]
  rfl
theorem fOk_last {fs : List FieldL} {k : Nat} {f : FieldL} (h : fOk fs k) (hf : fs[k]? = some f) (h1 : isFd f = true) (h2 : sLt (lastF fs k) f.key = true) : fOk fs (k + 1) :=
  fOk_succ h hf h1 fun j g e hg => by
    subst e
    rw [lastF_succ hg] at h2
    exact h2
theorem rOk_last {rs : List ByteArray} {k : Nat} {s : ByteArray} (h : rOk rs k) (hf : rs[k]? = some s) (h1 : isNm s = true) (h2 : sLt (lastS rs k) s = true) : rOk rs (k + 1) :=
  rOk_succ h hf h1 fun j g e hg => by
    subst e
    rw [lastS_succ hg] at h2
    exact h2
theorem fOk_bad {fs : List FieldL} {k : Nat} {f : FieldL} (hf : fs[k]? = some f) (h : isFd f = false ∨ isFd f = true ∧ sLt (lastF fs k) f.key = false) : ¬ fOk fs fs.length := fun ho => by
  have hk := (List.getElem?_eq_some_iff.1 hf).1
  obtain ⟨h1, h2⟩ := ho k f hk hf
  rcases h with h | ⟨_, h⟩
  · rw [h1] at h
    cases h
  · cases k with
    | zero =>
      have : isNm f.key = true := by
        unfold isFd at h1
        exact (Bool.and_eq_true _ _ ▸ h1).1
      rw [show lastF fs 0 = ⟨#[]⟩ from rfl, lt_empty this] at h
      cases h
    | succ j =>
      have hj : fs[j]? = some fs[j] := List.getElem?_eq_getElem (by omega)
      rw [lastF_succ hj, h2 j _ rfl hj] at h
      cases h
theorem rOk_bad {rs : List ByteArray} {k : Nat} {s : ByteArray} (hf : rs[k]? = some s) (h : isNm s = false ∨ isNm s = true ∧ sLt (lastS rs k) s = false) : ¬ rOk rs rs.length := fun ho => by
  have hk := (List.getElem?_eq_some_iff.1 hf).1
  obtain ⟨h1, h2⟩ := ho k s hk hf
  rcases h with h | ⟨_, h⟩
  · rw [h1] at h
    cases h
  · cases k with
    | zero =>
      rw [show lastS rs 0 = ⟨#[]⟩ from rfl, lt_empty h1] at h
      cases h
    | succ j =>
      have hj : rs[j]? = some rs[j] := List.getElem?_eq_getElem (by omega)
      rw [lastS_succ hj, h2 j _ rfl hj] at h
      cases h

set_option maxHeartbeats 1000000 in
theorem refRecord_id (r : RecL) (p : At) (w : World) (h : isNm r.id = false) :
    Calls Tryz.prog 81 #[r.v p] w fun e w' => e = .returned (.int .i64 3) ∧ Below w.heap.size w w' := by
  have H := Lib.hid h
  clear h
  have hA := r.box_below p w
  go_enter Tryz.func81, Tryz.ntmps81
  go_wp2_with fail
  refine (refId_is r.id _ H.out).mono ?_
  rintro e w1 ⟨rfl, hb1⟩
  have hB1 : Below w.heap.size w w1 := hA.trans (hb1.mono (by simp))
  go_wp2_with fail
  go_ret
  exact ⟨rfl, hB1⟩

set_option maxHeartbeats 1000000 in
theorem refRecord_cats (r : RecL) (p : At) (w : World) (h : isNm r.id = true) (hc : ¬ (0 ≤ r.cats ∧ r.cats ≤ 255)) :
    Calls Tryz.prog 81 #[r.v p] w fun e w' => e = .returned (.int .i64 1) ∧ Below w.heap.size w w' := by
  have H := Lib.hid h
  have HC : Hid (decide (0 ≤ r.cats ∧ r.cats ≤ 255) = false) := decide_eq_false hc
  clear h hc
  have hA := r.box_below p w
  go_enter Tryz.func81, Tryz.ntmps81
  go_wp2_with fail
  refine (refId_is r.id _ H.out).mono ?_
  rintro e w1 ⟨rfl, hb1⟩
  have hB1 : Below w.heap.size w w1 := hA.trans (hb1.mono (by simp))
  obtain ⟨hc1, hf1⟩ := bcell hb1
  go_wp2_with fail
  refine (refCats_is r.cats _ HC.out).mono ?_
  rintro e w' ⟨rfl, rfl⟩
  go_wp2_with fail
  go_ret
  exact ⟨rfl, hB1⟩

set_option maxHeartbeats 1000000 in
theorem refRecord_large (r : RecL) (p : At) (w : World) (h : isNm r.id = true) (hc : 0 ≤ r.cats ∧ r.cats ≤ 255) (hl : 6 < r.fs.length ∨ 4 < r.rs.length) :
    Calls Tryz.prog 81 #[r.v p] w fun e w' => e = .returned (.int .i64 2) ∧ Below w.heap.size w w' := by
  have H := Lib.hid h
  have HC : Hid (decide (0 ≤ r.cats ∧ r.cats ≤ 255) = true) := decide_eq_true hc
  clear h hc
  have hA := r.box_below p w
  have h6 : (6 : Int) < (r.fs.length : Int) ∨ (¬ (6 : Int) < (r.fs.length : Int) ∧ (4 : Int) < (r.rs.length : Int)) := by omega
  clear hl
  rcases h6 with h6 | ⟨h6, h4⟩
  all_goals
    go_enter Tryz.func81, Tryz.ntmps81
    go_wp2_with fail
    refine (refId_is r.id _ H.out).mono ?_
    rintro e w1 ⟨rfl, hb1⟩
    have hB1 : Below w.heap.size w w1 := hA.trans (hb1.mono (by simp))
    have z1 : w.heap.size < w1.heap.size := by have := hb1.size; simp at this; omega
    obtain ⟨hc1, hf1⟩ := bcell hb1
    go_wp2_with fail
    refine (refCats_is r.cats _ HC.out).mono ?_
    rintro e w' ⟨rfl, rfl⟩
    go_wp2_with fail
    go_ret
    exact ⟨rfl, hB1⟩

open Classical in
set_option maxHeartbeats 4000000 in
theorem refRecord_lists (r : RecL) (p : At) (w : World) (hi : r.in_ p w) (hs : r.short) (h : isNm r.id = true) (hc : 0 ≤ r.cats ∧ r.cats ≤ 255) (hl : r.fs.length ≤ 6 ∧ r.rs.length ≤ 4) :
    Calls Tryz.prog 81 #[r.v p] w fun e w' => e = .returned (.int .i64 (if ¬ (fOk r.fs r.fs.length ∧ rOk r.rs r.rs.length) then 3 else 0)) ∧ Below w.heap.size w w' := by
  obtain ⟨N, hN⟩ : ∃ N : Int, N = (if ¬ (fOk r.fs r.fs.length ∧ rOk r.rs r.rs.length) then 3 else 0) := ⟨_, rfl⟩
  rw [← hN]
  have HN0 := Lib.hid hN
  clear hN
  have H := Lib.hid h
  have HC : Hid (decide (0 ≤ r.cats ∧ r.cats ≤ 255) = true) := decide_eq_true hc
  have hA := r.box_below p w
  have h6 : ¬ (6 : Int) < (r.fs.length : Int) := by omega
  have h4 : ¬ (4 : Int) < (r.rs.length : Int) := by omega
  have HI := Lib.hid hi
  have HS := Lib.hid hs
  have n1 : r.fs.length ≤ 6 := hl.1
  have n2 : r.rs.length ≤ 4 := hl.2
  clear h hc hi hl hs
  go_enter Tryz.func81, Tryz.ntmps81
  go_wp2_with fail
  refine (refId_is r.id _ H.out).mono ?_
  rintro e w1 ⟨rfl, hb1⟩
  have hB1 : Below w.heap.size w w1 := hA.trans (hb1.mono (by simp))
  have z1 : w.heap.size < w1.heap.size := by have := hb1.size; simp at this; omega
  obtain ⟨hc1, hf1⟩ := bcell hb1
  have a2 : w1.cell? ⟨w.heap.size, 2, none⟩ = some (.slice p.fa r.fs.length p.fc) := by simp [hc1, go_sem]
  have a3 : w1.cell? ⟨w.heap.size, 3, none⟩ = some (.slice p.ra r.rs.length p.rc) := by simp [hc1, go_sem]
  go_wp2_with fail
  refine (refCats_is r.cats _ HC.out).mono ?_
  rintro e w' ⟨rfl, rfl⟩
  go_wp2_with fail
  clear hc1 hf1 hb1
  go_loopw [32, 3] (fun i l wr => ∃ k : Nat, k ≤ r.fs.length ∧ i = .int .i64 k ∧ l = .string (lastF r.fs k) ∧ Below w1.heap.size w1 wr ∧ Hid (fOk r.fs k)) (fun i _ _ => r.fs.length - (intOf i).toNat)
  case atStart => exact ⟨0, Nat.zero_le _, rfl, rfl, Below.refl _ _, fun i f hi => absurd hi (Nat.not_lt_zero i)⟩
  case round =>
    obtain ⟨k, hk, rfl, rfl, hBr, HO⟩ := hrel
    have hB : Below w.heap.size w wr := hB1.trans (hBr.mono hB1.size)
    have b3 : wr.cell? ⟨w.heap.size, 3, none⟩ = some (.slice p.ra r.rs.length p.rc) := (hBr.cell (p := ⟨w.heap.size, 3, none⟩) z1).trans a3
    by_cases hlt : k < r.fs.length
    · obtain ⟨f, hf⟩ : ∃ f, r.fs[k]? = some f := ⟨_, List.getElem?_eq_getElem hlt⟩
      obtain ⟨b, off, hfa, c1, c2⟩ := (HI.out.hf.below hB) k f hf
      obtain ⟨pa, pc, qa, qc⟩ := p
      simp only at hfa
      subst hfa
      have hsh := HS.out.fs f (List.mem_of_getElem? hf)
      have HF := Lib.hid hf
      have HSH := Lib.hid hsh
      have hLS := lastF_succ hf
      have HLS := Lib.hid hLS
      obtain ⟨L, hL⟩ : ∃ L, L = lastF r.fs k := ⟨_, rfl⟩
      have HLL := Lib.hid hL
      rw [← hL]
      clear hf hsh hLS hL
      have hBa : Below w1.heap.size w1 (wr.alloc (.cells #[.string f.key, .string f.val] 41)) := hBr.alloc hBr.size _
      cases hn : isNm f.key with
      | false =>
        have HN := Lib.hid hn
        clear hn
        go_wp2_with fail
        refine (refId_is f.key _ HN.out).mono ?_
        rintro e w2 ⟨rfl, hb2⟩
        have hB2 := hBa.trans (hb2.mono hBa.size)
        go_wp2_with fail
        go_ret
        refine ⟨ret_int ?_, hB1.trans (hB2.mono hB1.size)⟩
        rw [HN0.out, if_pos (fun k => fOk_bad HF.out (.inl (by unfold isFd; rw [HN.out]; rfl)) k.1)]
      | true =>
        have HN := Lib.hid hn
        clear hn
        cases hv : isVl f.val with
        | false =>
          have HV := Lib.hid hv
          clear hv
          go_wp2_with fail
          refine (refId_is f.key _ HN.out).mono ?_
          rintro e w2 ⟨rfl, hb2⟩
          have hB2 := hBa.trans (hb2.mono hBa.size)
          have k1 : w2.cell? ⟨wr.heap.size, 1, none⟩ = some (.string f.val) := by rw [hb2.cell (p := ⟨wr.heap.size, 1, none⟩) (by simp)]; simp [go_sem]
          go_wp2_with fail
          refine (refValue_is f.val _ HSH.out.2 HV.out).mono ?_
          rintro e w3 ⟨rfl, hb3⟩
          have hB3 := hB2.trans (hb3.mono hB2.size)
          go_wp2_with fail
          go_ret
          refine ⟨ret_int ?_, hB1.trans (hB3.mono hB1.size)⟩
          rw [HN0.out, if_pos (fun k => fOk_bad HF.out (.inl (by unfold isFd; rw [HN.out, HV.out]; rfl)) k.1)]
        | true =>
          have HV := Lib.hid hv
          have HFD : Hid (isFd f = true) := by show isFd f = true; unfold isFd; rw [HN.out, hv]; rfl
          clear hv
          cases hlt2 : sLt L f.key with
          | false =>
            have HLT := Lib.hid hlt2
            rcases le_yes hlt2 with ⟨l1, l2⟩ | ⟨l1, l2⟩
            all_goals
              clear hlt2
              go_wp2_with fail
              refine (refId_is f.key _ HN.out).mono ?_
              rintro e w2 ⟨rfl, hb2⟩
              have hB2 := hBa.trans (hb2.mono hBa.size)
              have k0 : w2.cell? ⟨wr.heap.size, 0, none⟩ = some (.string f.key) := by rw [hb2.cell (p := ⟨wr.heap.size, 0, none⟩) (by simp)]; simp [go_sem]
              have k1 : w2.cell? ⟨wr.heap.size, 1, none⟩ = some (.string f.val) := by rw [hb2.cell (p := ⟨wr.heap.size, 1, none⟩) (by simp)]; simp [go_sem]
              have zz : wr.heap.size < w2.heap.size := by have := hb2.size; simp at this; omega
              go_wp2_with fail
              refine (refValue_is f.val _ HSH.out.2 HV.out).mono ?_
              rintro e w3 ⟨rfl, hb3⟩
              have hB3 := hB2.trans (hb3.mono hB2.size)
              have j0 : w3.cell? ⟨wr.heap.size, 0, none⟩ = some (.string f.key) := (hb3.cell (p := ⟨wr.heap.size, 0, none⟩) zz).trans k0
              go_wp2_with fail
              go_ret
              refine ⟨ret_int ?_, hB1.trans (hB3.mono hB1.size)⟩
              rw [HN0.out, if_pos (fun k => fOk_bad HF.out (.inr ⟨HFD.out, by rw [← HLL.out]; exact HLT.out⟩) k.1)]
          | true =>
            have HLT := Lib.hid hlt2
            obtain ⟨l1, l2⟩ := le_no hlt2
            clear hlt2
            go_wp2_with fail
            refine (refId_is f.key _ HN.out).mono ?_
            rintro e w2 ⟨rfl, hb2⟩
            have hB2 := hBa.trans (hb2.mono hBa.size)
            have k0 : w2.cell? ⟨wr.heap.size, 0, none⟩ = some (.string f.key) := by rw [hb2.cell (p := ⟨wr.heap.size, 0, none⟩) (by simp)]; simp [go_sem]
            have k1 : w2.cell? ⟨wr.heap.size, 1, none⟩ = some (.string f.val) := by rw [hb2.cell (p := ⟨wr.heap.size, 1, none⟩) (by simp)]; simp [go_sem]
            have zz : wr.heap.size < w2.heap.size := by have := hb2.size; simp at this; omega
            go_wp2_with fail
            refine (refValue_is f.val _ HSH.out.2 HV.out).mono ?_
            rintro e w3 ⟨rfl, hb3⟩
            have hB3 := hB2.trans (hb3.mono hB2.size)
            have j0 : w3.cell? ⟨wr.heap.size, 0, none⟩ = some (.string f.key) := (hb3.cell (p := ⟨wr.heap.size, 0, none⟩) zz).trans k0
            go_wp2_with fail
            go_roundw
            case rel => exact ⟨k + 1, by omega, by go_num, by rw [HLS.out], hB3, fOk_last HO.out HF.out HFD.out (by rw [← HLL.out]; exact HLT.out)⟩
            case measure => simp [intOf]; omega
    · have HFO : Hid (fOk r.fs r.fs.length) := by
        obtain rfl : k = r.fs.length := by omega
        exact HO.out
      have hBQ := Lib.hid hBr
      clear hBr
      go_wp2_with fail
      have hz : w.heap.size < wr.heap.size := Nat.lt_of_lt_of_le z1 hBQ.out.size
      go_loopw [58, 3] (fun i l wq => ∃ k : Nat, k ≤ r.rs.length ∧ i = .int .i64 k ∧ l = .string (lastS r.rs k) ∧ Below w.heap.size w wq ∧ Hid (rOk r.rs k)) (fun i _ _ => r.rs.length - (intOf i).toNat)
      case atStart => exact ⟨0, Nat.zero_le _, rfl, rfl, hB, fun i f hi => absurd hi (Nat.not_lt_zero i)⟩
      case round =>
        obtain ⟨m, hm, rfl, rfl, hBq, HQ⟩ := hrel
        by_cases hlt3 : m < r.rs.length
        · obtain ⟨s, hf⟩ : ∃ s, r.rs[m]? = some s := ⟨_, List.getElem?_eq_getElem hlt3⟩
          obtain ⟨b, off, hfa, c1⟩ := (HI.out.hr.below hBq) m s hf
          obtain ⟨pa, pc, qa, qc⟩ := p
          simp only at hfa
          subst hfa
          have HF := Lib.hid hf
          have hLS := lastS_succ hf
          have HLS := Lib.hid hLS
          obtain ⟨L, hL⟩ : ∃ L, L = lastS r.rs m := ⟨_, rfl⟩
          have HLL := Lib.hid hL
          rw [← hL]
          clear hf hLS hL
          have i1 : (0 : Int) ≤ (m : Int) := by omega
          cases hn : isNm s with
          | false =>
            have HN := Lib.hid hn
            clear hn
            go_wp2_with fail
            refine (refId_is s _ HN.out).mono ?_
            rintro e w2 ⟨rfl, hb2⟩
            have hB2 := hBq.trans (hb2.mono hBq.size)
            go_wp2_with fail
            go_ret
            refine ⟨ret_int ?_, hB2⟩
            rw [HN0.out, if_pos (fun k => rOk_bad HF.out (.inl HN.out) k.2)]
          | true =>
            have HN := Lib.hid hn
            clear hn
            cases hlt2 : sLt L s with
            | false =>
              have HLT := Lib.hid hlt2
              rcases le_yes hlt2 with ⟨l1, l2⟩ | ⟨l1, l2⟩
              all_goals
                clear hlt2
                go_wp2_with fail
                refine (refId_is s _ HN.out).mono ?_
                rintro e w2 ⟨rfl, hb2⟩
                have hB2 := hBq.trans (hb2.mono hBq.size)
                go_wp2_with fail
                go_ret
                refine ⟨ret_int ?_, hB2⟩
                rw [HN0.out, if_pos (fun k => rOk_bad HF.out (.inr ⟨HN.out, by rw [← HLL.out]; exact HLT.out⟩) k.2)]
            | true =>
              have HLT := Lib.hid hlt2
              obtain ⟨l1, l2⟩ := le_no hlt2
              clear hlt2
              go_wp2_with fail
              refine (refId_is s _ HN.out).mono ?_
              rintro e w2 ⟨rfl, hb2⟩
              have hB2 := hBq.trans (hb2.mono hBq.size)
              go_wp2_with fail
              go_roundw
              case rel => exact ⟨m + 1, by omega, by go_num, by rw [HLS.out], hB2, rOk_last HQ.out HF.out HN.out (by rw [← HLL.out]; exact HLT.out)⟩
              case measure => simp [intOf]; omega
        · have HRO : Hid (rOk r.rs r.rs.length) := by
            obtain rfl : m = r.rs.length := by omega
            exact HQ.out
          go_wp2_with fail
          go_ret
          refine ⟨ret_int ?_, hBq⟩
          rw [HN0.out, if_neg (fun k => k ⟨HFO.out, HRO.out⟩)]

theorem refRecord_any (r : RecL) (p : At) (w : World) (hi : r.in_ p w) (hs : r.short) :
    Calls Tryz.prog 81 #[r.v p] w fun e w' => e = .returned (.int .i64 r.err) ∧ Below w.heap.size w w' := by
  unfold RecL.err
  by_cases h1 : isNm r.id = false
  · rw [if_pos h1]
    exact refRecord_id r p w h1
  · rw [if_neg h1]
    have h1 : isNm r.id = true := by simpa using h1
    by_cases h2 : 0 ≤ r.cats ∧ r.cats ≤ 255
    · rw [if_neg (fun k => k h2)]
      by_cases h3 : 6 < r.fs.length ∨ 4 < r.rs.length
      · rw [if_pos h3]
        exact refRecord_large r p w h1 h2 h3
      · rw [if_neg h3]
        exact refRecord_lists r p w hi hs h1 h2 (by omega)
    · rw [if_pos h2]
      exact refRecord_cats r p w h1 h2
end Go.Proofs.YtepenlciaanoeaaGreatDoor
