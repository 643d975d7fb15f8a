/- RecordGets: just what stands there is told of a record: the walk. -/
import Derived.Test.YtdnjboopaagleaaRGet
import Derived.Test.YtdnjboopaagleaaRIdx
set_option linter.unusedVariables false
set_option linter.unusedSimpArgs false
namespace Go.Proofs.Ytdnjboopaagleaa
open Go.RowKit Go.Sort

theorem one_max : 1 ≤ maxLen := by unfold maxLen; omega

/-- the records that the law makes -/
def cOne : RecL := ⟨⟨#[97]⟩, 0, [⟨⟨#[107]⟩, ⟨#[]⟩⟩], []⟩
def cNone : RecL := ⟨⟨#[97]⟩, 0, [], []⟩
theorem cOne_ok : cOne.Ok := ⟨by decide, by decide, by decide, by decide, by decide, fun i f hi hf => by
  have e : i = 0 := by have : i < 1 := hi; omega
  subst e
  have e : f = ⟨⟨#[107]⟩, ⟨#[]⟩⟩ := by simpa [cOne] using hf.symm
  subst e
  exact ⟨by decide, fun j g h => by omega⟩, fun i s hi => absurd hi (by simp [cOne])⟩
theorem cNone_ok : cNone.Ok := ⟨by decide, by decide, by decide, by decide, by decide, fun i f hi => absurd hi (by simp [cNone]), fun i s hi => absurd hi (by simp [cNone])⟩
theorem cOne_get : cOne.get ⟨#[107]⟩ = ⟨#[]⟩ ∧ cOne.getErr ⟨#[107]⟩ = 0 := by
  unfold RecL.get RecL.getErr
  have h := cOne.err_ok.2 cOne_ok
  rw [if_neg (fun k => k h), if_neg (fun k => k h)]
  have e : look cOne.fs ⟨#[107]⟩ = some ⟨#[]⟩ := by
    show look [_] _ = _
    rw [look_cons, if_pos (sEq_iff.2 rfl)]
  have t : there cOne.fs ⟨#[107]⟩ = true := by
    show (sEq _ _ || _) = true
    rw [sEq_iff.2 rfl]
    rfl
  exact ⟨by rw [e]; rfl, by rw [if_neg (by rw [t]; simp)]⟩
theorem cNone_get : cNone.get ⟨#[107]⟩ = ⟨#[]⟩ ∧ cNone.getErr ⟨#[107]⟩ = 4 := by
  unfold RecL.get RecL.getErr
  have h := cNone.err_ok.2 cNone_ok
  rw [if_neg (fun k => k h), if_neg (fun k => k h)]
  exact ⟨by decide, by decide⟩

set_option maxHeartbeats 2000000 in
set_option maxRecDepth 100000 in
theorem recordGets_walk (r : RecL) (p : At) (key : ByteArray) (w : World) (hi : r.in_ p w) :
    Calls Try.prog 4 #[r.v p, .string key] w fun e w' => e = .returned (.bool true) ∧ Below w.heap.size w w' := by
  have hA := r.box_below p w
  have HI := Lib.hid hi
  clear hi
  go_enter Try.func4, Try.ntmps4
  go_wp2_with fail
  have hs1 : SlF ((r.box p w).alloc (.cells #[.string ⟨#[107]⟩, .string ⟨#[]⟩] 27)) (some ⟨w.heap.size + 1, 0, none⟩) cOne.fs := by
    intro k f hf
    have e : k = 0 := by have := (List.getElem?_eq_some_iff.1 hf).1; have : k < 1 := this; omega
    subst e
    have e : f = ⟨⟨#[107]⟩, ⟨#[]⟩⟩ := by simpa [cOne] using hf.symm
    subst e
    exact ⟨_, 0, rfl, by simp [go_sem], by simp [go_sem]⟩
  have hA1 : Below w.heap.size w ((r.box p w).alloc (.cells #[.string ⟨#[107]⟩, .string ⟨#[]⟩] 27)) := hA.alloc hA.size _
  refine (get_is cOne ⟨some ⟨w.heap.size + 1, 0, none⟩, 1, none, 0⟩ ⟨#[107]⟩ _ ⟨hs1, SlS.nil _ _, Nat.le_refl _, Nat.le_refl _, one_max, Nat.zero_le _⟩ cOne_get.1 cOne_get.2).mono ?_
  clear hs1
  rintro e w1 ⟨rfl, hb1⟩
  have hB1 : Below w.heap.size w w1 := hA1.trans (hb1.mono hA1.size)
  have z1 : w.heap.size < w1.heap.size := by have := hb1.size; simp at this; omega
  obtain ⟨hc1, hf1⟩ := bcell hb1
  go_wp2_with fail
  refine (get_is cNone ⟨none, 0, none, 0⟩ ⟨#[107]⟩ _ ⟨SlF.nil _ _, SlS.nil _ _, Nat.le_refl _, Nat.le_refl _, Nat.zero_le _, Nat.zero_le _⟩ cNone_get.1 cNone_get.2).mono ?_
  rintro e w2 ⟨rfl, hb2⟩
  have hB2 : Below w.heap.size w w2 := hB1.trans (hb2.mono hB1.size)
  have z2 : w.heap.size < w2.heap.size := Nat.lt_of_lt_of_le z1 hb2.size
  obtain ⟨hc2, hf2⟩ := bcell hb2
  go_wp2_with fail
  have HIr := HI.out
  refine (get_any r p key _ (HI.out.below hB2)).mono ?_
  rintro e w3 ⟨rfl, hb3⟩
  have hB3 : Below w.heap.size w w3 := hB2.trans (hb3.mono hB2.size)
  have z3 : w.heap.size < w3.heap.size := Nat.lt_of_lt_of_le z2 hb3.size
  obtain ⟨hc3, hf3⟩ := bcell hb3
  go_wp2_with fail
  refine (recCheck_any r p _ (HI.out.below hB3)).mono ?_
  rintro e w4 ⟨rfl, hb4⟩
  have hB4 : Below w.heap.size w w4 := hB3.trans (hb4.mono hB3.size)
  obtain ⟨hc4, hf4⟩ := bcell hb4
  by_cases he : r.err = 0
  · have ho := r.err_ok.1 he
    have HO := Lib.hid ho
    have hm : r.fs.length ≤ maxLen := Nat.le_trans HI.out.fl HI.out.fm
    have HM := Lib.hid hm
    clear ho hm
    cases ht : there r.fs key with
    | false =>
      have e1 : r.get key = ⟨#[]⟩ := by
        unfold RecL.get
        rw [if_neg (fun k => k he), look_none.2 ht]
        rfl
      have e2 : r.getErr key = 4 := by
        unfold RecL.getErr
        rw [if_neg (fun k => k he), if_pos ht]
      rw [e1, e2, he]
      have HT := Lib.hid ht
      clear e1 e2 he ht
      go_wp2_with fail
      have hn : decide ((⟨key, ⟨#[]⟩⟩ : FieldL) ∈ r.fs) = false := by
        rw [decide_eq_false_iff_not]
        intro hm
        have := HT.out
        unfold there at this
        rw [List.any_eq_false] at this
        exact this _ hm (sEq_iff.2 rfl)
      refine (contains_is p.fa r.fs p.fc ⟨key, ⟨#[]⟩⟩ _ (HI.out.hf.below hB4) HM.out hn).mono ?_
      clear hn
      rintro e w5 ⟨rfl, hb5⟩
      have hB5 : Below w.heap.size w w5 := hB4.trans (hb5.mono hB4.size)
      go_wp2_with fail
      go_ret
      exact ⟨rfl, hB5⟩
    | true =>
      obtain ⟨f, hf, hk⟩ := (there_iff (fOk_asc HO.out.fs)).1 ht
      have e1 : r.get key = f.val := by
        unfold RecL.get
        rw [if_neg (fun k => k he), look_there (fOk_asc HO.out.fs) hf hk]
        rfl
      have e2 : r.getErr key = 0 := by
        unfold RecL.getErr
        rw [if_neg (fun k => k he), if_neg (by rw [ht]; simp)]
      have HE : Hid (f = ⟨key, f.val⟩) := by
        show f = _
        rw [← hk]
      have HF := Lib.hid hf
      rw [e1, e2, he]
      clear e1 e2 he ht hf hk
      go_wp2_with fail
      have hn : decide ((⟨key, f.val⟩ : FieldL) ∈ r.fs) = true := by
        rw [decide_eq_true_eq, ← HE.out]
        exact List.mem_of_getElem? HF.out
      refine (contains_is p.fa r.fs p.fc ⟨key, f.val⟩ _ (HI.out.hf.below hB4) HM.out hn).mono ?_
      clear hn
      rintro e w5 ⟨rfl, hb5⟩
      have hB5 : Below w.heap.size w w5 := hB4.trans (hb5.mono hB4.size)
      go_wp2_with fail
      go_ret
      exact ⟨rfl, hB5⟩
  · have e1 : r.get key = ⟨#[]⟩ := by
      unfold RecL.get
      rw [if_pos he]
    have e2 : r.getErr key = r.err := by
      unfold RecL.getErr
      rw [if_pos he]
    rw [e1, e2]
    generalize r.err = n at he
    have hn : (n == 0) = false := by simpa using he
    clear e1 e2
    go_wp2_with fail
    go_ret
    exact ⟨rfl, hB4⟩
end Go.Proofs.Ytdnjboopaagleaa
