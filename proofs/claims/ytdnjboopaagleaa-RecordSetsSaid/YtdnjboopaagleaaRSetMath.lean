/- What is set, set again, set in either order: without the program. -/
import Derived.Test.YtdnjboopaagleaaRMath
namespace Go.Proofs.Ytdnjboopaagleaa

theorem there_look (fs : List FieldL) (k : ByteArray) : there fs k = (look fs k).isSome := by
  cases h : look fs k with
  | none => rw [look_none.1 h]; rfl
  | some v =>
    cases ht : there fs k with
    | true => rfl
    | false => rw [look_none.2 ht] at h; cases h
theorem there_setFs {fs : List FieldL} {f : FieldL} (k : ByteArray) (h : Asc (fs.map (·.key))) : there (setFs fs f) k = (sEq f.key k || there fs k) := by
  rw [there_look, there_look, look_setFs k h]
  cases sEq f.key k <;> simp
theorem there_self {fs : List FieldL} {f : FieldL} (h : Asc (fs.map (·.key))) : there (setFs fs f) f.key = true := by rw [there_setFs _ h, sEq_iff.2 rfl]; rfl

theorem sEq_comm (a b : ByteArray) : sEq a b = sEq b a := by
  cases h : sEq a b with
  | true => rw [sEq_iff.1 h, sEq_iff.2 rfl]
  | false => rw [sEq_false.2 (Ne.symm (sEq_false.1 h))]

/-- set twice it is as the second time -/
theorem setFs_twice {fs : List FieldL} {f g : FieldL} (h : Asc (fs.map (·.key))) (hk : g.key = f.key) : setFs (setFs fs f) g = setFs fs g := by
  refine look_ext (setFs_asc (setFs_asc h)) (setFs_asc h) fun k => ?_
  rw [look_setFs k (setFs_asc h), look_setFs k h, look_setFs k h, hk]
  split <;> rfl
/-- two keys in either order -/
theorem setFs_swap {fs : List FieldL} {f g : FieldL} (h : Asc (fs.map (·.key))) (hk : g.key ≠ f.key) : setFs (setFs fs f) g = setFs (setFs fs g) f := by
  refine look_ext (setFs_asc (setFs_asc h)) (setFs_asc (setFs_asc h)) fun k => ?_
  rw [look_setFs k (setFs_asc h), look_setFs k h, look_setFs k (setFs_asc h), look_setFs k h]
  by_cases h1 : g.key = k
  · subst h1
    rw [if_pos (sEq_iff.2 rfl), if_neg (by rw [Bool.not_eq_true, sEq_false]; exact hk.symm), if_pos (sEq_iff.2 rfl)]
  · rw [if_neg (by rw [Bool.not_eq_true, sEq_false]; exact h1)]
    split
    · rfl
    · rw [if_neg (by rw [Bool.not_eq_true, sEq_false]; exact h1)]

theorem RecL.get_ok {r : RecL} (h : r.Ok) (k : ByteArray) : r.get k = (look r.fs k).getD ⟨#[]⟩ ∧ r.getErr k = if there r.fs k = false then 4 else 0 := by
  unfold RecL.get RecL.getErr
  have h0 := r.err_ok.2 h
  rw [if_neg (fun k => k h0), if_neg (fun k => k h0)]
  exact ⟨rfl, rfl⟩

/-- what was set is told -/
theorem RecL.get_put {r : RecL} {f : FieldL} (h : r.setErr f = 0) : (r.put f).get f.key = f.val ∧ (r.put f).getErr f.key = 0 := by
  obtain ⟨ho, hf, hs⟩ := RecL.setErr_ok.1 h
  have hx := RecL.put_ok ho hf hs
  obtain ⟨g1, g2⟩ := RecL.get_ok hx f.key
  rw [g1, g2]
  show (look (setFs r.fs f) f.key).getD _ = _ ∧ (if there (setFs r.fs f) f.key = false then _ else _) = _
  rw [look_setFs _ (fOk_asc ho.fs), if_pos (sEq_iff.2 rfl), there_self (fOk_asc ho.fs)]
  exact ⟨rfl, by simp⟩
theorem look_mem {fs : List FieldL} (h : Asc (fs.map (·.key))) {f : FieldL} (hf : f ∈ fs) : look fs f.key = some f.val := by
  have ht : there fs f.key = true := by
    unfold there
    rw [List.any_eq_true]
    exact ⟨f, hf, sEq_iff.2 rfl⟩
  obtain ⟨g, hg, hk⟩ := (there_iff h).1 ht
  have := look_there h hg hk
  rw [this]
  obtain ⟨j, hj⟩ := List.getElem?_of_mem hf
  obtain ⟨i1, i2⟩ := idx_spec f.key h
  have hjl := (List.getElem?_eq_some_iff.1 hj).1
  have hil := (List.getElem?_eq_some_iff.1 hg).1
  have e : j = idx fs f.key := by
    rcases Nat.lt_trichotomy j (idx fs f.key) with h1 | h1 | h1
    · have := (i1 j f hj).2 h1
      rw [sLt_irrefl] at this
      cases this
    · exact h1
    · have hlt := List.pairwise_iff_getElem.1 h (idx fs f.key) j (by simpa using hil) (by simpa using hjl) h1
      rw [List.getElem_map, List.getElem_map] at hlt
      rw [List.getElem?_eq_getElem hil] at hg
      rw [List.getElem?_eq_getElem hjl] at hj
      cases hg
      cases hj
      exact absurd hk (sLt_ne hlt)
  rw [e, hg] at hj
  cases hj
  rfl
/-- other fields are as they were -/
theorem RecL.get_other {r : RecL} {f h : FieldL} (he : r.setErr f = 0) (hh : h ∈ r.fs) : (r.put f).get h.key = (if sEq f.key h.key then f.val else h.val) ∧ (r.put f).getErr h.key = 0 := by
  obtain ⟨ho, hf, hs⟩ := RecL.setErr_ok.1 he
  have hx := RecL.put_ok ho hf hs
  have ha := fOk_asc ho.fs
  obtain ⟨g1, g2⟩ := RecL.get_ok hx h.key
  rw [g1, g2]
  show (look (setFs r.fs f) h.key).getD _ = _ ∧ (if there (setFs r.fs f) h.key = false then _ else _) = _
  have ht : there r.fs h.key = true := by rw [there_look, look_mem ha hh]; rfl
  rw [look_setFs _ ha, look_mem ha hh, there_setFs _ ha, ht]
  cases sEq f.key h.key <;> simp

theorem RecL.put_err {r : RecL} {f : FieldL} (h : r.setErr f = 0) : (r.put f).err = 0 := by
  obtain ⟨ho, hf, hs⟩ := RecL.setErr_ok.1 h
  exact (RecL.err_ok _).2 (RecL.put_ok ho hf hs)

theorem RecL.set_twice {r : RecL} {f g : FieldL} (h1 : r.setErr f = 0) (h2 : (r.put f).setErr g = 0) (hk : g.key = f.key) : r.setErr g = 0 ∧ r.put g = (r.put f).put g := by
  obtain ⟨ho, hf, hs⟩ := RecL.setErr_ok.1 h1
  obtain ⟨_, hg, _⟩ := RecL.setErr_ok.1 h2
  refine ⟨RecL.setErr_ok.2 ⟨ho, hg, by rw [hk]; exact hs⟩, ?_⟩
  show RecL.mk r.id r.cats (setFs r.fs g) r.rs = RecL.mk r.id r.cats (setFs (setFs r.fs f) g) r.rs
  rw [setFs_twice (fOk_asc ho.fs) hk]

theorem RecL.set_swap {r : RecL} {f g : FieldL} (h1 : r.setErr f = 0) (h2 : (r.put f).setErr g = 0) (hk : g.key ≠ f.key) : r.setErr g = 0 ∧ (r.put g).setErr f = 0 ∧ (r.put g).put f = (r.put f).put g := by
  obtain ⟨ho, hf, hs⟩ := RecL.setErr_ok.1 h1
  obtain ⟨hx, hg, hs2⟩ := RecL.setErr_ok.1 h2
  have ha := fOk_asc ho.fs
  have n1 : sEq f.key g.key = false := sEq_false.2 hk.symm
  have n2 : sEq g.key f.key = false := sEq_false.2 hk
  have tg : there (setFs r.fs f) g.key = there r.fs g.key := by rw [there_setFs _ ha, n1]; rfl
  have tf : there (setFs r.fs g) f.key = there r.fs f.key := by rw [there_setFs _ ha, n2]; rfl
  have lf := setFs_length (f := f) ha
  have lg := setFs_length (f := g) ha
  have hs2' : ¬ (there (setFs r.fs f) g.key = false ∧ (setFs r.fs f).length = 6) := hs2
  rw [tg, lf] at hs2'
  have hxl := hx.nf
  have hxl' : (setFs r.fs f).length ≤ 6 := hxl
  rw [lf] at hxl'
  have e1 : r.setErr g = 0 := by
    refine RecL.setErr_ok.2 ⟨ho, hg, fun k => ?_⟩
    cases ht : there r.fs f.key with
    | true =>
      rw [ht] at hs2'
      exact hs2' ⟨k.1, k.2⟩
    | false =>
      rw [ht] at hxl'
      simp at hxl'
      omega
  refine ⟨e1, RecL.setErr_ok.2 ⟨RecL.put_ok ho hg (RecL.setErr_ok.1 e1).2.2, hf, fun k => ?_⟩, ?_⟩
  · have k1 : there (setFs r.fs g) f.key = false := k.1
    have k2 : (setFs r.fs g).length = 6 := k.2
    rw [tf] at k1
    rw [lg] at k2
    cases ht : there r.fs g.key with
    | true =>
      rw [ht] at k2
      exact hs ⟨k1, k2⟩
    | false =>
      rw [ht] at k2
      simp at k2
      rw [k1, ht] at hs2'
      simp at hs2'
      omega
  · show RecL.mk r.id r.cats (setFs (setFs r.fs g) f) r.rs = RecL.mk r.id r.cats (setFs (setFs r.fs f) g) r.rs
    rw [setFs_swap ha hk]

theorem RecL.setRec_ok {r : RecL} {f : FieldL} (h : r.setErr f = 0) : r.setRec f = r.put f := by
  unfold RecL.setRec
  rw [if_pos h]
theorem RecL.setRec_err {r : RecL} {f : FieldL} (h : r.setErr f ≠ 0) : r.setRec f = RecL.zero := by
  unfold RecL.setRec
  rw [if_neg h]
end Go.Proofs.Ytdnjboopaagleaa
