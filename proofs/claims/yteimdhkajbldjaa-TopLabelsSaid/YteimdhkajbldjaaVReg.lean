/- A region whose operations may come in any order, by what each of them leaves behind. -/
import Derived.Orders
import Derived.Below
import Derived.Calls
set_option linter.unusedVariables false
set_option linter.unusedSimpArgs false
namespace Go.Proofs.Yteimdhkajbldjaa
open Go Go.RowKit

section
variable {P : Program} {ops : Array Oper} {Q : Exit → Act → World → Prop} {md : Region.Mode}

theorem count_lt {p q : Nat → Bool} {i : Nat} (h1 : q i = true) (h2 : p i = false) (hle : ∀ j, p j = true → q j = true) : ∀ l : List Nat, i ∈ l → l.countP p < l.countP q
  | [], h => by cases h
  | x :: l, h => by
    have hm : ∀ l : List Nat, l.countP p ≤ l.countP q := fun l => List.countP_mono_left fun j _ hj => hle j hj
    rw [List.countP_cons, List.countP_cons]
    have hl := hm l
    by_cases e : x = i
    · subst e
      rw [h1, h2]
      simp
      omega
    · have h3 : i ∈ l := by
        rcases List.mem_cons.1 h with h | h
        · exact absurd h.symm e
        · exact h
      have ih := count_lt h1 h2 hle l h3
      have : (if p x = true then 1 else 0) ≤ (if q x = true then 1 else 0) := by
        by_cases hp : p x = true
        · rw [if_pos hp, if_pos (hle x hp)]
          exact Nat.le_refl _
        · rw [if_neg hp]
          exact Nat.zero_le _
      omega

/-- operations that have not come up yet -/
def leftN (ops : Array Oper) (listed : Array Bool) : Nat := (List.range ops.size).countP fun i => !listed.getD i true

theorem set_getD (listed : Array Bool) (i j : Nat) (h : (listed.setIfInBounds i true).getD j true = false) : listed.getD j true = false ∧ j ≠ i := by
  by_cases e : j = i
  · subst e
    exfalso
    by_cases hl : j < listed.size
    · simp [hl] at h
    · simp [hl] at h
  · refine ⟨?_, e⟩
    rwa [getD_set_ne true (Ne.symm e)] at h

theorem wpAny_inv (J : Array Bool → Act → World → Prop)
    (hstep : ∀ listed a w i, J listed a w → i ∈ Region.ready md ops listed → wpOp P ops Q i (fun a' w' => J (listed.setIfInBounds i true) a' w') a w)
    (hend : ∀ listed a w, J listed a w → Region.ready md ops listed = [] → Q .normal a w) :
    ∀ (fuel : Nat) (listed : Array Bool) (a : Act) (w : World), J listed a w → leftN ops listed ≤ fuel → wpAny P md ops Q fuel listed a w := by
  intro fuel
  induction fuel with
  | zero =>
    intro listed a w h hl
    have hr : Region.ready md ops listed = [] := by
      cases hr : Region.ready md ops listed with
      | nil => rfl
      | cons x xs =>
        have hx : x ∈ Region.ready md ops listed := by rw [hr]; simp
        obtain ⟨h0, o, ho, _⟩ := mem_ready.1 hx
        have h1 : leftN ops listed = 0 := by omega
        unfold leftN at h1
        have := List.countP_eq_zero.1 h1 x (List.mem_range.2 (Array.getElem?_eq_some_iff.1 ho).1)
        rw [h0] at this
        simp at this
    exact ⟨hr, hend _ _ _ h hr⟩
  | succ fuel ih =>
    intro listed a w h hl
    refine ⟨fun hr => hend _ _ _ h hr, fun i hi => wpOp_mono (fun a' w' h' => ih _ a' w' h' ?_) (hstep _ _ _ i h hi)⟩
    obtain ⟨h0, o, ho, _⟩ := mem_ready.1 hi
    have : leftN ops (listed.setIfInBounds i true) < leftN ops listed := by
      unfold leftN
      refine count_lt (i := i) (by rw [h0]; rfl) ?_ (fun j hj => ?_) _ (List.mem_range.2 (Array.getElem?_eq_some_iff.1 ho).1)
      · have hsz : (listed.setIfInBounds i true).getD i true = true := by
          cases hb : (listed.setIfInBounds i true).getD i true with
          | true => rfl
          | false => exact absurd rfl (set_getD _ _ _ hb).2
        rw [hsz]
        rfl
      · have : (listed.setIfInBounds i true).getD j true = false := by simpa using hj
        rw [(set_getD _ _ _ this).1]
        rfl
    omega

/-- what each operation waits for has a smaller number -/
def upward (md : Region.Mode) (ops : Array Oper) : Bool := (List.range ops.size).all fun i => ((ops[i]?).map fun o => o.after.toList.all fun e => !Region.binds md e || decide (e.on < i)).getD true
/-- each operation leaves its value somewhere else, and none has a guard -/
def simpleOps (ops : Array Oper) : Bool := (ops.toList.all fun o => o.guard.isNone && o.dst.isSome) && decide ((ops.toList.filterMap (·.dst)).Nodup)

theorem all_listed (hup : upward md ops = true) {listed : Array Bool} (hr : Region.ready md ops listed = []) : ∀ i, i < ops.size → listed.getD i true = true := by
  intro i
  induction i using Nat.strongRecOn with
  | ind i ih =>
    intro hi
    cases hb : listed.getD i true with
    | true => rfl
    | false =>
      exfalso
      have hm : i ∈ Region.ready md ops listed := by
        refine mem_ready.2 ⟨hb, ops[i], Array.getElem?_eq_getElem hi, fun e he hbd => ?_⟩
        have h1 := List.all_eq_true.1 hup i (List.mem_range.2 hi)
        rw [Array.getElem?_eq_getElem hi] at h1
        simp only [Option.map_some, Option.getD_some, List.all_eq_true] at h1
        have h2 := h1 e (by simpa using he)
        rw [hbd] at h2
        simp only [Bool.not_true, Bool.false_or, decide_eq_true_eq] at h2
        have h3 := ih e.on h2 (by omega)
        by_cases hs : e.on < listed.size
        · simpa [hs] using h3
        · exfalso
          simp [Array.getElem?_eq_none (Nat.le_of_not_lt hs)] at h3
          have : ¬ i < listed.size := by omega
          simp [Array.getElem?_eq_none (Nat.le_of_not_lt this)] at hb
      rw [hr] at hm
      cases hm

/-- the frame behind the region: operation i left v i -/
def putAll (a : Act) : List Oper → (Nat → Value) → Nat → Act
  | [], _, _ => a
  | o :: r, v, i => putAll (a.put o.dst (v i)) r v (i + 1)
theorem putAll_defers : ∀ (l : List Oper) (a : Act) (v : Nat → Value) (i : Nat), (putAll a l v i).defers = a.defers
  | [], _, _, _ => rfl
  | o :: r, a, v, i => by
    unfold putAll
    rw [putAll_defers r]
    unfold Act.put
    split <;> rfl
theorem putAll_size : ∀ (l : List Oper) (a : Act) (v : Nat → Value) (i : Nat), (putAll a l v i).tmps.size = a.tmps.size
  | [], _, _, _ => rfl
  | o :: r, a, v, i => by
    unfold putAll
    rw [putAll_size r]
    unfold Act.put
    split <;> simp
theorem putAll_off : ∀ (l : List Oper) (a : Act) (v : Nat → Value) (i t : Nat), (∀ o ∈ l, o.dst ≠ some t) → (putAll a l v i).tmps[t]? = a.tmps[t]?
  | [], _, _, _, _, _ => rfl
  | o :: r, a, v, i, t, h => by
    unfold putAll
    rw [putAll_off r _ _ _ _ fun o ho => h o (List.mem_cons_of_mem _ ho)]
    have := h o (by simp)
    unfold Act.put
    split
    · rename_i d hd
      simp only
      rw [Array.getElem?_setIfInBounds_ne]
      intro e
      exact this (by rw [hd, e])
    · rfl
theorem putAll_at : ∀ (l : List Oper) (a : Act) (v : Nat → Value) (i j t : Nat) (o : Oper), (l.filterMap (·.dst)).Nodup → l[j]? = some o → o.dst = some t → t < a.tmps.size → (putAll a l v i).tmps[t]? = some (v (i + j))
  | [], _, _, _, _, _, _, _, h, _, _ => by simp at h
  | x :: r, a, v, i, 0, t, o, hn, h, hd, ht => by
    simp only [List.getElem?_cons_zero, Option.some.injEq] at h
    subst h
    unfold putAll
    rw [putAll_off r]
    · unfold Act.put
      rw [hd]
      simp [ht]
    · intro y hy e
      rw [List.filterMap_cons_some hd, List.nodup_cons] at hn
      exact hn.1 (List.mem_filterMap.2 ⟨y, hy, e⟩)
  | x :: r, a, v, i, j + 1, t, o, hn, h, hd, ht => by
    rw [List.getElem?_cons_succ] at h
    unfold putAll
    have hn' : (r.filterMap (·.dst)).Nodup := by
      cases hx : x.dst with
      | none => rwa [List.filterMap_cons_none hx] at hn
      | some d => rw [List.filterMap_cons_some hx, List.nodup_cons] at hn; exact hn.2
    rw [putAll_at r _ v (i + 1) j t o hn' h hd (by unfold Act.put; split <;> simpa using ht)]
    rw [show i + 1 + j = i + (j + 1) by omega]

/-- the frame a is a0 but for what the operations of the region left -/
structure Fr (ops : Array Oper) (a0 a : Act) : Prop where
  d : a.defers = a0.defers
  s : a.tmps.size = a0.tmps.size
  t : ∀ t, (∀ o ∈ ops.toList, o.dst ≠ some t) → a.tmps[t]? = a0.tmps[t]?
/-- what operation i left -/
def left (ops : Array Oper) (a : Act) (i : Nat) : Value := match (ops[i]?).bind (·.dst) with | some t => a.tmps.getD t undef | none => undef
theorem Fr.all {a0 a : Act} (h : Fr ops a0 a) (hs : simpleOps ops = true) (hd : ∀ o ∈ ops.toList, ∀ t, o.dst = some t → t < a0.tmps.size) : a = putAll a0 ops.toList (left ops a) 0 := by
  unfold simpleOps at hs
  rw [Bool.and_eq_true, decide_eq_true_eq] at hs
  obtain ⟨tm, df⟩ := a
  have e2 : (putAll a0 ops.toList (left ops ⟨tm, df⟩) 0).defers = df := by rw [putAll_defers]; exact h.d.symm
  have e1 : (putAll a0 ops.toList (left ops ⟨tm, df⟩) 0).tmps = tm := by
    apply Array.ext_getElem?
    intro t
    by_cases hx : ∃ o ∈ ops.toList, o.dst = some t
    · obtain ⟨o, ho, hdt⟩ := hx
      obtain ⟨j, hj⟩ := List.getElem?_of_mem ho
      have hlt := hd o ho t hdt
      rw [putAll_at _ _ _ 0 j t o hs.2 hj hdt hlt, Nat.zero_add]
      have hoj : ops[j]? = some o := by simpa using hj
      unfold left
      rw [hoj]
      simp only [Option.bind_some, hdt]
      have hlt2 : t < tm.size := by rw [show tm.size = a0.tmps.size from h.s]; exact hlt
      rw [Array.getD_eq_getD_getElem?, Array.getElem?_eq_getElem hlt2]
      rfl
    · have hno : ∀ o ∈ ops.toList, o.dst ≠ some t := fun o ho e => hx ⟨o, ho, e⟩
      rw [putAll_off _ _ _ _ _ hno]
      exact (h.t t hno).symm
  cases hp : putAll a0 ops.toList (left ops ⟨tm, df⟩) 0 with
  | mk x y =>
    rw [hp] at e1 e2
    simp only at e1 e2
    rw [e1, e2]

theorem nodup_dst : ∀ {l : List Oper} {i j : Nat} {x y : Oper} {t : Nat}, (l.filterMap (·.dst)).Nodup → l[i]? = some x → l[j]? = some y → x.dst = some t → y.dst = some t → i = j
  | [], i, j, x, y, t, _, h, _, _, _ => by simp at h
  | z :: l, 0, 0, x, y, t, _, _, _, _, _ => rfl
  | z :: l, 0, j + 1, x, y, t, hn, hx, hy, dx, dy => by
    simp only [List.getElem?_cons_zero, Option.some.injEq] at hx
    subst hx
    rw [List.getElem?_cons_succ] at hy
    rw [List.filterMap_cons_some dx, List.nodup_cons] at hn
    exact absurd (List.mem_filterMap.2 ⟨y, List.mem_of_getElem? hy, dy⟩) hn.1
  | z :: l, i + 1, 0, x, y, t, hn, hx, hy, dx, dy => by
    simp only [List.getElem?_cons_zero, Option.some.injEq] at hy
    subst hy
    rw [List.getElem?_cons_succ] at hx
    rw [List.filterMap_cons_some dy, List.nodup_cons] at hn
    exact absurd (List.mem_filterMap.2 ⟨x, List.mem_of_getElem? hx, dx⟩) hn.1
  | z :: l, i + 1, j + 1, x, y, t, hn, hx, hy, dx, dy => by
    rw [List.getElem?_cons_succ] at hx hy
    have hn' : (l.filterMap (·.dst)).Nodup := by
      cases hz : z.dst with
      | none => rwa [List.filterMap_cons_none hz] at hn
      | some d => rw [List.filterMap_cons_some hz, List.nodup_cons] at hn; exact hn.2
    rw [nodup_dst hn' hx hy dx dy]

/-- A REGION BY WHAT ITS OPERATIONS LEAVE. Φ i w v: operation i left v; it stays so while memory grows. -/
theorem wp_region_by (hm : P.follows .mixedOrders = true) (hup : upward .any ops = true) (hs : simpleOps ops = true) {id : Nat} {a0 : Act} {w0 : World}
    (hd : (ops.toList.all fun o => (o.dst.map fun t => decide (t < a0.tmps.size)).getD true) = true)
    (Φ : Nat → World → Value → Prop) (hmono : ∀ i w w' v, Φ i w v → Below w.heap.size w w' → Φ i w' v)
    (hop : ∀ (i : Nat) (o : Oper), ops[i]? = some o → ∀ (a : Act) (w : World), Fr ops a0 a → Below w0.heap.size w0 w → (∀ e ∈ o.after, Region.binds .any e = true → Φ e.on w (left ops a e.on)) →
      o.wp P a w (fun a' w' => ∃ v, a' = a.put o.dst v ∧ Below w.heap.size w w' ∧ Φ i w' v) Q)
    (hend : ∀ (v : Nat → Value) w, Below w0.heap.size w0 w → (∀ i, i < ops.size → Φ i w (v i)) → Q .normal (putAll a0 ops.toList v 0) w) :
    (Code.region id ops true).wp P Q a0 w0 := by
  have hs' := hs
  unfold simpleOps at hs
  rw [Bool.and_eq_true, decide_eq_true_eq] at hs
  obtain ⟨hs1, hs2⟩ := hs
  have hg : ∀ (i : Nat) (o : Oper), ops[i]? = some o → o.guard = none ∧ ∃ t, o.dst = some t ∧ t < a0.tmps.size := fun i o ho => by
    have hmem : o ∈ ops.toList := by simpa using Array.mem_of_getElem? ho
    have h1 := List.all_eq_true.1 hs1 o hmem
    rw [Bool.and_eq_true] at h1
    have h2 := List.all_eq_true.1 hd o hmem
    obtain ⟨t, ht⟩ := Option.isSome_iff_exists.1 h1.2
    rw [ht] at h2
    exact ⟨by simpa using h1.1, t, ht, by simpa using h2⟩
  refine wp_region_any hm ?_
  have hdr : Below w0.heap.size w0 { w0 with drawn := w0.drawn + 1 } := (Below.refl _ _).drew
  refine wpAny_inv (fun listed a w => Fr ops a0 a ∧ Below w0.heap.size w0 w ∧ ∀ i, i < ops.size → listed.getD i true = true → Φ i w (left ops a i)) ?_ ?_ ops.size _ _ _ ⟨⟨rfl, rfl, fun _ _ => rfl⟩, hdr, fun i hi hl => ?_⟩ ?_
  · rintro listed a w i ⟨hf, hb, hΦ⟩ hi
    obtain ⟨h0, o, ho, hall⟩ := mem_ready.1 hi
    obtain ⟨hgd, t, hdt, htl⟩ := hg i o ho
    unfold wpOp
    rw [ho]
    simp only
    have hw : Region.wanted o (yielded ops a.tmps) = true := by unfold Region.wanted; rw [hgd]
    rw [if_pos hw]
    refine .inl (Oper.wp_mono ?_ (hop i o ho a w hf hb fun e he hbd => ?_))
    · rintro a' w' ⟨v, rfl, hb', hv⟩
      refine ⟨⟨?_, ?_, fun t' ht' => ?_⟩, hb.trans (hb'.mono hb.size), fun j hj hl => ?_⟩
      · rw [← hf.d]; unfold Act.put; split <;> rfl
      · rw [← hf.s]; unfold Act.put; split <;> simp
      · rw [← hf.t t' ht']
        have : o.dst ≠ some t' := ht' o (by simpa using Array.mem_of_getElem? ho)
        unfold Act.put
        rw [hdt] at this ⊢
        simp only
        rw [Array.getElem?_setIfInBounds_ne]
        intro e
        exact this (by rw [e])
      · by_cases e : j = i
        · subst e
          have : left ops (a.put o.dst v) j = v := by
            unfold left
            rw [ho]
            simp only [Option.bind_some, hdt, Act.put]
            have : t < a.tmps.size := by rw [hf.s]; exact htl
            simp [this]
          rw [this]
          exact hv
        · have hlj : listed.getD j true = true := by rwa [getD_set_ne true (Ne.symm e)] at hl
          have h1 := hmono _ _ _ _ (hΦ j hj hlj) hb'
          have : left ops (a.put o.dst v) j = left ops a j := by
            unfold left
            cases hoj : ops[j]? with
            | none => rfl
            | some oj =>
              obtain ⟨_, tj, hdj, _⟩ := hg j oj hoj
              simp only [Option.bind_some, hdj, hdt, Act.put]
              have hne : t ≠ tj := fun e2 => by
                subst e2
                have hij : i < ops.toList.length := by simpa using (Array.getElem?_eq_some_iff.1 ho).1
                have hjj : j < ops.toList.length := by simpa using hj
                have := nodup_dst hs2 (by simpa using ho) (by simpa using hoj) hdt hdj
                exact e this.symm
              simp [Array.getElem?_setIfInBounds_ne hne]
          rw [this]
          exact h1
    · have hlt := hall e he hbd
      have hsz : e.on < listed.size := by
        by_cases hs : e.on < listed.size
        · exact hs
        · simp [Array.getElem?_eq_none (Nat.le_of_not_lt hs)] at hlt
      have h1 : e.on < ops.size := by
        have h1 := List.all_eq_true.1 hup i (List.mem_range.2 (Array.getElem?_eq_some_iff.1 ho).1)
        rw [ho] at h1
        simp only [Option.map_some, Option.getD_some, List.all_eq_true] at h1
        have h2 := h1 e (by simpa using he)
        rw [hbd] at h2
        simp only [Bool.not_true, Bool.false_or, decide_eq_true_eq] at h2
        have := (Array.getElem?_eq_some_iff.1 ho).1
        omega
      exact hΦ _ h1 (by simpa [hsz] using hlt)
  · rintro listed a w ⟨hf, hb, hΦ⟩ hr
    have hall := all_listed hup hr
    rw [hf.all hs' fun o ho t ht => by
      obtain ⟨j, hj⟩ := List.getElem?_of_mem ho
      obtain ⟨_, t', h1, h2⟩ := hg j o (by simpa using hj)
      rw [h1] at ht
      cases ht
      exact h2]
    exact hend _ _ hb fun i hi => hΦ i hi (hall i hi)
  · exfalso
    have : i < (Array.replicate ops.size false).size := by simpa using hi
    simp [hi] at hl
  · unfold leftN
    exact Nat.le_trans List.countP_le_length (by simp)
end
end Go.Proofs.Yteimdhkajbldjaa
