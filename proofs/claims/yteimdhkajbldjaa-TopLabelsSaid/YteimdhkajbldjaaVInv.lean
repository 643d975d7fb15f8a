/- A region whose operations may come in any order, by what each of them leaves behind, the blocks that each lays being its own: with guards, and with stores into what the region itself lays. -/
import Derived.Test.YteimdhkajbldjaaVReg
import Derived.Test.YteimdhkajbldjaaSrvA
set_option linter.unusedVariables false
set_option linter.unusedSimpArgs false
namespace Go.Proofs.Yteimdhkajbldjaa
open Go Go.RowKit

section
variable {P : Program} {ops : Array Oper} {Q : Exit → Act → World → Prop}

/-- each operation leaves its value somewhere else -/
def apartOps (ops : Array Oper) : Bool := decide ((ops.toList.filterMap (·.dst)).Nodup)
/-- an operation that hangs on another one's value waits for it -/
def guardsOk (ops : Array Oper) : Bool := ops.toList.all fun o => match o.guard with | none => true | some (j, _) => o.after.toList.any fun e => e.on == j && Region.binds .any e
/-- a store waits for what lays its block, leaves no value, and is the only one there -/
def storesOk (ops : Array Oper) (st : Nat → Option Nat) : Bool :=
  ((List.range ops.size).all fun i => match st i with
    | none => true
    | some k => (st k).isNone && ((ops[i]?).map fun o => o.dst.isNone && o.guard.isNone && o.after.toList.any fun e => e.on == k && Region.binds .any e).getD false) &&
  ((List.range ops.size).all fun i => (List.range ops.size).all fun j => (st i).isNone || !(st i == st j) || i == j)

/-- what operation i left, for its reader: nothing where it leaves none -/
theorem left_put {a : Act} {o : Oper} {i : Nat} {v : Value} (ho : ops[i]? = some o) (hd : ∀ t, o.dst = some t → t < a.tmps.size) : left ops (a.put o.dst v) i = if o.dst.isSome then v else undef := by
  unfold left
  rw [ho]
  simp only [Option.bind_some]
  cases hdt : o.dst with
  | none => simp
  | some t =>
    have := hd t hdt
    simp [Act.put, this]
theorem left_put_ne {a : Act} {o oj : Oper} {i j : Nat} {v : Value} (hn : apartOps ops = true) (ho : ops[i]? = some o) (hij : j ≠ i) : left ops (a.put o.dst v) j = left ops a j := by
  unfold apartOps at hn
  rw [decide_eq_true_eq] at hn
  unfold left
  cases hoj : ops[j]? with
  | none => rfl
  | some oj =>
    cases hdj : oj.dst with
    | none => simp [hdj]
    | some tj =>
      simp only [Option.bind_some, hdj]
      cases hdt : o.dst with
      | none => rfl
      | some t =>
        have hne : t ≠ tj := fun e2 => by
          subst e2
          exact hij (nodup_dst hn (by simpa using ho) (by simpa using hoj) hdt hdj).symm
        simp [Act.put, Array.getElem?_setIfInBounds_ne hne]

theorem Fr.put {a0 a : Act} (h : Fr ops a0 a) {o : Oper} {i : Nat} (ho : ops[i]? = some o) (v : Value) : Fr ops a0 (a.put o.dst v) := by
  refine ⟨?_, ?_, fun t' ht' => ?_⟩
  · rw [← h.d]; unfold Act.put; split <;> rfl
  · rw [← h.s]; unfold Act.put; split <;> simp
  · rw [← h.t t' ht']
    have : o.dst ≠ some t' := ht' o (by simpa using Array.mem_of_getElem? ho)
    unfold Act.put
    cases hdt : o.dst with
    | none => rfl
    | some t =>
      rw [hdt] at this
      simp only
      rw [Array.getElem?_setIfInBounds_ne]
      intro e
      exact this (by rw [e])
theorem Fr.all' {a0 a : Act} (h : Fr ops a0 a) (hs : apartOps ops = true) (hd : ∀ o ∈ ops.toList, ∀ t, o.dst = some t → t < a0.tmps.size) : a = putAll a0 ops.toList (left ops a) 0 := by
  unfold apartOps at hs
  rw [decide_eq_true_eq] at hs
  obtain ⟨tm, df⟩ := a
  have e2 : (putAll a0 ops.toList (left ops ⟨tm, df⟩) 0).defers = df := by rw [putAll_defers]; exact h.d.symm
  have e1 : (putAll a0 ops.toList (left ops ⟨tm, df⟩) 0).tmps = tm := by
    apply Array.ext_getElem?
    intro t
    by_cases hx : ∃ o ∈ ops.toList, o.dst = some t
    · obtain ⟨o, ho, hdt⟩ := hx
      obtain ⟨j, hj⟩ := List.getElem?_of_mem ho
      have hlt := hd o ho t hdt
      rw [putAll_at _ _ _ 0 j t o hs hj hdt hlt, Nat.zero_add]
      have hoj : ops[j]? = some o := by simpa using hj
      unfold left
      rw [hoj]
      simp only [Option.bind_some, hdt]
      have hlt2 : t < tm.size := by rw [show tm.size = a0.tmps.size from h.s]; exact hlt
      rw [Array.getD_eq_getD_getElem?, Array.getElem?_eq_getElem hlt2]
      rfl
    · have hno : ∀ o ∈ ops.toList, o.dst ≠ some t := fun o ho e => hx ⟨o, ho, e⟩
      rw [putAll_off _ _ _ _ _ hno]
      exact (h.t t hno).symm
  cases hp : putAll a0 ops.toList (left ops ⟨tm, df⟩) 0 with
  | mk x y =>
    rw [hp] at e1 e2
    simp only at e1 e2
    rw [e1, e2]

/-- what is so of each operation that is listed -/
structure RegI (ops : Array Oper) (st : Nat → Option Nat) (S0 : Nat) (Φ : Nat → Nat → Nat → (Nat → Value) → World → Prop) (lo hi : Nat → Nat) (listed : Array Bool) (a : Act) (w : World) : Prop where
  at_ : ∀ i, i < ops.size → listed.getD i false = true → S0 ≤ lo i ∧ lo i ≤ hi i ∧ hi i ≤ w.heap.size ∧ Φ i (lo i) (hi i) (left ops a) w
  apart : ∀ i j, i < ops.size → j < ops.size → listed.getD i false = true → listed.getD j false = true → i ≠ j → st i = none → st j = none → hi i ≤ lo j ∨ hi j ≤ lo i
  deps : ∀ i o, listed.getD i false = true → ops[i]? = some o → ∀ e ∈ o.after, Region.binds .any e = true → listed.getD e.on false = true
  root : ∀ i k, i < ops.size → listed.getD i false = true → st i = some k → k < ops.size ∧ listed.getD k false = true ∧ lo i = lo k ∧ hi i = hi k

theorem listed_set {listed : Array Bool} {i j : Nat} (h : (listed.setIfInBounds i true).getD j false = true) : j = i ∨ listed.getD j false = true := by
  by_cases e : j = i
  · exact .inl e
  · refine .inr ?_
    simp only [Array.getD_eq_getD_getElem?] at h ⊢
    rwa [Array.getElem?_setIfInBounds_ne (Ne.symm e)] at h

theorem listed_mono {listed : Array Bool} {i j : Nat} (h : listed.getD j false = true) : (listed.setIfInBounds i true).getD j false = true := by
  simp only [Array.getD_eq_getD_getElem?] at h ⊢
  by_cases e : i = j
  · subst e
    by_cases hl : i < listed.size
    · simp [hl]
    · simp [hl] at h
  · rwa [Array.getElem?_setIfInBounds_ne e]

/-- what must have come ahead -/
inductive Anc (ops : Array Oper) : Nat → Nat → Prop
  | one {i : Nat} {o : Oper} {e : Edge} : ops[i]? = some o → e ∈ o.after → Region.binds .any e = true → Anc ops i e.on
  | more {i j k : Nat} : Anc ops i j → Anc ops j k → Anc ops i k
/-- A REGION BY WHAT ITS OPERATIONS LEAVE. Φ i lo hi w v: operation i left v, and laid the blocks from lo to hi; it stays so as long as these, and all that was there ahead of the region, stay as they are. st i = some k: operation i stores into what k laid. G i: operation i is wanted. -/
theorem wp_region_anc (hm : P.follows .mixedOrders = true) (hup : upward .any ops = true) (hs : apartOps ops = true) (hgo : guardsOk ops = true) (st : Nat → Option Nat) (hst : storesOk ops st = true) {id : Nat} {a0 : Act} {w0 : World}
    (hd : (ops.toList.all fun o => (o.dst.map fun t => decide (t < a0.tmps.size)).getD true) = true)
    (G : Nat → Bool) (Φ : Nat → Nat → Nat → (Nat → Value) → World → Prop)
    (hmono : ∀ i lo hi w w' v, Φ i lo hi v w → w0.heap.size ≤ lo → hi ≤ w.heap.size → Kept (fun z => z < w0.heap.size ∨ (lo ≤ z ∧ z < hi)) w w' → Φ i lo hi v w')
    (hdep : ∀ i o lo hi w v v', ops[i]? = some o → Φ i lo hi v w → v i = v' i → (∀ j, Anc ops i j → v j = v' j) → Φ i lo hi v' w)
    (hno : ∀ i lo w v, G i = false → v i = undef → Φ i lo lo v w)
    (hgd : ∀ i o j b, ops[i]? = some o → o.guard = some (j, b) → ∀ lo hi w v, Φ j lo hi v w → (v j = .bool b ∧ G i = true) ∨ (v j = .bool (!b) ∧ G i = false) ∨ (v j = undef ∧ G i = false))
    (hgn : ∀ i o, ops[i]? = some o → o.guard = none → G i = true)
    (hop : ∀ (i : Nat) (o : Oper), ops[i]? = some o → st i = none → G i = true → ∀ (a : Act) (w : World), Fr ops a0 a → Below w0.heap.size w0 w → (∀ j, Anc ops i j → ∃ lo hi, w0.heap.size ≤ lo ∧ hi ≤ w.heap.size ∧ Φ j lo hi (left ops a) w) →
      o.wp P a w (fun a' w' => ∃ v, a' = a.put o.dst v ∧ Below w.heap.size w w' ∧ ∀ vs : Nat → Value, vs i = (if o.dst.isSome then v else undef) → (∀ j, Anc ops i j → vs j = left ops a j) → Φ i w.heap.size w'.heap.size vs w') Q)
    (hsto : ∀ (i k : Nat) (o : Oper), ops[i]? = some o → st i = some k → ∀ (a : Act) (w : World) (lo hi : Nat), Fr ops a0 a → Below w0.heap.size w0 w → w0.heap.size ≤ lo → hi ≤ w.heap.size → Φ k lo hi (left ops a) w → (∀ j, Anc ops i j → ∃ lo hi, w0.heap.size ≤ lo ∧ hi ≤ w.heap.size ∧ Φ j lo hi (left ops a) w) →
      o.wp P a w (fun a' w' => a' = a ∧ Kept (fun z => ¬ (lo ≤ z ∧ z < hi)) w w' ∧ Φ k lo hi (left ops a) w' ∧ Φ i lo hi (left ops a) w') Q)
    (hend : ∀ (v : Nat → Value) (lo hi : Nat → Nat) w, Below w0.heap.size w0 w → (∀ i, i < ops.size → w0.heap.size ≤ lo i ∧ hi i ≤ w.heap.size ∧ Φ i (lo i) (hi i) v w) → Q .normal (putAll a0 ops.toList v 0) w) :
    (Code.region id ops true).wp P Q a0 w0 := by
  have hdl : ∀ o ∈ ops.toList, ∀ t, o.dst = some t → t < a0.tmps.size := fun o ho t ht => by
    have h2 := List.all_eq_true.1 hd o ho
    rw [ht] at h2
    simpa using h2
  have hgl : ∀ (i : Nat) (o : Oper) (j : Nat) (b : Bool), ops[i]? = some o → o.guard = some (j, b) → ∃ e ∈ o.after, e.on = j ∧ Region.binds .any e = true := fun i o j b ho hg => by
    unfold guardsOk at hgo
    have h2 := List.all_eq_true.1 hgo o (by simpa using Array.mem_of_getElem? ho)
    rw [hg] at h2
    obtain ⟨e, he, h3⟩ := List.any_eq_true.1 h2
    rw [Bool.and_eq_true, beq_iff_eq] at h3
    exact ⟨e, by simpa using he, h3.1, h3.2⟩
  unfold storesOk at hst
  rw [Bool.and_eq_true] at hst
  have hst1 : ∀ (i k : Nat) (o : Oper), ops[i]? = some o → st i = some k → st k = none ∧ o.dst = none ∧ o.guard = none ∧ ∃ e ∈ o.after, e.on = k ∧ Region.binds .any e = true := fun i k o ho hk => by
    have h2 := List.all_eq_true.1 hst.1 i (List.mem_range.2 (Array.getElem?_eq_some_iff.1 ho).1)
    rw [hk] at h2
    simp only [ho, Option.map_some, Option.getD_some, Bool.and_eq_true] at h2
    obtain ⟨h3, ⟨h4, h5⟩, h6⟩ := h2
    obtain ⟨e, he, h7⟩ := List.any_eq_true.1 h6
    rw [Bool.and_eq_true, beq_iff_eq] at h7
    exact ⟨by simpa using h3, by simpa using h4, by simpa using h5, e, by simpa using he, h7.1, h7.2⟩
  have hst2 : ∀ (i j k : Nat), i < ops.size → j < ops.size → st i = some k → st j = some k → i = j := fun i j k hi hj h1 h2 => by
    have h3 := List.all_eq_true.1 (List.all_eq_true.1 hst.2 i (List.mem_range.2 hi)) j (List.mem_range.2 hj)
    rw [h1, h2] at h3
    simpa using h3
  refine wp_region_any hm ?_
  have hdr : Below w0.heap.size w0 { w0 with drawn := w0.drawn + 1 } := (Below.refl _ _).drew
  refine wpAny_inv (fun listed a w => listed.size = ops.size ∧ Fr ops a0 a ∧ Below w0.heap.size w0 w ∧ ∃ lo hi, RegI ops st w0.heap.size Φ lo hi listed a w) ?_ ?_ ops.size _ _ _ ⟨by simp, ⟨rfl, rfl, fun _ _ => rfl⟩, hdr, fun _ => w0.heap.size, fun _ => w0.heap.size, ⟨fun i hi hl => ?_, fun i j hi _ hl => ?_, fun i o hl ho => ?_, fun i k hi hl => ?_⟩⟩ ?_
  · rintro listed a w i ⟨hlz, hf, hb, lo, hi, hI⟩ hir
    obtain ⟨h0, o, ho, hall⟩ := mem_ready.1 hir
    have hio : i < ops.size := (Array.getElem?_eq_some_iff.1 ho).1
    have hnl : listed.getD i false = false := by
      have : i < listed.size := by omega
      simpa [this] using h0
    have hdo : ∀ t, o.dst = some t → t < a.tmps.size := fun t ht => by rw [hf.s]; exact hdl o (by simpa using Array.mem_of_getElem? ho) t ht
    have hanc : ∀ {x y : Nat}, Anc ops x y → (∀ o e, ops[x]? = some o → e ∈ o.after → Region.binds .any e = true → listed.getD e.on false = true) → listed.getD y false = true := fun h => by
      induction h with
      | one h1 h2 h3 => exact fun k => k _ _ h1 h2 h3
      | more _ _ ih1 ih2 => exact fun k => ih2 fun o e ho he hb => hI.deps _ o (ih1 k) ho e he hb
    have hldep : ∀ j, Anc ops i j → listed.getD j false = true := fun j hj => hanc hj fun o' e ho' he hb => by
      rw [ho] at ho'
      cases ho'
      exact hall e he hb
    have hlt : ∀ j, listed.getD j false = true → j < ops.size := fun j hj => by
      rw [← hlz]
      refine Nat.lt_of_not_le fun hle => ?_
      rw [Array.getD_eq_getD_getElem?, Array.getElem?_eq_none hle] at hj
      cases hj
    have hdeps : ∀ e ∈ o.after, Region.binds .any e = true → e.on < ops.size ∧ listed.getD e.on false = true ∧ w0.heap.size ≤ lo e.on ∧ hi e.on ≤ w.heap.size ∧ Φ e.on (lo e.on) (hi e.on) (left ops a) w := fun e he hbd => by
      have h3 := hI.at_ e.on (hlt _ (hall e he hbd)) (hall e he hbd)
      exact ⟨hlt _ (hall e he hbd), hall e he hbd, h3.1, h3.2.2.1, h3.2.2.2⟩
    have hdeps' : ∀ j, Anc ops i j → ∃ lo hi, w0.heap.size ≤ lo ∧ hi ≤ w.heap.size ∧ Φ j lo hi (left ops a) w := fun j hj => by
      have h3 := hI.at_ j (hlt _ (hldep j hj)) (hldep j hj)
      exact ⟨_, _, h3.1, h3.2.2.1, h3.2.2.2⟩
    -- a step that lays blocks of its own
    have hstep : ∀ (v : Value) (w' : World), st i = none → Below w.heap.size w w' → (∀ vs : Nat → Value, vs i = (if o.dst.isSome then v else undef) → (∀ j, Anc ops i j → vs j = left ops a j) → Φ i w.heap.size w'.heap.size vs w') →
        (listed.setIfInBounds i true).size = ops.size ∧ Fr ops a0 (a.put o.dst v) ∧ Below w0.heap.size w0 w' ∧ ∃ lo hi, RegI ops st w0.heap.size Φ lo hi (listed.setIfInBounds i true) (a.put o.dst v) w' := fun v w' hsi hb' hv => by
      have hbs := hb.size
      have hbs' := hb'.size
      have hne : ∀ k, listed.getD k false = true → left ops (a.put o.dst v) k = left ops a k := fun k hk => left_put_ne (oj := o) hs ho fun e => by rw [e, hnl] at hk; cases hk
      refine ⟨by simpa using hlz, hf.put ho v, hb.trans (hb'.mono hb.size), fun j => if j = i then w.heap.size else lo j, fun j => if j = i then w'.heap.size else hi j, ?_, ?_, ?_, ?_⟩
      · intro j hj hl
        by_cases e : j = i
        · subst e
          rw [if_pos rfl, if_pos rfl]
          exact ⟨hbs, hbs', Nat.le_refl _, hv _ (left_put ho hdo) fun j hj => hne _ (hldep j hj)⟩
        · rw [if_neg e, if_neg e]
          have hlj := (listed_set hl).resolve_left e
          obtain ⟨h1, h2, h3, h4⟩ := hI.at_ j hj hlj
          refine ⟨h1, h2, by omega, hdep _ _ _ _ _ _ _ (Array.getElem?_eq_getElem hj) (hmono _ _ _ _ _ _ h4 h1 h3 ((Kept.of hb').sub fun z hz _ => trivial)) (hne j hlj).symm fun j' hj' => (hne _ (hanc hj' fun o' e' ho' he' hb' => hI.deps j o' hlj ho' e' he' hb')).symm⟩
      · intro j k hj hk hlj hlk hne hsj hsk
        by_cases ej : j = i
        · have ek : k ≠ i := fun e => hne (ej.trans e.symm)
          rw [if_pos ej, if_pos ej, if_neg ek, if_neg ek]
          have := (hI.at_ k hk ((listed_set hlk).resolve_left ek)).2.2.1
          exact .inr this
        · by_cases ek : k = i
          · rw [if_neg ej, if_neg ej, if_pos ek, if_pos ek]
            have := (hI.at_ j hj ((listed_set hlj).resolve_left ej)).2.2.1
            exact .inl this
          · rw [if_neg ej, if_neg ej, if_neg ek, if_neg ek]
            exact hI.apart j k hj hk ((listed_set hlj).resolve_left ej) ((listed_set hlk).resolve_left ek) hne hsj hsk
      · intro j oj hlj hoj e' he' hbd'
        by_cases ej : j = i
        · subst ej
          rw [ho] at hoj
          cases hoj
          exact listed_mono (hall e' he' hbd')
        · exact listed_mono (hI.deps j oj ((listed_set hlj).resolve_left ej) hoj e' he' hbd')
      · intro j k hj hlj hsj
        have ej : j ≠ i := fun e => by rw [e, hsi] at hsj; cases hsj
        obtain ⟨h1, h2, h3, h4⟩ := hI.root j k hj ((listed_set hlj).resolve_left ej) hsj
        have ek : k ≠ i := fun e => by rw [e, hnl] at h2; cases h2
        rw [if_neg ej, if_neg ej, if_neg ek, if_neg ek]
        refine ⟨h1, ?_, h3, h4⟩
        simp only [Array.getD_eq_getD_getElem?] at h2 ⊢
        rwa [Array.getElem?_setIfInBounds_ne (Ne.symm ek)]
    unfold wpOp
    rw [ho]
    simp only
    by_cases hG : G i = true
    · -- wanted
      have hw : Region.wanted o (yielded ops a.tmps) = true := by
        unfold Region.wanted
        cases hgu : o.guard with
        | none => rfl
        | some jb =>
          obtain ⟨j, b⟩ := jb
          obtain ⟨e, he, rfl, hbd⟩ := hgl i o j b ho hgu
          obtain ⟨h1, h2, h3, h4, h5⟩ := hdeps e he hbd
          rcases hgd i o _ b ho hgu _ _ _ _ h5 with ⟨h6, _⟩ | ⟨_, h6⟩ | ⟨_, h6⟩
          · simp only [beq_iff_eq]
            unfold yielded
            unfold left at h6
            cases hx : (ops[e.on]?).bind (·.dst) with
            | none => rw [hx] at h6; simp [undef] at h6
            | some t =>
              rw [hx] at h6
              simp only at h6
              rw [Array.getD_eq_getD_getElem?] at h6
              cases hy : a.tmps[t]? with
              | none => rw [hy] at h6; simp [undef] at h6
              | some u =>
                rw [hy] at h6
                simp only [Option.getD_some] at h6
                simp [hy, h6]
          · rw [hG] at h6; cases h6
          · rw [hG] at h6; cases h6
      rw [if_pos hw]
      cases hsi : st i with
      | none =>
        refine .inl (Oper.wp_mono ?_ (hop i o ho hsi hG a w hf hb hdeps'))
        rintro a' w' ⟨v, rfl, hb', hv⟩
        exact hstep v w' hsi hb' hv
      | some k =>
        obtain ⟨hsk, hdn, hgn', e, he, rfl, hbd⟩ := hst1 i k o ho hsi
        obtain ⟨k1, k2, k3, k4, k5⟩ := hdeps e he hbd
        have k6 := (hI.at_ e.on k1 k2).2.1
        refine .inl (Oper.wp_mono ?_ (hsto i e.on o ho hsi a w _ _ hf hb k3 k4 k5 hdeps'))
        rintro a' w' ⟨rfl, hk', hΦk, hΦi⟩
        have hsz := hk'.size
        have hki : e.on ≠ i := fun e2 => by rw [e2, hsi] at hsk; cases hsk
        refine ⟨by simpa using hlz, hf, hb.trans (hk'.to (fun z hz h => by omega) hb.size), fun j => if j = i then lo e.on else lo j, fun j => if j = i then hi e.on else hi j, ?_, ?_, ?_, ?_⟩
        · intro j hj hl
          by_cases ej : j = i
          · subst ej
            rw [if_pos rfl, if_pos rfl]
            exact ⟨k3, k6, by omega, hΦi⟩
          · rw [if_neg ej, if_neg ej]
            have hlj := (listed_set hl).resolve_left ej
            obtain ⟨h1, h2, h3, h4⟩ := hI.at_ j hj hlj
            by_cases ek : j = e.on
            · subst ek
              exact ⟨h1, h2, by omega, hΦk⟩
            · refine ⟨h1, h2, by omega, hmono _ _ _ _ _ _ h4 h1 h3 (hk'.sub fun z hz hzz => ?_)⟩
              intro hz2
              rcases hzz with hzz | hzz
              · omega
              · cases hsj : st j with
                | none =>
                  rcases hI.apart j e.on hj k1 hlj k2 ek hsj hsk with h5 | h5 <;> omega
                | some k' =>
                  obtain ⟨r1, r2, r3, r4⟩ := hI.root j k' hj hlj hsj
                  have hk'e : k' ≠ e.on := fun e2 => by
                    subst e2
                    exact ej (hst2 j i _ hj hio hsj hsi)
                  obtain ⟨hsk', _⟩ := hst1 j k' _ (Array.getElem?_eq_getElem hj) hsj
                  rcases hI.apart k' e.on r1 k1 r2 k2 hk'e hsk' hsk with h5 | h5 <;> omega
        · intro j k hj hk hlj hlk hne hsj hsk2
          have ej : j ≠ i := fun e2 => by rw [e2, hsi] at hsj; cases hsj
          have ek : k ≠ i := fun e2 => by rw [e2, hsi] at hsk2; cases hsk2
          rw [if_neg ej, if_neg ej, if_neg ek, if_neg ek]
          exact hI.apart j k hj hk ((listed_set hlj).resolve_left ej) ((listed_set hlk).resolve_left ek) hne hsj hsk2
        · intro j oj hlj hoj e' he' hbd'
          by_cases ej : j = i
          · subst ej
            rw [ho] at hoj
            cases hoj
            exact listed_mono (hall e' he' hbd')
          · exact listed_mono (hI.deps j oj ((listed_set hlj).resolve_left ej) hoj e' he' hbd')
        · intro j k hj hlj hsj
          by_cases ej : j = i
          · subst ej
            rw [hsi] at hsj
            cases hsj
            rw [if_pos rfl, if_pos rfl, if_neg hki, if_neg hki]
            refine ⟨k1, ?_, rfl, rfl⟩
            simp only [Array.getD_eq_getD_getElem?] at k2 ⊢
            rwa [Array.getElem?_setIfInBounds_ne (Ne.symm hki)]
          · obtain ⟨h1, h2, h3, h4⟩ := hI.root j k hj ((listed_set hlj).resolve_left ej) hsj
            have ek : k ≠ i := fun e2 => by rw [e2, hnl] at h2; cases h2
            rw [if_neg ej, if_neg ej, if_neg ek, if_neg ek]
            refine ⟨h1, ?_, h3, h4⟩
            simp only [Array.getD_eq_getD_getElem?] at h2 ⊢
            rwa [Array.getElem?_setIfInBounds_ne (Ne.symm ek)]
    · -- unwanted
      have hG' : G i = false := by simpa using hG
      have hw : Region.wanted o (yielded ops a.tmps) = false := by
        cases hgu : o.guard with
        | none => exact absurd (hgn i o ho hgu) hG
        | some jb =>
          obtain ⟨j, b⟩ := jb
          obtain ⟨e, he, rfl, hbd⟩ := hgl i o j b ho hgu
          obtain ⟨h1, h2, h3, h4, h5⟩ := hdeps e he hbd
          unfold Region.wanted
          rw [hgu]
          simp only
          rw [beq_eq_false_iff_ne]
          intro hy
          unfold yielded at hy
          have hval : left ops a e.on = .bool b := by
            unfold left
            cases hx : (ops[e.on]?).bind (·.dst) with
            | none => rw [hx] at hy; simp at hy
            | some t =>
              rw [hx] at hy
              simp only [Option.bind_some] at hy
              simp only
              rw [Array.getD_eq_getD_getElem?]
              cases hz : a.tmps[t]? with
              | none => rw [hz] at hy; simp at hy
              | some u =>
                rw [hz] at hy
                split at hy
                · rename_i bb hbb
                  cases hbb
                  cases hy
                  rfl
                · cases hy
          rcases hgd i o _ b ho hgu _ _ _ _ h5 with ⟨_, h6⟩ | ⟨h6, _⟩ | ⟨h6, _⟩
          · exact hG h6
          · rw [hval] at h6
            simp at h6
          · rw [hval] at h6
            simp [undef] at h6
      rw [if_neg (by rw [hw]; decide)]
      have hsi : st i = none := by
        cases hsi : st i with
        | none => rfl
        | some k =>
          obtain ⟨_, _, hgn', _⟩ := hst1 i k o ho hsi
          exact absurd (hgn i o ho hgn') hG
      refine hstep undef w hsi (Below.refl _ _) fun vs hvs _ => ?_
      exact hno i w.heap.size w vs hG' (by rw [hvs]; split <;> rfl)
  · rintro listed a w ⟨hlz, hf, hb, lo, hi, hI⟩ hr
    have hall := all_listed hup hr
    rw [hf.all' hs hdl]
    refine hend _ lo hi _ hb fun i hi' => ?_
    have h1 := hI.at_ i hi' (by
      have h2 := hall i hi'
      have : i < listed.size := by omega
      simpa [this] using h2)
    exact ⟨h1.1, h1.2.2.1, h1.2.2.2⟩
  · exfalso
    have : i < (Array.replicate ops.size false).size := by simpa using hi
    simp [hi] at hl
  · exfalso
    have : i < (Array.replicate ops.size false).size := by simpa using hi
    simp [hi] at hl
  · exfalso
    have : i < (Array.replicate ops.size false).size := by simpa using (Array.getElem?_eq_some_iff.1 ho).1
    simp [(Array.getElem?_eq_some_iff.1 ho).1] at hl
  · exfalso
    have : i < (Array.replicate ops.size false).size := by simpa using hi
    simp [hi] at hl
  · unfold leftN
    exact Nat.le_trans List.countP_le_length (by simp)

/-- A REGION BY WHAT ITS OPERATIONS LEAVE. Φ i lo hi w v: operation i left v, and laid the blocks from lo to hi; it stays so as long as these, and all that was there ahead of the region, stay as they are. st i = some k: operation i stores into what k laid. G i: operation i is wanted. -/
theorem wp_region_inv (hm : P.follows .mixedOrders = true) (hup : upward .any ops = true) (hs : apartOps ops = true) (hgo : guardsOk ops = true) (st : Nat → Option Nat) (hst : storesOk ops st = true) {id : Nat} {a0 : Act} {w0 : World}
    (hd : (ops.toList.all fun o => (o.dst.map fun t => decide (t < a0.tmps.size)).getD true) = true)
    (G : Nat → Bool) (Φ : Nat → Nat → Nat → (Nat → Value) → World → Prop)
    (hmono : ∀ i lo hi w w' v, Φ i lo hi v w → w0.heap.size ≤ lo → hi ≤ w.heap.size → Kept (fun z => z < w0.heap.size ∨ (lo ≤ z ∧ z < hi)) w w' → Φ i lo hi v w')
    (hdep : ∀ i o lo hi w v v', ops[i]? = some o → Φ i lo hi v w → v i = v' i → (∀ e ∈ o.after, Region.binds .any e = true → v e.on = v' e.on) → Φ i lo hi v' w)
    (hno : ∀ i lo w v, G i = false → v i = undef → Φ i lo lo v w)
    (hgd : ∀ i o j b, ops[i]? = some o → o.guard = some (j, b) → ∀ lo hi w v, Φ j lo hi v w → (v j = .bool b ∧ G i = true) ∨ (v j = .bool (!b) ∧ G i = false) ∨ (v j = undef ∧ G i = false))
    (hgn : ∀ i o, ops[i]? = some o → o.guard = none → G i = true)
    (hop : ∀ (i : Nat) (o : Oper), ops[i]? = some o → st i = none → G i = true → ∀ (a : Act) (w : World), Fr ops a0 a → Below w0.heap.size w0 w → (∀ e ∈ o.after, Region.binds .any e = true → ∃ lo hi, w0.heap.size ≤ lo ∧ hi ≤ w.heap.size ∧ Φ e.on lo hi (left ops a) w) →
      o.wp P a w (fun a' w' => ∃ v, a' = a.put o.dst v ∧ Below w.heap.size w w' ∧ ∀ vs : Nat → Value, vs i = (if o.dst.isSome then v else undef) → (∀ e ∈ o.after, Region.binds .any e = true → vs e.on = left ops a e.on) → Φ i w.heap.size w'.heap.size vs w') Q)
    (hsto : ∀ (i k : Nat) (o : Oper), ops[i]? = some o → st i = some k → ∀ (a : Act) (w : World) (lo hi : Nat), Fr ops a0 a → Below w0.heap.size w0 w → w0.heap.size ≤ lo → hi ≤ w.heap.size → Φ k lo hi (left ops a) w → (∀ e ∈ o.after, Region.binds .any e = true → ∃ lo hi, w0.heap.size ≤ lo ∧ hi ≤ w.heap.size ∧ Φ e.on lo hi (left ops a) w) →
      o.wp P a w (fun a' w' => a' = a ∧ Kept (fun z => ¬ (lo ≤ z ∧ z < hi)) w w' ∧ Φ k lo hi (left ops a) w' ∧ Φ i lo hi (left ops a) w') Q)
    (hend : ∀ (v : Nat → Value) (lo hi : Nat → Nat) w, Below w0.heap.size w0 w → (∀ i, i < ops.size → w0.heap.size ≤ lo i ∧ hi i ≤ w.heap.size ∧ Φ i (lo i) (hi i) v w) → Q .normal (putAll a0 ops.toList v 0) w) :
    (Code.region id ops true).wp P Q a0 w0 :=
  wp_region_anc hm hup hs hgo st hst hd G Φ hmono (fun i o lo hi w v v' ho h hi' hv => hdep i o lo hi w v v' ho h hi' fun e he hb => hv _ (.one ho he hb)) hno hgd hgn
    (fun i o ho h1 h2 a w hf hb hv => Oper.wp_mono (fun a' w' ⟨v, e, hb', h⟩ => ⟨v, e, hb', fun vs hi' hvs => h vs hi' fun e he hb => hvs _ (.one ho he hb)⟩) (hop i o ho h1 h2 a w hf hb fun e he hbd => hv _ (.one ho he hbd)))
    (fun i k o ho h1 a w lo hi hf hb h2 h3 h4 hv => hsto i k o ho h1 a w lo hi hf hb h2 h3 h4 fun e he hbd => hv _ (.one ho he hbd)) hend

/-- .. of each of a list of operations, from number i on -/
def Each (R : Nat → Oper → Prop) : Nat → List Oper → Prop
  | _, [] => True
  | i, o :: l => R i o ∧ Each R (i + 1) l
theorem Each.at_ {R : Nat → Oper → Prop} : ∀ {l : List Oper} {n i : Nat} {o : Oper}, Each R n l → l[i]? = some o → R (n + i) o
  | [], n, i, o, _, h => by simp at h
  | x :: l, n, 0, o, h, h2 => by
    simp only [List.getElem?_cons_zero, Option.some.injEq] at h2
    subst h2
    exact h.1
  | x :: l, n, i + 1, o, h, h2 => by
    rw [List.getElem?_cons_succ] at h2
    have := Each.at_ h.2 h2
    rwa [show n + 1 + i = n + (i + 1) by omega] at this
theorem Each.all {R : Nat → Oper → Prop} (h : Each R 0 ops.toList) {i : Nat} {o : Oper} (ho : ops[i]? = some o) : R i o := by
  have := Each.at_ h (i := i) (o := o) (by simpa using ho)
  rwa [Nat.zero_add] at this

theorem each_of {R : Nat → Oper → Prop} (h : Each R 0 ops.toList) : ∀ i o, ops[i]? = some o → R i o := fun _ _ ho => Each.all h ho
theorem no_guard (h : (ops.toList.all fun o => o.guard.isNone) = true) {i : Nat} {o : Oper} (ho : ops[i]? = some o) : o.guard = none := by
  have := List.all_eq_true.1 h o (by simpa using Array.mem_of_getElem? ho)
  simpa using this
/-! ## one operation -/
theorem Fr.old {a0 a : Act} (h : Fr ops a0 a) {v : Value} (t : Tmp) (hn : (ops.toList.all fun o => !(o.dst == some t)) = true) (hv : a0.tmps[t]? = some v) : a.eval (.tmp t) = v := by
  have h1 := h.t t fun o ho e => by
    have := List.all_eq_true.1 hn o ho
    rw [e] at this
    simp at this
  show a.tmps.getD t undef = v
  rw [Array.getD_eq_getD_getElem?, h1, hv]
  rfl
theorem Fr.new {a0 a : Act} (h : Fr ops a0 a) (j : Nat) (t : Tmp) (hj : (ops[j]?).bind (·.dst) = some t) : a.eval (.tmp t) = left ops a j := by
  unfold left
  rw [hj]
  rfl
/-- what an operand is that is no slot -/
structure Rho (ρ : Operand → Value) : Prop where
  c : ∀ v, ρ (.const v) = v
  f : ∀ f, ρ (.func f) = .func (.func f) #[] #[]
theorem Act.rho (a : Act) : Rho a.eval := ⟨fun _ => rfl, fun _ => rfl⟩
theorem wp_val {o : Oper} {a : Act} {w w' : World} {v : Value} {K : Act → World → Prop} {ρ : Operand → Value} (hρ : a.eval = ρ) (h : (execOp ρ o).run P w = .ok (.value v) w') (hK : K (a.put o.dst v) w') : o.wp P a w K Q := by
  subst hρ
  unfold Oper.wp
  rw [h]
  exact hK
theorem wp_skip {o : Oper} {a : Act} {w w' : World} {K : Act → World → Prop} {ρ : Operand → Value} (hρ : a.eval = ρ) (h : (execOp ρ o).run P w = .ok .skip w') (hK : K (a.put o.dst undef) w') : o.wp P a w K Q := by
  subst hρ
  unfold Oper.wp
  rw [h]
  exact hK
theorem wp_call {o : Oper} {a : Act} {w : World} {f : FuncId} {args : Array Value} {K : Act → World → Prop} {ρ : Operand → Value} (hρ : a.eval = ρ) (h : (execOp ρ o).run P w = .ok (.enter f args) w) (hc : Calls P f args w fun e w' => ∃ v, e = .returned v ∧ K (a.put o.dst v) w') : o.wp P a w K Q := by
  subst hρ
  unfold Oper.wp
  rw [h, Oper.upon_enter]
  refine hc.mono ?_
  rintro e w' ⟨v, rfl, k⟩
  exact k
end

/-- four cells of a block of its own, that may be written -/
structure QB (w : World) (b : Nat) (v0 v1 v2 v3 : Value) : Prop where
  c0 : w.cell? ⟨b, 0, none⟩ = some v0
  c1 : w.cell? ⟨b, 1, none⟩ = some v1
  c2 : w.cell? ⟨b, 2, none⟩ = some v2
  c3 : w.cell? ⟨b, 3, none⟩ = some v3
  z0 : w.frozen? ⟨b, 0, none⟩ = false
  z1 : w.frozen? ⟨b, 1, none⟩ = false
  z2 : w.frozen? ⟨b, 2, none⟩ = false
  z3 : w.frozen? ⟨b, 3, none⟩ = false
theorem QB.kept {Z : Nat → Prop} {w w' : World} {b : Nat} {v0 v1 v2 v3 : Value} (h : QB w b v0 v1 v2 v3) (k : Kept Z w w') (hz : Z b) : QB w' b v0 v1 v2 v3 :=
  ⟨k.cell hz h.c0, k.cell hz h.c1, k.cell hz h.c2, k.cell hz h.c3, (k.frozen hz (cell_lt h.c0)).trans h.z0, (k.frozen hz (cell_lt h.c0)).trans h.z1, (k.frozen hz (cell_lt h.c0)).trans h.z2, (k.frozen hz (cell_lt h.c0)).trans h.z3⟩
theorem QB.set {w : World} {b : Nat} {v0 v1 v2 v3 : Value} (h : QB w b v0 v1 v2 v3) (u0 u1 u2 u3 : Value) : QB ((((w.setCell ⟨b, 0, none⟩ u0).setCell ⟨b, 1, none⟩ u1).setCell ⟨b, 2, none⟩ u2).setCell ⟨b, 3, none⟩ u3) b u0 u1 u2 u3 := by
  obtain ⟨c0, c1, c2, c3, z0, z1, z2, z3⟩ := h
  constructor <;> simp [go_sem, c0, c1, c2, c3, z0, z1, z2, z3]
/-- what is told lies in the blocks from lo to hi -/
def RegTold (lo hi : Nat) (w : World) (T : ToldL) (P : ToldP) : Prop := ∃ w1, NewTold lo w1 T P ∧ w1.heap.size ≤ hi ∧ Kept (fun z => lo ≤ z ∧ z < hi) w1 w
theorem RegTold.now {lo : Nat} {w : World} {T : ToldL} {P : ToldP} (h : NewTold lo w T P) : RegTold lo w.heap.size w T P := ⟨w, h, Nat.le_refl _, Kept.refl _ _⟩
theorem RegTold.kept {Z : Nat → Prop} {lo hi : Nat} {w w' : World} {T : ToldL} {P : ToldP} (h : RegTold lo hi w T P) (k : Kept Z w w') (hz : ∀ z, lo ≤ z → z < hi → Z z) : RegTold lo hi w' T P := by
  obtain ⟨w1, h1, h2, h3⟩ := h
  exact ⟨w1, h1, h2, h3.trans (k.sub fun z _ h => hz z h.1 h.2)⟩
theorem RegTold.new {lo hi : Nat} {w : World} {T : ToldL} {P : ToldP} (h : RegTold lo hi w T P) : NewTold lo w T P := by
  obtain ⟨w1, h1, h2, h3⟩ := h
  exact h1.kept h3 fun b hb hl => ⟨hb, Nat.lt_of_lt_of_le hl h2⟩
theorem toldv_inj {T : ToldL} {P P' : ToldP} (h : T.v P = T.v P') : P = P' := by
  obtain ⟨a, b, c, d, e, f⟩ := P
  obtain ⟨a', b', c', d', e', f'⟩ := P'
  simp only [ToldL.v, Value.agg.injEq, Array.mk.injEq, List.cons.injEq, Value.slice.injEq] at h
  obtain ⟨_, ⟨h1, _, h2⟩, ⟨h3, _, h4⟩, ⟨h5, _, h6⟩, _⟩ := h
  subst h1 h2 h3 h4 h5 h6
  rfl
end Go.Proofs.Yteimdhkajbldjaa
