/- What is seen with some rules more: plain mathematics. -/
import Derived.Test.YtpjmhajhmkfolaaRuleMath
set_option linter.unusedVariables false
set_option linter.unusedSimpArgs false
namespace Go.Proofs.Ytpjmhajhmkfolaa
open Go.RowKit

theorem rulesErr_ok {n : Nat} {rs : Nat → RuleL} (h : n ≤ 20) (hok : ∀ k, k < n → (rs k).ok) : rulesErr n rs = 0 := by
  unfold rulesErr
  rw [if_neg (by omega), errN_ok hok]
/-- what it takes that nothing is wrong -/
theorem seesE_parts {m : Nat} {z : Nat → Int} {n : Nat} {rs : Nat → RuleL} {x : WhoL} (h : seesE m z n rs x = 0) : rolesErr m z = 0 ∧ n ≤ 20 ∧ (∀ k, k < n → (rs k).ok) ∧ x.ok ∧ x.role < (m : Int) := by
  obtain ⟨h1, h2⟩ := seesE_zero h
  obtain ⟨h3, h4, h5⟩ := askE_zero h1
  obtain ⟨h6, h7⟩ := rulesErr_zero h4
  exact ⟨h3, h6, h7, h5, h2⟩
theorem seesE_of {m : Nat} {z : Nat → Int} {n : Nat} {rs : Nat → RuleL} {x : WhoL} (h1 : rolesErr m z = 0) (h2 : n ≤ 20) (h3 : ∀ k, k < n → (rs k).ok) (h4 : x.ok) (h5 : x.role < (m : Int)) : seesE m z n rs x = 0 :=
  seesE_ok (askE_ok h1 (rulesErr_ok h2 h3) h4) h5
theorem joinR_ok {n k : Nat} {rs q : Nat → RuleL} (h : ∀ j, j < n → (rs j).ok) (hq : ∀ j, j < k → (q j).ok) : ∀ j, j < n + k → (joinR n rs q j).ok := by
  intro j hj
  unfold joinR
  split
  · rename_i h1
    exact h j h1
  · exact hq _ (by omega)
theorem seesE_join {m : Nat} {z : Nat → Int} {n k : Nat} {rs q : Nat → RuleL} {x : WhoL} (h : seesE m z n rs x = 0) (hk : n + k ≤ 20) (hq : ∀ j, j < k → (q j).ok) : seesE m z (n + k) (joinR n rs q) x = 0 := by
  obtain ⟨h1, _, h3, h4, h5⟩ := seesE_parts h
  exact seesE_of h1 hk (joinR_ok h3 hq) h4 h5

theorem yesN_congr {m : Nat} {u : Nat → Nat} {x : WhoL} {i : Nat} {rs q : Nat → RuleL} : ∀ {n : Nat}, (∀ k, k < n → rs k = q k) → yesN m u x i rs n = yesN m u x i q n
  | 0, _ => rfl
  | n + 1, h => by
    unfold yesN
    rw [yesN_congr fun k hk => h k (by omega), h n (by omega)]
theorem noN_congr {m : Nat} {u : Nat → Nat} {x : WhoL} {i : Nat} {rs q : Nat → RuleL} : ∀ {n : Nat}, (∀ k, k < n → rs k = q k) → noN m u x i rs n = noN m u x i q n
  | 0, _ => rfl
  | n + 1, h => by
    unfold noN
    rw [noN_congr fun k hk => h k (by omega), h n (by omega)]
theorem yesN_join {m : Nat} {u : Nat → Nat} {x : WhoL} {i n : Nat} {rs q : Nat → RuleL} : ∀ k, yesN m u x i (joinR n rs q) (n + k) = (yesN m u x i rs n || yesN m u x i q k)
  | 0 => by
    rw [Nat.add_zero, yesN_congr (rs := joinR n rs q) (q := rs) fun k hk => (if_pos hk : joinR n rs q k = rs k)]
    simp [yesN]
  | k + 1 => by
    have ih := yesN_join (m := m) (u := u) (x := x) (i := i) (n := n) (rs := rs) (q := q) k
    have e : joinR n rs q (n + k) = q k := by
      unfold joinR
      rw [if_neg (by omega), Nat.add_sub_cancel_left]
    show yesN m u x i (joinR n rs q) (n + k + 1) = _
    rw [yesN, ih, e, yesN, Bool.or_assoc]
theorem noN_join {m : Nat} {u : Nat → Nat} {x : WhoL} {i n : Nat} {rs q : Nat → RuleL} : ∀ k, noN m u x i (joinR n rs q) (n + k) = (noN m u x i rs n || noN m u x i q k)
  | 0 => by
    rw [Nat.add_zero, noN_congr (rs := joinR n rs q) (q := rs) fun k hk => (if_pos hk : joinR n rs q k = rs k)]
    simp [noN]
  | k + 1 => by
    have ih := noN_join (m := m) (u := u) (x := x) (i := i) (n := n) (rs := rs) (q := q) k
    have e : joinR n rs q (n + k) = q k := by
      unfold joinR
      rw [if_neg (by omega), Nat.add_sub_cancel_left]
    show noN m u x i (joinR n rs q) (n + k + 1) = _
    rw [noN, ih, e, noN, Bool.or_assoc]
theorem seen_congr {m : Nat} {u : Nat → Nat} {x x' : WhoL} {n n' : Nat} {rs rs' : Nat → RuleL} (h : ∀ i, i < 8 → yesN m u x i rs n = yesN m u x' i rs' n') (h2 : ∀ i, i < 8 → noN m u x i rs n = noN m u x' i rs' n') : seen m u x n rs = seen m u x' n' rs' := by
  apply Nat.eq_of_testBit_eq
  intro i
  rw [seen_bit, seen_bit]
  by_cases h8 : i < 8
  · rw [h i h8, h2 i h8]
  · rw [decide_eq_false h8, Bool.false_and, Bool.false_and]
theorem yes_one {m : Nat} {u : Nat → Nat} {x : WhoL} {i : Nat} {r : RuleL} : yesN m u x i (fun _ => r) 1 = (speaks m u x i r && r.allow) := by simp [yesN]
theorem no_one {m : Nat} {u : Nat → Nat} {x : WhoL} {i : Nat} {r : RuleL} : noN m u x i (fun _ => r) 1 = (speaks m u x i r && !r.allow) := by simp [noN]
def twoR (r q : RuleL) : Nat → RuleL
  | 0 => r
  | _ => q
theorem yes_two {m : Nat} {u : Nat → Nat} {x : WhoL} {i : Nat} {r q : RuleL} : yesN m u x i (twoR r q) 2 = ((speaks m u x i r && r.allow) || (speaks m u x i q && q.allow)) := by simp [yesN, twoR]
theorem no_two {m : Nat} {u : Nat → Nat} {x : WhoL} {i : Nat} {r q : RuleL} : noN m u x i (twoR r q) 2 = ((speaks m u x i r && !r.allow) || (speaks m u x i q && !q.allow)) := by simp [noN, twoR]
theorem twoR_ok {r q : RuleL} (h : r.ok) (h2 : q.ok) : ∀ j, j < 2 → (twoR r q j).ok
  | 0, _ => h
  | 1, _ => h2

/-- a rule that speaks of nobody makes no difference -/
theorem seesV_idle {m : Nat} {z : Nat → Int} {n : Nat} {rs : Nat → RuleL} {x : WhoL} {r : RuleL} (h : seesE m z n rs x = 0) (hn : n + 1 ≤ 20) (hr : r.ok) (hs : ∀ i, speaks m (nats z) x i r = false) : seesV m z (n + 1) (joinR n rs fun _ => r) x = seesV m z n rs x := by
  rw [seesV_ok h, seesV_ok (seesE_join h hn fun _ _ => hr)]
  exact seen_congr (fun i _ => by rw [yesN_join, yes_one, hs i]; simp) (fun i _ => by rw [noN_join, no_one, hs i]; simp)
/-- two rules in the place of one that speak of what that one speaks of -/
theorem seesV_two {m : Nat} {z : Nat → Int} {n : Nat} {rs : Nat → RuleL} {x : WhoL} {r a b : RuleL} (h : seesE m z n rs x = 0) (hn : n + 2 ≤ 20) (hr : r.ok) (ha : a.ok) (hb : b.ok)
    (hs : ∀ i, i < 8 → (speaks m (nats z) x i a || speaks m (nats z) x i b) = speaks m (nats z) x i r) (e1 : a.allow = r.allow) (e2 : b.allow = r.allow) :
    seesV m z (n + 2) (joinR n rs (twoR a b)) x = seesV m z (n + 1) (joinR n rs fun _ => r) x := by
  rw [seesV_ok (seesE_join h hn (twoR_ok ha hb)), seesV_ok (seesE_join h (by omega) fun _ _ => hr)]
  refine seen_congr (fun i hi => ?_) (fun i hi => ?_)
  · rw [yesN_join, yes_two, yesN_join, yes_one, e1, e2, ← Bool.and_or_distrib_right, hs i hi]
  · rw [noN_join, no_two, noN_join, no_one, e1, e2, ← Bool.and_or_distrib_right, hs i hi]
end Go.Proofs.Ytpjmhajhmkfolaa
