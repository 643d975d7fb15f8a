/- The contract of wyref's Get. -/
import Derived.Test.YtekjlbbacieafaaDoorSRefSeen
set_option linter.unusedVariables false
set_option linter.unusedSimpArgs false
set_option maxRecDepth 100000
namespace Go.Proofs.YtekjlbbacieafaaDoor
open Go.RowKit Go.Sort

theorem lastAt_ge {l : List VerL} {id : ByteArray} {c : Int} : ∀ k j, lastAt l id c k = some j → ∀ i v, i < k → l[i]? = some v → v.on id c = true → i ≤ j
  | 0, j, h => by cases h
  | k + 1, j, h => fun i v hi hv ho => by
    unfold lastAt at h
    by_cases hik : i = k
    · subst hik
      rw [hv] at h
      simp only [ho, if_true] at h
      split at h
      · cases h
      · cases h; exact Nat.le_refl _
    · cases hk : l[k]? with
      | none =>
        rw [hk] at h
        exact lastAt_ge k j h i v (by omega) hv ho
      | some u =>
        rw [hk] at h
        simp only at h
        split at h
        · split at h
          · cases h
          · cases h; omega
        · exact lastAt_ge k j h i v (by omega) hv ho

def bestAt (l : List VerL) (id : ByteArray) (n : Nat) : Nat → Int
  | 0 => -1
  | k + 1 => max (bestAt l id n k) (atV (lastAt l id (k : Int) n))
theorem best_ge {l : List VerL} {id : ByteArray} {n : Nat} : ∀ K c j, c < K → lastAt l id ((c : Nat) : Int) n = some j → (j : Int) ≤ bestAt l id n K
  | 0, c, j, h, _ => absurd h (Nat.not_lt_zero c)
  | K + 1, c, j, h, hl => by
    unfold bestAt
    by_cases e : c = K
    · subst e
      rw [hl]
      show (j : Int) ≤ max _ (j : Int)
      omega
    · have := best_ge K c j (by omega) hl
      omega
theorem best_is {l : List VerL} {id : ByteArray} {n : Nat} : ∀ K, bestAt l id n K = -1 ∨ ∃ c j : Nat, c < K ∧ lastAt l id (c : Int) n = some j ∧ bestAt l id n K = (j : Int)
  | 0 => .inl rfl
  | K + 1 => by
    unfold bestAt
    cases hl : lastAt l id (K : Int) n with
    | none =>
      have hm : max (bestAt l id n K) (atV none) = bestAt l id n K := by
        show max (bestAt l id n K) (-1) = _
        rcases best_is K with h | ⟨c, j, _, _, h⟩
        · rw [h]; rfl
        · rw [h]; omega
      rw [hm]
      rcases best_is K with h | ⟨c, j, h1, h2, h3⟩
      · exact .inl h
      · exact .inr ⟨c, j, by omega, h2, h3⟩
    | some i =>
      show max _ (i : Int) = -1 ∨ _
      rcases best_is K with h | ⟨c, j, h1, h2, h3⟩
      · refine .inr ⟨K, i, by omega, hl, ?_⟩
        show max (bestAt l id n K) (i : Int) = (i : Int)
        rw [h]
        exact Int.max_eq_right (by omega)
      · by_cases hij : (i : Int) ≤ (j : Int)
        · refine .inr ⟨c, j, by omega, h2, ?_⟩
          show max (bestAt l id n K) (i : Int) = (j : Int)
          rw [h3]
          exact Int.max_eq_left hij
        · refine .inr ⟨K, i, by omega, hl, ?_⟩
          show max (bestAt l id n K) (i : Int) = (i : Int)
          rw [h3]
          exact Int.max_eq_right (by omega)
theorem find_last {α : Type} {p : α → Bool} {l : List α} {j : Nat} {v : α} (h : l[j]? = some v) (hp : p v = true) (hr : ∀ i x, j < i → l[i]? = some x → p x = false) : l.reverse.find? p = some v := by
  have e : l = l.take (j + 1) ++ l.drop (j + 1) := (List.take_append_drop _ _).symm
  rw [e, List.reverse_append, List.find?_append]
  have h1 : (l.drop (j + 1)).reverse.find? p = none := by
    rw [List.find?_eq_none]
    intro x hx
    rw [List.mem_reverse] at hx
    obtain ⟨i, hi⟩ := List.getElem?_of_mem hx
    rw [List.getElem?_drop] at hi
    rw [hr _ x (by omega) hi]
    decide
  rw [h1, take_snoc h, List.reverse_append]
  simp [hp]
theorem best_get {l : List VerL} (hok : StOk l) (id : ByteArray) : (bestAt l id l.length 256 = -1 ∧ getV l id = none) ∨ ∃ (j : Nat) (v : VerL), bestAt l id l.length 256 = (j : Int) ∧ l[j]? = some v ∧ getV l id = some v := by
  have hlv : ∀ c, (lastAt l id c l.length).isSome = lives l id c := fun c => by rw [lastAt_lives _ (Nat.le_refl _), List.take_length]
  rcases best_is (l := l) (id := id) (n := l.length) 256 with h | ⟨c, j, hc, hl, hb⟩
  · refine .inl ⟨h, getV_none.2 fun c => ?_⟩
    cases hh : lives l id c with
    | false => rfl
    | true =>
      obtain ⟨v, hv, _, e, _⟩ := lives_mem l hh
      have hr := hok.cats hv
      rw [e] at hr
      obtain ⟨m, rfl⟩ := Int.eq_ofNat_of_zero_le hr.1
      have h1 := hlv (m : Int)
      rw [hh] at h1
      obtain ⟨j, hj⟩ := Option.isSome_iff_exists.1 h1
      have := best_ge 256 m j (by omega) hj
      omega
  · obtain ⟨_, v, hv, ho, hg⟩ := lastAt_lt _ _ hl
    refine .inr ⟨j, v, hb, hv, find_last hv ?_ fun i x hi hx => ?_⟩
    · have h1 := hlv (c : Int)
      rw [hl] at h1
      have ho' := VerL.on_iff.1 ho
      exact getP_iff.2 ⟨ho'.1, by rw [ho'.1, ho'.2]; exact h1.symm⟩
    · cases hp : getP l id x with
      | false => rfl
      | true =>
        obtain ⟨e1, e2⟩ := getP_iff.1 hp
        have hr := hok.cats (List.mem_of_getElem? hx)
        obtain ⟨m, hm⟩ := Int.eq_ofNat_of_zero_le hr.1
        rw [e1] at e2
        have h1 := hlv x.r.cats
        rw [e2] at h1
        obtain ⟨j', hj'⟩ := Option.isSome_iff_exists.1 h1
        have h2 := lastAt_ge _ _ hj' i x (List.getElem?_eq_some_iff.1 hx).1 hx (VerL.on_iff.2 ⟨e1, rfl⟩)
        rw [hm] at hj'
        have h3 := best_ge 256 m j' (by omega) hj'
        omega

set_option maxHeartbeats 1000000 in
theorem refGet_is {n : Nat} {a : Option Addr} {vs : List VerL} {t : Int} (c : Nat) (id : ByteArray) (w : World) (h : VsAt w a n vs) (hn : n ≤ 1000000) (ht : bestAt vs id n 256 = t) :
    Calls Tryd.prog 25 #[.slice a n c, .string id] w fun e w' => e = .returned (.int .i64 t) ∧ Below w.heap.size w w' := by
  have HH := Lib.hid h
  have HT := Lib.hid ht
  clear h ht
  go_enter Tryd.func25, Tryd.ntmps25
  go_wp2_with fail
  go_loopw [5, 7] (fun s i wr => ∃ (k : Nat) (q : Int), k ≤ 256 ∧ i = .int .i64 k ∧ s = .int .i64 q ∧ Hid (bestAt vs id n k = q) ∧ Hid (Below w.heap.size w wr)) (fun _ i _ => 256 - (intOf i).toNat)
  case atStart => exact ⟨0, -1, by omega, rfl, rfl, rfl, Below.refl _ _⟩
  case round =>
    obtain ⟨k, q, hk, rfl, rfl, HQ, HB⟩ := hrel
    by_cases hlt : k < 256
    · have i1 : (0 : Int) ≤ (k : Int) := by omega
      have i2 : (k : Int) < 256 := by omega
      obtain ⟨y, hy⟩ : ∃ y, atV (lastAt vs id (k : Int) n) = y := ⟨_, rfl⟩
      have HY := Lib.hid hy
      clear hy
      go_wp2_with fail
      refine (refLives_is c id (k : Int) wr (HH.out.below HB.out) hn HY.out).mono ?_
      rintro e w1 ⟨rfl, hb⟩
      have HB1 := Lib.hid (HB.out.trans (hb.mono HB.out.size))
      clear hb
      go_wp2_with fail
      go_roundw
      case rel =>
        refine ⟨k + 1, max q y, by omega, by go_num, by first | rfl | simp, ?_, HB1.out⟩
        show bestAt vs id n (k + 1) = max q y
        unfold bestAt
        rw [HQ.out, HY.out]
      case measure => simp [intOf]; omega
    · obtain rfl : k = 256 := by omega
      obtain rfl : q = t := HQ.out.symm.trans HT.out
      go_wp2_with fail
      go_ret
      exact ⟨rfl, HB.out⟩
end Go.Proofs.YtekjlbbacieafaaDoor
