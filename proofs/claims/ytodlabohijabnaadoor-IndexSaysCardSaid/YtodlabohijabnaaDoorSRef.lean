/- Contracts of wyref's Same, Lives, Cats, and of slices.Grow and slices.Concat over versions. -/
import Derived.Test.YtodlabohijabnaaDoorSPut2
import Derived.Test.YtodlabohijabnaaDoorRNe
import Derived.Lib.AppendZeros
import Derived.Lib.AppendZerosOnto
import Derived.Lib.SliceRun
set_option linter.unusedVariables false
set_option linter.unusedSimpArgs false
set_option maxRecDepth 100000
namespace Go.Proofs.YtodlabohijabnaaDoor
open Go.RowKit Go.Sort Go.Maps

set_option maxHeartbeats 1000000 in
theorem refSame_is {n m : Nat} {a : Option Addr} {vs : List VerL} (c : Nat) (ct : Int) (w : World) (h : VsAt w a n vs) (hn : n ≤ 1000000) (hm : same vs ct = m) :
    Calls Tryd.prog 50 #[.slice a n c, .int .i64 ct] w fun e w' => e = .returned (.int .i64 (m : Nat)) ∧ Below w.heap.size w w' := by
  obtain ⟨l, rfl, hN, hs⟩ := h
  have HS := Lib.hid hs
  have HN := Lib.hid hN.symm
  have HM := Lib.hid hm
  clear hs hN hm
  go_enter Tryd.func50, Tryd.ntmps50
  go_wp2_with fail
  go_loopw [5, 10] (fun s i wr => ∃ k q : Nat, k ≤ n ∧ i = .int .i64 k ∧ s = .int .i64 (q : Nat) ∧ q ≤ k ∧ Hid (q = same ((l.map (·.v)).take k) ct) ∧ Below w.heap.size w wr) (fun _ i _ => n - (intOf i).toNat)
  case atStart => exact ⟨0, 0, Nat.zero_le _, rfl, rfl, Nat.le_refl _, rfl, Below.refl _ _⟩
  case round =>
    obtain ⟨k, q, hk, rfl, rfl, hq, HQ, hB⟩ := hrel
    by_cases hlt : k < n
    · obtain ⟨x, hx⟩ : ∃ x, l[k]? = some x := ⟨_, List.getElem?_eq_getElem (by rw [← HN.out]; exact hlt)⟩
      obtain ⟨ix, b, off, rfl, d0, d1, d2, d3, d4⟩ := (HS.out.below hB) k x hx
      have hxv : (l.map (·.v))[k]? = some x.v := by rw [List.getElem?_map, hx]; rfl
      have HXV := Lib.hid hxv
      have i1 : (0 : Int) ≤ (k : Int) := by omega
      have i2 : (k : Int) < (n : Int) := by omega
      have hba : Below w.heap.size w (x.box wr) := hB.trans ((x.box_below wr).mono hB.size)
      have HBA := Lib.hid hba
      clear hx hxv ix hba
      by_cases he : x.v.r.cats = ct
      · have e1 : (x.v.r.cats == ct) = true := by simpa using he
        have HE := Lib.hid he
        clear he
        go_wp2_with fail
        go_roundw
        case rel =>
          refine ⟨k + 1, q + 1, by omega, by go_num, by go_num, by omega, ?_, HBA.out⟩
          show _ = _
          rw [take_snoc HXV.out, same_snoc, if_pos HE.out, HQ.out]
        case measure => simp [intOf]; omega
      · have e1 : (x.v.r.cats == ct) = false := by simpa using he
        have HE := Lib.hid he
        clear he
        go_wp2_with fail
        go_roundw
        case rel =>
          refine ⟨k + 1, q, by omega, by go_num, rfl, by omega, ?_, HBA.out⟩
          show _ = _
          rw [take_snoc HXV.out, same_snoc, if_neg HE.out, HQ.out, Nat.add_zero]
        case measure => simp [intOf]; omega
    · obtain rfl : k = n := by omega
      have hqm : q = m := by
        have h1 := HQ.out
        rw [List.take_of_length_le (by rw [List.length_map, ← HN.out]; exact Nat.le_refl _)] at h1
        exact h1.trans HM.out
      subst hqm
      go_wp2_with fail
      go_ret
      exact ⟨rfl, hB⟩

/-- where the last version of that spot stands, if it lives: else none -/
def lastAt (l : List VerL) (id : ByteArray) (c : Int) : Nat → Option Nat
  | 0 => none
  | k + 1 => match l[k]? with
    | some v => if v.on id c = true then (if v.gone = true then none else some k) else lastAt l id c k
    | none => lastAt l id c k
def atV : Option Nat → Int
  | some k => (k : Int)
  | none => -1
theorem lastAt_lives {l : List VerL} {id : ByteArray} {c : Int} : ∀ k, k ≤ l.length → (lastAt l id c k).isSome = lives (l.take k) id c
  | 0, _ => rfl
  | k + 1, hk => by
    obtain ⟨v, hv⟩ : ∃ v, l[k]? = some v := ⟨_, List.getElem?_eq_getElem (by omega)⟩
    rw [take_snoc hv, lives_snoc]
    unfold lastAt
    rw [hv]
    simp only
    split
    · cases v.gone <;> rfl
    · exact lastAt_lives k (by omega)
theorem lastAt_lt {l : List VerL} {id : ByteArray} {c : Int} : ∀ k j, lastAt l id c k = some j → j < k ∧ ∃ v, l[j]? = some v ∧ v.on id c = true ∧ v.gone = false
  | 0, j, h => by cases h
  | k + 1, j, h => by
    unfold lastAt at h
    split at h
    · rename_i v hv
      split at h
      · rename_i ho
        split at h
        · cases h
        · rename_i hg
          cases h
          exact ⟨by omega, v, hv, ho, by simpa using hg⟩
      · obtain ⟨h1, h2⟩ := lastAt_lt k j h
        exact ⟨by omega, h2⟩
    · obtain ⟨h1, h2⟩ := lastAt_lt k j h
      exact ⟨by omega, h2⟩

set_option maxHeartbeats 2000000 in
theorem refLives_is {n : Nat} {t : Int} {a : Option Addr} {vs : List VerL} (c : Nat) (id : ByteArray) (ct : Int) (w : World) (h : VsAt w a n vs) (hn : n ≤ 1000000) (ht : atV (lastAt vs id ct n) = t) :
    Calls Tryd.prog 51 #[.slice a n c, .string id, .int .i64 ct] w fun e w' => e = .returned (.int .i64 t) ∧ Below w.heap.size w w' := by
  obtain ⟨l, rfl, hN, hs⟩ := h
  have HS := Lib.hid hs
  have HN := Lib.hid hN.symm
  have HM := Lib.hid ht
  clear hs hN ht
  go_enter Tryd.func51, Tryd.ntmps51
  go_wp2_with fail
  go_loopw [7, 12] (fun s i wr => ∃ (k : Nat) (q : Int), k ≤ n ∧ i = .int .i64 k ∧ s = .int .i64 q ∧ Hid (q = atV (lastAt (l.map (·.v)) id ct k)) ∧ Below w.heap.size w wr) (fun _ i _ => n - (intOf i).toNat)
  case atStart => exact ⟨0, -1, Nat.zero_le _, rfl, rfl, rfl, Below.refl _ _⟩
  case round =>
    obtain ⟨k, q, hk, rfl, rfl, HQ, hB⟩ := hrel
    by_cases hlt : k < n
    · obtain ⟨x, hx⟩ : ∃ x, l[k]? = some x := ⟨_, List.getElem?_eq_getElem (by rw [← HN.out]; exact hlt)⟩
      obtain ⟨ix, b, off, rfl, d0, d1, d2, d3, d4⟩ := (HS.out.below hB) k x hx
      have hxv : (l.map (·.v))[k]? = some x.v := by rw [List.getElem?_map, hx]; rfl
      have hst : lastAt (l.map (·.v)) id ct (k + 1) = if x.v.on id ct = true then (if x.v.gone = true then none else some k) else lastAt (l.map (·.v)) id ct k := by
        show (match (l.map (·.v))[k]? with | some v => _ | none => _) = _
        rw [hxv]
      have HST := Lib.hid hst
      have i1 : (0 : Int) ≤ (k : Int) := by omega
      have i2 : (k : Int) < (n : Int) := by omega
      have HBA := Lib.hid (hB.trans ((x.box_below wr).mono hB.size))
      clear hx hxv ix hst
      by_cases h1 : x.v.r.id = id
      · have e1 : (x.v.r.id.toList == id.toList) = true := sEq_iff.2 h1
        have H1 := Lib.hid h1
        clear h1
        by_cases h2 : x.v.r.cats = ct
        · have e2 : (x.v.r.cats == ct) = true := by simpa using h2
          have HON : Hid (x.v.on id ct = true) := VerL.on_iff.2 ⟨H1.out, h2⟩
          clear h2
          cases hg : x.v.gone with
          | true =>
            rw [hg] at d4
            have HG := Lib.hid hg
            clear hg
            go_wp2_with fail
            go_roundw
            case rel =>
              refine ⟨k + 1, -1, by omega, by go_num, rfl, ?_, ?_⟩
              · show _ = _
                rw [HST.out, if_pos HON.out, if_pos HG.out]
                rfl
              · exact hB.alloc hB.size _
            case measure => simp [intOf]; omega
          | false =>
            rw [hg] at d4
            have HG := Lib.hid hg
            clear hg
            go_wp2_with fail
            go_roundw
            case rel =>
              refine ⟨k + 1, (k : Int), by omega, by go_num, rfl, ?_, ?_⟩
              · show _ = _
                rw [HST.out, if_pos HON.out, if_neg (by rw [HG.out]; simp)]
                rfl
              · exact hB.alloc hB.size _
            case measure => simp [intOf]; omega
        · have e2 : (x.v.r.cats == ct) = false := by simpa using h2
          have HON : Hid (x.v.on id ct = false) := by
            show x.v.on id ct = false
            rw [← Bool.not_eq_true, VerL.on_iff]
            exact fun k => h2 k.2
          clear h2
          go_wp2_with fail
          go_roundw
          case rel =>
            refine ⟨k + 1, q, by omega, by go_num, rfl, ?_, HBA.out⟩
            show _ = _
            rw [HST.out, if_neg (by rw [HON.out]; simp), HQ.out]
          case measure => simp [intOf]; omega
      · have e1 : (x.v.r.id.toList == id.toList) = false := sEq_false.2 h1
        have HON : Hid (x.v.on id ct = false) := by
          show x.v.on id ct = false
          rw [← Bool.not_eq_true, VerL.on_iff]
          exact fun k => h1 k.1
        clear h1
        go_wp2_with fail
        go_roundw
        case rel =>
          refine ⟨k + 1, q, by omega, by go_num, rfl, ?_, HBA.out⟩
          show _ = _
          rw [HST.out, if_neg (by rw [HON.out]; simp), HQ.out]
        case measure => simp [intOf]; omega
    · obtain rfl : k = n := by omega
      have hqm : q = t := HQ.out.trans HM.out
      subst hqm
      go_wp2_with fail
      go_ret
      exact ⟨rfl, hB⟩
end Go.Proofs.YtodlabohijabnaaDoor
