/- The document's answers to Get and Ids. -/
import Derived.Test.YtodlabohijabnaaDoorSRefStore
import Derived.Test.YtodlabohijabnaaDoorSIds
set_option linter.unusedVariables false
set_option linter.unusedSimpArgs false
set_option maxRecDepth 100000
namespace Go.Proofs.YtodlabohijabnaaDoor
open Go.RowKit Go.Sort Go.Maps

/-- what the document's lists are: those of l that are chosen, as they lie -/
def PickTo (R : List VerL) (w : World) (e : Ending) (w' : World) : Prop := ∃ A m c, e = .returned (.slice A m c) ∧ VsAt w' A m R ∧ Below w.heap.size w w'

end Go.Proofs.YtodlabohijabnaaDoor

namespace Go.Proofs.YtodlabohijabnaaDoor
open Go.RowKit Go.Sort

theorem lastAt_ge {l : List VerL} {id : ByteArray} {c : Int} : ∀ k j, lastAt l id c k = some j → ∀ i v, i < k → l[i]? = some v → v.on id c = true → i ≤ j
  | 0, j, h => by cases h
  | k + 1, j, h => fun i v hi hv ho => by
    unfold lastAt at h
    by_cases hik : i = k
    · subst hik
      rw [hv] at h
      simp only [ho, if_true] at h
      split at h
      · cases h
      · cases h; exact Nat.le_refl _
    · cases hk : l[k]? with
      | none =>
        rw [hk] at h
        exact lastAt_ge k j h i v (by omega) hv ho
      | some u =>
        rw [hk] at h
        simp only at h
        split at h
        · split at h
          · cases h
          · cases h; omega
        · exact lastAt_ge k j h i v (by omega) hv ho

def bestAt (l : List VerL) (id : ByteArray) (n : Nat) : Nat → Int
  | 0 => -1
  | k + 1 => max (bestAt l id n k) (atV (lastAt l id (k : Int) n))
theorem best_ge {l : List VerL} {id : ByteArray} {n : Nat} : ∀ K c j, c < K → lastAt l id ((c : Nat) : Int) n = some j → (j : Int) ≤ bestAt l id n K
  | 0, c, j, h, _ => absurd h (Nat.not_lt_zero c)
  | K + 1, c, j, h, hl => by
    unfold bestAt
    by_cases e : c = K
    · subst e
      rw [hl]
      show (j : Int) ≤ max _ (j : Int)
      omega
    · have := best_ge K c j (by omega) hl
      omega
theorem best_is {l : List VerL} {id : ByteArray} {n : Nat} : ∀ K, bestAt l id n K = -1 ∨ ∃ c j : Nat, c < K ∧ lastAt l id (c : Int) n = some j ∧ bestAt l id n K = (j : Int)
  | 0 => .inl rfl
  | K + 1 => by
    unfold bestAt
    cases hl : lastAt l id (K : Int) n with
    | none =>
      have hm : max (bestAt l id n K) (atV none) = bestAt l id n K := by
        show max (bestAt l id n K) (-1) = _
        rcases best_is K with h | ⟨c, j, _, _, h⟩
        · rw [h]; rfl
        · rw [h]; omega
      rw [hm]
      rcases best_is K with h | ⟨c, j, h1, h2, h3⟩
      · exact .inl h
      · exact .inr ⟨c, j, by omega, h2, h3⟩
    | some i =>
      show max _ (i : Int) = -1 ∨ _
      rcases best_is K with h | ⟨c, j, h1, h2, h3⟩
      · refine .inr ⟨K, i, by omega, hl, ?_⟩
        show max (bestAt l id n K) (i : Int) = (i : Int)
        rw [h]
        exact Int.max_eq_right (by omega)
      · by_cases hij : (i : Int) ≤ (j : Int)
        · refine .inr ⟨c, j, by omega, h2, ?_⟩
          show max (bestAt l id n K) (i : Int) = (j : Int)
          rw [h3]
          exact Int.max_eq_left hij
        · refine .inr ⟨K, i, by omega, hl, ?_⟩
          show max (bestAt l id n K) (i : Int) = (i : Int)
          rw [h3]
          exact Int.max_eq_right (by omega)
theorem find_last {α : Type} {p : α → Bool} {l : List α} {j : Nat} {v : α} (h : l[j]? = some v) (hp : p v = true) (hr : ∀ i x, j < i → l[i]? = some x → p x = false) : l.reverse.find? p = some v := by
  have e : l = l.take (j + 1) ++ l.drop (j + 1) := (List.take_append_drop _ _).symm
  rw [e, List.reverse_append, List.find?_append]
  have h1 : (l.drop (j + 1)).reverse.find? p = none := by
    rw [List.find?_eq_none]
    intro x hx
    rw [List.mem_reverse] at hx
    obtain ⟨i, hi⟩ := List.getElem?_of_mem hx
    rw [List.getElem?_drop] at hi
    rw [hr _ x (by omega) hi]
    decide
  rw [h1, take_snoc h, List.reverse_append]
  simp [hp]
theorem best_get {l : List VerL} (hok : StOk l) (id : ByteArray) : (bestAt l id l.length 256 = -1 ∧ getV l id = none) ∨ ∃ (j : Nat) (v : VerL), bestAt l id l.length 256 = (j : Int) ∧ l[j]? = some v ∧ getV l id = some v := by
  have hlv : ∀ c, (lastAt l id c l.length).isSome = lives l id c := fun c => by rw [lastAt_lives _ (Nat.le_refl _), List.take_length]
  rcases best_is (l := l) (id := id) (n := l.length) 256 with h | ⟨c, j, hc, hl, hb⟩
  · refine .inl ⟨h, getV_none.2 fun c => ?_⟩
    cases hh : lives l id c with
    | false => rfl
    | true =>
      obtain ⟨v, hv, _, e, _⟩ := lives_mem l hh
      have hr := hok.cats hv
      rw [e] at hr
      obtain ⟨m, rfl⟩ := Int.eq_ofNat_of_zero_le hr.1
      have h1 := hlv (m : Int)
      rw [hh] at h1
      obtain ⟨j, hj⟩ := Option.isSome_iff_exists.1 h1
      have := best_ge 256 m j (by omega) hj
      omega
  · obtain ⟨_, v, hv, ho, hg⟩ := lastAt_lt _ _ hl
    refine .inr ⟨j, v, hb, hv, find_last hv ?_ fun i x hi hx => ?_⟩
    · have h1 := hlv (c : Int)
      rw [hl] at h1
      have ho' := VerL.on_iff.1 ho
      exact getP_iff.2 ⟨ho'.1, by rw [ho'.1, ho'.2]; exact h1.symm⟩
    · cases hp : getP l id x with
      | false => rfl
      | true =>
        obtain ⟨e1, e2⟩ := getP_iff.1 hp
        have hr := hok.cats (List.mem_of_getElem? hx)
        obtain ⟨m, hm⟩ := Int.eq_ofNat_of_zero_le hr.1
        rw [e1] at e2
        have h1 := hlv x.r.cats
        rw [e2] at h1
        obtain ⟨j', hj'⟩ := Option.isSome_iff_exists.1 h1
        have h2 := lastAt_ge _ _ hj' i x (List.getElem?_eq_some_iff.1 hx).1 hx (VerL.on_iff.2 ⟨e1, rfl⟩)
        rw [hm] at hj'
        have h3 := best_ge 256 m j' (by omega) hj'
        omega

set_option maxHeartbeats 1000000 in
theorem refGet_is {n : Nat} {a : Option Addr} {vs : List VerL} {t : Int} (c : Nat) (id : ByteArray) (w : World) (h : VsAt w a n vs) (hn : n ≤ 1000000) (ht : bestAt vs id n 256 = t) :
    Calls Tryd.prog 26 #[.slice a n c, .string id] w fun e w' => e = .returned (.int .i64 t) ∧ Below w.heap.size w w' := by
  have HH := Lib.hid h
  have HT := Lib.hid ht
  clear h ht
  go_enter Tryd.func26, Tryd.ntmps26
  go_wp2_with fail
  go_loopw [5, 7] (fun s i wr => ∃ (k : Nat) (q : Int), k ≤ 256 ∧ i = .int .i64 k ∧ s = .int .i64 q ∧ Hid (bestAt vs id n k = q) ∧ Hid (Below w.heap.size w wr)) (fun _ i _ => 256 - (intOf i).toNat)
  case atStart => exact ⟨0, -1, by omega, rfl, rfl, rfl, Below.refl _ _⟩
  case round =>
    obtain ⟨k, q, hk, rfl, rfl, HQ, HB⟩ := hrel
    by_cases hlt : k < 256
    · have i1 : (0 : Int) ≤ (k : Int) := by omega
      have i2 : (k : Int) < 256 := by omega
      obtain ⟨y, hy⟩ : ∃ y, atV (lastAt vs id (k : Int) n) = y := ⟨_, rfl⟩
      have HY := Lib.hid hy
      clear hy
      go_wp2_with fail
      refine (refLives_is c id (k : Int) wr (HH.out.below HB.out) hn HY.out).mono ?_
      rintro e w1 ⟨rfl, hb⟩
      have HB1 := Lib.hid (HB.out.trans (hb.mono HB.out.size))
      clear hb
      go_wp2_with fail
      go_roundw
      case rel =>
        refine ⟨k + 1, max q y, by omega, by go_num, by first | rfl | simp, ?_, HB1.out⟩
        show bestAt vs id n (k + 1) = max q y
        unfold bestAt
        rw [HQ.out, HY.out]
      case measure => simp [intOf]; omega
    · obtain rfl : k = 256 := by omega
      obtain rfl : q = t := HQ.out.symm.trans HT.out
      go_wp2_with fail
      go_ret
      exact ⟨rfl, HB.out⟩
end Go.Proofs.YtodlabohijabnaaDoor

namespace Go.Proofs.YtodlabohijabnaaDoor
open Go.RowKit Go.Sort Go.Maps Go.Shelf

theorem lawStrB : Keyed Tryd.prog 9 := string_keyed Tryd.underlying9

/-- a set of names -/
structure NSet (w : World) (b n : Nat) (D : DataW Unit) (S : ByteArray → Bool) : Prop where
  own : w.ownsMap Tryd.prog 9 (plainElem Tryd.prog 4) b n D
  has : ∀ s : ByteArray, Maps.has D (.string s.data.toList) = S s
  all : ∀ s : ByteArray, S s = true → ∀ z, D.atKey (.string s.data.toList) z = .lit (.bool true)
theorem NSet.keep {w w' : World} {b n : Nat} {D : DataW Unit} {S : ByteArray → Bool} (h : NSet w b n D S) (hb : Below w.heap.size w w') : NSet w' b n D S := ⟨h.own.kept (grown_of_below hb) (by simp), h.has, h.all⟩
theorem NSet.asks {w : World} {b n : Nat} {D : DataW Unit} {S : ByteArray → Bool} (h : NSet w b n D S) (id : ByteArray) (hi : id.size ≤ maxLen) :
    (Instr.lookup 80 (.map (some b)) (.string id) false).run Tryd.prog w = .ok (.bool (S id)) w := by
  obtain ⟨v, ps, hrun, hv⟩ := h.own.lookup lawStrB Tryd.underlying80 (zeroBool w) (plainElem_bool Tryd.underlying4 false) (WideMaps.keyOf_string_mk Tryd.underlying9 (s := id) hi)
  obtain ⟨x, rfl, hx⟩ := plainElem_bool_inv Tryd.underlying4 hv
  simp only [Prod.mk.injEq] at hx
  have hx := hx.1
  cases hs : S id with
  | true =>
    rw [h.all id hs] at hx
    cases hx
    exact hrun
  | false =>
    rw [Maps.atKey_of_not_has ((h.has id).trans hs)] at hx
    cases hx
    exact hrun
theorem NSet.note {w : World} {b n : Nat} {D : DataW Unit} {S : ByteArray → Bool} (h : NSet w b n D S) (hn : n < maxLen) (id : ByteArray) (hi : id.size ≤ maxLen) :
    ∃ w' D', (Instr.mapUpdate 80 (.map (some b)) (.string id) (.bool true)).run Tryd.prog w = .ok () w' ∧ NSet w' b (n + 1) D' (fun s => if sEq id s = true then true else S s) ∧ w.grownBy w' (some b) := by
  obtain ⟨w', hrun, ho, hg⟩ := h.own.update lawStrB Tryd.underlying80 hn (WideMaps.keyOf_string_mk Tryd.underlying9 (s := id) hi) (plainElem_bool Tryd.underlying4 true)
  refine ⟨w', _, hrun, ⟨ho, fun s => ?_, fun s hs z => ?_⟩, hg⟩
  · by_cases e : id = s
    · subst e
      rw [if_pos (sEq_iff.2 rfl)]
      exact has_put_same h.own.isMap (key_str _) _
    · rw [if_neg (by rw [sEq_false.2 e]; decide)]
      exact (has_put_other (str_ne (fun e' => e e'.symm : s ≠ id)) _).trans (h.has s)
  · by_cases e : id = s
    · subst e
      exact atKey_put_same h.own.isMap (key_str _) _ _
    · rw [if_neg (by rw [sEq_false.2 e]; decide)] at hs
      rw [atKey_put_other (str_ne (fun e' => e e'.symm : s ≠ id))]
      exact h.all s hs z
theorem NSet.congr {w : World} {b n : Nat} {D : DataW Unit} {S S' : ByteArray → Bool} (h : NSet w b n D S) (e : ∀ s, S s = S' s) : NSet w b n D S' := by
  have : S = S' := funext e
  rw [← this]
  exact h
theorem NSet.more {w : World} {b n m : Nat} {D : DataW Unit} {S : ByteArray → Bool} (h : NSet w b n D S) (hm : n ≤ m) : NSet w b m D S := ⟨h.own.mono hm, h.has, h.all⟩
theorem nset_made (w : World) : NSet (w.alloc (.map #[] 0)) w.heap.size 0 (.map []) (fun _ => false) := ⟨World.ownsMap_made w _ _ _, fun _ => rfl, fun s h => by cases h⟩

/-- the names, of the first k versions, of those that live -/
def ofK (vs : List VerL) (k : Nat) (s : ByteArray) : Bool := ((vs.take k).any fun v => sEq v.r.id s) && (getV vs s).isSome
theorem ofK_succ {vs : List VerL} {k : Nat} {v : VerL} (h : vs[k]? = some v) (s : ByteArray) : ofK vs (k + 1) s = ((((vs.take k).any fun v => sEq v.r.id s) || sEq v.r.id s) && (getV vs s).isSome) := by
  unfold ofK
  rw [take_snoc h, List.any_append]
  simp
theorem ofK_same {vs : List VerL} {k : Nat} {v : VerL} (h : vs[k]? = some v) (hs : ofK vs k v.r.id = true ∨ (getV vs v.r.id).isSome = false) (s : ByteArray) : ofK vs k s = ofK vs (k + 1) s := by
  rw [ofK_succ h]
  cases e : sEq v.r.id s with
  | false => simp [ofK]
  | true =>
    obtain rfl := sEq_iff.1 e
    rcases hs with hs | hs
    · rw [hs]
      unfold ofK at hs
      rw [Bool.and_eq_true] at hs
      simp [hs.2]
    · unfold ofK
      simp [hs]
theorem ofK_new {vs : List VerL} {k : Nat} {v : VerL} (h : vs[k]? = some v) (hs : (getV vs v.r.id).isSome = true) (s : ByteArray) : (if sEq v.r.id s = true then true else ofK vs k s) = ofK vs (k + 1) s := by
  rw [ofK_succ h]
  cases e : sEq v.r.id s with
  | false => simp [ofK]
  | true =>
    obtain rfl := sEq_iff.1 e
    simp [hs]
theorem ofK_all {vs : List VerL} (s : ByteArray) : ofK vs vs.length s = true ↔ ∃ c, lives vs s c = true := by
  unfold ofK
  rw [List.take_length, Bool.and_eq_true]
  constructor
  · rintro ⟨_, h⟩
    obtain ⟨v, hv⟩ := Option.isSome_iff_exists.1 h
    exact ⟨_, (getV_some hv).2.2⟩
  · rintro ⟨c, hc⟩
    obtain ⟨v, hv, rfl, rfl, _⟩ := lives_mem vs hc
    refine ⟨List.any_eq_true.2 ⟨v, hv, sEq_iff.2 rfl⟩, ?_⟩
    cases hg : getV vs v.r.id with
    | some u => rfl
    | none => rw [getV_none.1 hg] at hc; cases hc

def namesIn (ss : List (List UInt8)) : List ByteArray := (ss.mergeSort fun x y => decide (x ≤ y)).map fun b => ⟨b.toArray⟩
theorem namesIn_ids {l : List VerL} {ss : List (List UInt8)} (hnd : ss.Nodup) (h : ∀ s : ByteArray, s.data.toList ∈ ss ↔ ∃ c, lives l s c = true) : IsIds l (namesIn ss) := by
  have tr : ∀ a b c : List UInt8, decide (a ≤ b) = true → decide (b ≤ c) = true → decide (a ≤ c) = true := fun a b c h1 h2 => by simp only [decide_eq_true_eq] at *; exact List.le_trans h1 h2
  have tt : ∀ a b : List UInt8, (decide (a ≤ b) || decide (b ≤ a)) = true := fun a b => by simp only [Bool.or_eq_true, decide_eq_true_eq]; exact List.le_total a b
  have hs := List.pairwise_mergeSort tr tt ss
  have hn : (ss.mergeSort fun x y => decide (x ≤ y)).Nodup := (List.mergeSort_perm ss _).nodup_iff.2 hnd
  have hb := List.Pairwise.and hs hn
  constructor
  · unfold namesIn Asc
    refine List.pairwise_map.2 (List.Pairwise.imp ?_ hb)
    rintro a b ⟨hab, hne⟩
    have hba : sLt ⟨b.toArray⟩ ⟨a.toArray⟩ = false := le_iff.1 (by simpa using hab)
    rcases sLt_tri ⟨a.toArray⟩ ⟨b.toArray⟩ with k | k | k
    · exact k
    · exact absurd (by simpa using k) hne
    · rw [hba] at k; cases k
  · intro s
    rw [← h s]
    unfold namesIn
    rw [List.mem_map]
    constructor
    · rintro ⟨x, hx, rfl⟩
      simpa using List.mem_mergeSort.1 hx
    · intro hx
      exact ⟨_, List.mem_mergeSort.2 hx, by simp⟩

theorem strings_nil (p : Option Addr) (cap : Nat) (w : World) :
    Calls Tryd.prog 27 #[.slice p 0 cap] w fun e w' => e = .returned (.tuple #[]) ∧ w' = w := by
  go_enter Tryd.func27, Tryd.ntmps27
  go_wp2_with (first | (go_at_call 35; refine (sort_nil p cap _).mono ?_; rintro e w' ⟨rfl, rfl⟩))
  go_end0
  exact ⟨rfl, rfl⟩

def RefNamesTo (vs : List VerL) (w : World) (e : Ending) (w' : World) : Prop := ∃ A m c ids, e = .returned (.slice A m c) ∧ IsIds vs ids ∧ ids.length = m ∧ SlS w' A ids ∧ m ≤ c ∧ c ≤ maxLen ∧ Below w.heap.size w w'

set_option maxHeartbeats 4000000 in
theorem refIds_is (a : Option Addr) (l : List PV) (c : Nat) (w : World) (hs : SlW w a l) (hst : stErr (l.map (·.v)) = 0) :
    Calls Tryd.prog 54 #[.slice a l.length c] w (RefNamesTo (l.map (·.v)) w) := by
  have hmm := @run_makeMap Tryd.prog
  have HS := Lib.hid hs
  have hok := (stErr_ok.1 hst).2
  have hl5 : l.length ≤ 5120 := by have := (stErr_ok.1 hst).1; rwa [List.length_map] at this
  have HOK := Lib.hid hok
  obtain ⟨n, hn⟩ : ∃ n, n = l.length := ⟨_, rfl⟩
  have HN := Lib.hid hn
  obtain ⟨vs, hvs⟩ : ∃ vs, l.map (·.v) = vs := ⟨_, rfl⟩
  have HVS := Lib.hid hvs
  have HVL := Lib.hid (show vs.length = n by rw [← hvs, List.length_map, hn])
  have HV := Lib.hid (show VsAt w a n vs from ⟨l, hvs, hn.symm, hs⟩)
  rw [hvs] at HOK ⊢
  rw [← hn] at hl5 ⊢
  clear hs hst hok hn hvs
  go_enter Tryd.func54, Tryd.ntmps54
  go_wp2_with fail
  clear hmm
  go_loopw [11] (fun i wr => ∃ (k : Nat) (D : DataW Unit), k ≤ n ∧ i = .int .i64 k ∧ Hid (NSet wr w.heap.size k D (ofK vs k)) ∧ Hid (Below w.heap.size w wr)) (fun i _ => n - (intOf i).toNat)
  case atStart => exact ⟨0, _, Nat.zero_le _, rfl, (nset_made w).congr (fun s => by simp [ofK]), (Below.refl _ _).alloc (Nat.le_refl _) _⟩
  case round =>
    obtain ⟨k, D, hk, rfl, HD, HB⟩ := hrel
    by_cases hlt : k < n
    · obtain ⟨x, hx⟩ : ∃ x, l[k]? = some x := ⟨_, List.getElem?_eq_getElem (by rw [← HN.out]; exact hlt)⟩
      have hv : vs[k]? = some x.v := by rw [← HVS.out, List.getElem?_map, hx]; rfl
      obtain ⟨hin, b, off, rfl, d0, d1, d2, d3, d4⟩ := (HS.out.below HB.out) k x hx
      have hsz : x.v.r.id.size ≤ maxLen := nm_max (HOK.out.ver x.v (List.mem_of_getElem? hv)).id
      have i1 : (0 : Int) ≤ (k : Int) := by omega
      have i2 : (k : Int) < (n : Int) := by omega
      have HVK := Lib.hid hv
      have hbx : Below wr.heap.size wr (x.box wr) := x.box_below wr
      have hDx := HD.out.keep hbx
      have HBX := Lib.hid (HB.out.trans (hbx.mono HB.out.size))
      have hask := hDx.asks x.v.r.id hsz
      have HDX := Lib.hid hDx
      have hwl := HD.out.own.lt
      have hwl1 : w.heap.size < wr.heap.size := by omega
      clear hx hv hin hbx hDx HD
      cases hk2 : ofK vs k x.v.r.id with
      | true =>
        rw [hk2] at hask
        have HK2 := Lib.hid hk2
        clear hk2
        go_wp2_with fail
        go_roundw
        case rel => exact ⟨k + 1, D, by omega, by go_num, (HDX.out.more (by omega)).congr (ofK_same HVK.out (.inl HK2.out)), HBX.out⟩
        case measure => simp [intOf]; omega
      | false =>
        rw [hk2] at hask
        have HK2 := Lib.hid hk2
        clear hk2
        obtain ⟨t, ht⟩ : ∃ t, bestAt vs x.v.r.id n 256 = t := ⟨_, rfl⟩
        have hti : (t < 0 ∧ (getV vs x.v.r.id).isSome = false) ∨ (0 ≤ t ∧ (getV vs x.v.r.id).isSome = true) := by
          have := best_get HOK.out x.v.r.id
          rw [HVL.out, ht] at this
          rcases this with ⟨z1, z2⟩ | ⟨j, v, z1, _, z2⟩
          · exact .inl ⟨by omega, by rw [z2]; rfl⟩
          · exact .inr ⟨by omega, by rw [z2]; rfl⟩
        have HG := Lib.hid (refGet_is c x.v.r.id (x.box wr) (HV.out.below HBX.out) (by omega) ht)
        have HTI := Lib.hid hti
        clear ht hti
        go_wp2_with fail
        refine HG.out.mono ?_
        rintro e w1 ⟨rfl, hb1⟩
        have hD1 := HDX.out.keep hb1
        have HB1 := Lib.hid (HBX.out.trans (hb1.mono HBX.out.size))
        obtain ⟨hc1, hf1⟩ := bcell hb1
        have a0 : w1.cell? ⟨wr.heap.size, 0, none⟩ = some (.string x.v.r.id) := by rw [hc1 _ _ (by simp)]; simp [go_sem]
        obtain ⟨w2, D2, hup, hD2, hg2⟩ := hD1.note (by unfold maxLen; omega) x.v.r.id hsz
        have HD1 := Lib.hid hD1
        have HD2 := Lib.hid hD2
        have HG2 := Lib.hid hg2
        clear hc1 hf1 hb1 hD1 hD2 hg2 HG hask d0 d1 d2 d3 d4
        rcases HTI.out with ⟨ht0, hs0⟩ | ⟨ht0, hs0⟩
        · have ht1 : ¬ (0 ≤ t) := by omega
          have HS0 := Lib.hid hs0
          clear hs0 hup
          go_wp2_with fail
          go_roundw
          case rel => exact ⟨k + 1, D, by omega, by go_num, (HD1.out.more (by omega)).congr (ofK_same HVK.out (.inr HS0.out)), HB1.out⟩
          case measure => simp [intOf]; omega
        · have HS0 := Lib.hid hs0
          clear hs0
          go_wp2_with fail
          go_roundw
          case rel => exact ⟨k + 1, D2, by omega, by go_num, HD2.out.congr (ofK_new HVK.out HS0.out), HB1.out.grown HG2.out HB1.out.size (fun j hj => by cases hj; exact Nat.le_refl _)⟩
          case measure => simp [intOf]; omega
    · obtain rfl : k = n := by omega
      have hown := HD.out.own
      have hlt1 := hown.lt
      have hall : ∀ s : ByteArray, Maps.has D (.string s.data.toList) = true ↔ ∃ c, lives vs s c = true := fun s => by
        rw [HD.out.has s, ← HVL.out]
        exact ofK_all s
      have HALL := Lib.hid hall
      clear hall HD hlt hk
      go_wp2_with (at_range; refine wpList_range_own _ rfl _ 80 rfl 9 4 lawStrB Tryd.underlying80 _ w.heap.size k _ rfl hown ?_; intro w2 hrg0 hg0 hs0)
      go_frame
      have hB2 : Below w.heap.size w w2 := HB.out.grown hg0 HB.out.size (fun j hj => by cases hj)
      have hD7 := hown.size_le
      obtain ⟨rr, hr⟩ : ∃ rr, rr = wr.heap.size := ⟨_, rfl⟩
      have hrs : rr ≤ w2.heap.size := by omega
      rw [← hr] at hrg0 hlt1 ⊢
      have hwr : w.heap.size ≤ rr := by omega
      obtain ⟨i0, hi, hz0, hz1, hz2⟩ := info_parts Tryd.infoStr
      have HB2 := Lib.hid hB2
      clear hown hg0 hs0 HB hr hB2
      go_loopw [6] (fun v wq => ∃ (left : Lit → Bool) (cnt : Nat) (ss : List (List UInt8)), wq.ranges Tryd.prog 9 (plainElem Tryd.prog 4) w.heap.size rr k D left cnt ∧ ss.length + cnt ≤ k ∧
          wq.ownsRow rr 9 1 v ss.length (ss.map encStr) ∧ Hid (Collected D left ss) ∧ Hid (Below w.heap.size w wq) ∧ rr ≤ wq.heap.size)
        (fun _ wq => wq.rangeLeft w.heap.size rr)
      case atStart => exact ⟨_, _, [], hrg0, by simpa using hD7, World.ownsRow_nil _ _ _ _, Collected.start D, HB2.out, hrs⟩
      case round =>
        clear hrg0 HB2 hD7 hrs
        obtain ⟨left, cnt, ss, hrg, hcs, hrow, hC, hB, hrs⟩ := hrel
        go_wp2_with (at_next; refine wpList_next_ranges _ rfl _ rfl 9 lawStrB (plainElem Tryd.prog 4) encStr Value.bool (fun key kl hk => by obtain ⟨x, hx, _⟩ := Maps.keyOf_str Tryd.underlying9 hk; exact ⟨x, hx⟩) (fun v y hv => by obtain ⟨c, e, _⟩ := plainElem_bool_inv Tryd.underlying4 hv; exact ⟨c, e⟩) w.heap.size rr k _ _ _ rfl hrg ?_ ?_)
        · intro _ hl0
          have hids : IsIds vs (namesIn ss) := namesIn_ids hC.out.1 fun s => by
            rw [hC.out.2, hl0, HALL.out s]
            simp
          have HIDS := Lib.hid hids
          rcases hrow.2 with ⟨rfl, h0⟩ | ⟨g, cap, cur, rfl, hbase, hb, h1, h2, h3, h4⟩
          · obtain rfl : ss = [] := List.eq_nil_of_length_eq_zero h0
            clear hrg hcs hrow hids hC
            go_wp2_with fail
            refine (strings_nil none 0 _).mono ?_
            rintro e w' ⟨rfl, rfl⟩
            go_wp2_with fail
            go_ret
            have hn0 : namesIn [] = [] := by simp [namesIn]
            have hi0 := HIDS.out
            rw [hn0] at hi0
            exact ⟨none, 0, 0, [], rfl, hi0, rfl, SlS.nil _ _, Nat.le_refl _, Nat.zero_le _, hB.out⟩
          · have hgw : g < wr.heap.size := (Array.getElem?_eq_some_iff.1 hb).1
            have hsort : Calls Tryd.prog 27 #[.slice (some ⟨g, 0, none⟩) ss.length cap] wr fun e w' => e = .returned (.tuple #[]) ∧ (SlS w' (some ⟨g, 0, none⟩) (namesIn ss) ∧ wr.grownBy w' (some g)) :=
              (Any.sort_Strings Tryd.lays192 g 0 cap ss wr (holds_of_block hb (by simpa using h4)) hgw (by omega)).mono fun e w' ⟨he, nn, os, hw⟩ => by
                have hgr : wr.grownBy (grow (putRow encStr (Sort.ahead wr nn) g 0 (ss.mergeSort fun x y => decide (x ≤ y)).toArray) os) (some g) := grownBy_sorted _
                rw [← hw] at hgr
                have hs := ownsRow_sorted (w := wr) (n := nn) (os := os) (ss := ss) (ts := ss.mergeSort (fun x y => decide (x ≤ y))) (by simp) hbase hb h1 h2 h3
                have hc : (ss.mergeSort (fun x y => decide (x ≤ y))).map encStr = cellsS (namesIn ss) := by
                  unfold cellsS namesIn
                  rw [List.map_map]
                  rfl
                rw [hc, ← hw] at hs
                have hos : OwnS rr w' (.slice (some ⟨g, 0, none⟩) (namesIn ss).length cap) (namesIn ss) := by
                  unfold OwnS
                  have hl : (namesIn ss).length = ss.length := by simp [namesIn]
                  rw [hl]
                  exact hs
                exact ⟨he, hos.sl.1, hgr⟩
            obtain ⟨m, hm⟩ : ∃ m, ss.length = m := ⟨_, rfl⟩
            have hml : (namesIn ss).length = m := by rw [← hm]; simp [namesIn]
            rw [hm] at hsort h1 ⊢
            have HSO := Lib.hid hsort
            have HML := Lib.hid hml
            have HH2 := Lib.hid h2
            have HH1 := Lib.hid h1
            clear hsort hcs hrg hrow hl0 hb h1 h2 h3 h4 hC hids hml hm
            go_wp2_with fail
            refine HSO.out.mono ?_
            rintro e w4 ⟨rfl, hsl, hg4⟩
            have HSL := Lib.hid hsl
            have HB4 := Lib.hid (hB.out.grown hg4 hB.out.size (fun j hj => by cases hj; omega))
            clear hsl hg4 HSO
            go_wp2_with fail
            go_ret
            exact ⟨some ⟨g, 0, none⟩, m, cap, namesIn ss, rfl, HIDS.out, HML.out, HSL.out, HH1.out, HH2.out, HB4.out⟩
        · intro x
          constructor
          all_goals
            intro kl y1 y2 w4 cnt4 hkey hlk hR hat hrg4 hlt4 hg4 hs4 hen
            obtain ⟨x', ex, rfl, _⟩ := Maps.keyOf_str Tryd.underlying9 hkey
            obtain rfl : x = x' := encStr_inj ex
            have hrow4 := hrow.kept hg4 (Or.inr (row_ne_iter hrow hrg).symm)
            have HB4 := Lib.hid (hB.out.grown hg4 hB.out.size (fun j hj => by cases hj; omega))
            have HCS := Lib.hid (hC.out.step hlk hat)
            have hw4 : rr ≤ w4.heap.size := by omega
            have hww : w.heap.size ≤ w4.heap.size := by omega
            clear hkey hlk hR hat hg4 hs4 hB hC hrs hrow ex
            go_wp2_with (at_builtin; refine wpList_append_own _ rfl _ _ 25 rfl rr 9 i0 (.string ⟨#[]⟩) 1 16 Tryd.underlying25 hi hz0 hz1 hz2 rfl (by decide) _ _ _ rfl (hrow4.alloc _) ⟨w4.heap.size, 0, none⟩ 1 1 [encStr x] rfl rfl ?cc (by simp [Value.oneCell', encStr]) ?c1 ?c2 ?c3 ?_)
            case cc => intro j u hj; rw [addr_at]; match j, hj with | 0, hj => cases hj; simp [go_sem] | j + 1, hj => simp at hj
            case c1 => unfold maxLen; omega
            case c2 => omega
            case c3 => simp; omega
            intro v' w5 hown5 hg5 _
            have hr5 : w5.ranges Tryd.prog 9 (plainElem Tryd.prog 4) w.heap.size rr k D _ cnt4 := (hrg4.alloc _).kept hg5 (row_ne_low hrow4 hlt1) (row_ne_iter hrow4 hrg4)
            have hR5 := Lib.hid hr5
            have HB5 := Lib.hid ((HB4.out.alloc hww _).grown hg5 (HB4.out.alloc hww _).size (fun j hj => by have := (hrow4.lt j hj).1; omega))
            have hs5 : rr ≤ w5.heap.size := by have := hg5.size; simp at this; omega
            clear hr5 hg5 hrow4
            go_wp2_with fail
            go_roundw
            case rel => exact ⟨_, cnt4, ss ++ [x], hR5.out, by simp; omega, by simpa using hown5, HCS.out, HB5.out, hs5⟩
            case measure => rw [hR5.out.left_eq, hrg.left_eq]; exact hlt4
end Go.Proofs.YtodlabohijabnaaDoor
