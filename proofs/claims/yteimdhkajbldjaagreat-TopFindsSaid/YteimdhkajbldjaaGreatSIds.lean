/- The contract of Ids. -/
import Derived.Test.YteimdhkajbldjaaGreatSFine
import Derived.Test.YteimdhkajbldjaaGreatSIdsMath
import Derived.Test.YteimdhkajbldjaaGreatSSortNil
import Derived.Sort.OwnSorted
import Derived.Shelf.Slices.CompactS
set_option linter.unusedVariables false
set_option linter.unusedSimpArgs false
set_option maxRecDepth 100000
namespace Go.Proofs.YteimdhkajbldjaaGreat
open Go.RowKit Go.Sort Go.Maps Go.Shelf

/-- what was collected: names of those that live, and each that is no longer to come -/
structure Coll (vs : List VerL) (left : Lit → Bool) (ss : List (List UInt8)) : Prop where
  sound : ∀ s : ByteArray, s.data.toList ∈ ss → ∃ c, lives vs s c = true
  full : ∀ id c k, keyOf Tryz.prog 170 (spotV id c) = some k → lives vs id c = true → left k = true ∨ id.data.toList ∈ ss
theorem Coll.start {vs : List VerL} {D : DataW Unit} (hD : ∀ id c k, keyOf Tryz.prog 170 (spotV id c) = some k → D.atKey k (.lit (.bool false)) = .lit (.bool (lives vs id c))) : Coll vs (Maps.has D) [] := by
  refine ⟨fun s h => (by cases h), fun id c k hk hl => .inl ?_⟩
  cases hh : Maps.has D k with
  | true => rfl
  | false =>
    have h1 := hD id c k hk
    rw [Maps.atKey_of_not_has hh, hl] at h1
    cases h1
theorem Coll.step {vs : List VerL} {D : DataW Unit} {left : Lit → Bool} {ss : List (List UInt8)} (h : Coll vs left ss) (hD : ∀ id c k, keyOf Tryz.prog 170 (spotV id c) = some k → D.atKey k (.lit (.bool false)) = .lit (.bool (lives vs id c)))
    {id : ByteArray} {c : Int} {kl : Lit} (hk : keyOf Tryz.prog 170 (spotV id c) = some kl) {b : Bool} (hat : ∀ z, D.atKey kl z = .lit (.bool b)) : Coll vs (fun z => left z && !z.sameKey kl) (if b = true then ss ++ [id.data.toList] else ss) := by
  have hb : lives vs id c = b := by
    have h1 := hD id c kl hk
    rw [hat] at h1
    injection h1 with h1
    injection h1 with h1
    exact h1.symm
  constructor
  · intro s hs
    cases b with
    | false => exact h.sound s (by simpa using hs)
    | true =>
      rw [if_pos rfl, List.mem_append, List.mem_singleton] at hs
      rcases hs with hs | hs
      · exact h.sound s hs
      · rw [bytes_inj hs]
        exact ⟨c, hb⟩
  · intro id' c' k hk' hl'
    rcases h.full id' c' k hk' hl' with h1 | h1
    · by_cases e : k = kl
      · subst e
        have e2 := lawSpot.inj hk' hk
        have e3 : id' = id ∧ c' = c := by
          injection e2 with e2
          have e2 := Array.toList_inj.2 e2
          simp only [List.cons.injEq, Value.string.injEq, Value.int.injEq, and_true, true_and] at e2
          exact ⟨e2.1, e2.2⟩
        obtain ⟨rfl, rfl⟩ := e3
        rw [hl'] at hb
        subst hb
        exact .inr (by simp)
      · refine .inl ?_
        have : k.sameKey kl = false := by
          cases hs : k.sameKey kl with
          | false => rfl
          | true => exact absurd (WideAt.sameKey_eq hs) e
        rw [h1, this]
        rfl
    · refine .inr ?_
      cases b with
      | false => simpa using h1
      | true => simp [h1]
theorem Coll.skip {vs : List VerL} {D : DataW Unit} {left : Lit → Bool} {ss : List (List UInt8)} (h : Coll vs left ss) (hD : ∀ id c k, keyOf Tryz.prog 170 (spotV id c) = some k → D.atKey k (.lit (.bool false)) = .lit (.bool (lives vs id c)))
    {id : ByteArray} {c : Int} {kl : Lit} (hk : keyOf Tryz.prog 170 (spotV id c) = some kl) (hat : ∀ z, D.atKey kl z = .lit (.bool false)) : Coll vs (fun z => left z && !z.sameKey kl) ss := by
  have := h.step hD hk hat
  rwa [if_neg (by decide)] at this
theorem Coll.add {vs : List VerL} {D : DataW Unit} {left : Lit → Bool} {ss : List (List UInt8)} (h : Coll vs left ss) (hD : ∀ id c k, keyOf Tryz.prog 170 (spotV id c) = some k → D.atKey k (.lit (.bool false)) = .lit (.bool (lives vs id c)))
    {id : ByteArray} {c : Int} {kl : Lit} (hk : keyOf Tryz.prog 170 (spotV id c) = some kl) (hat : ∀ z, D.atKey kl z = .lit (.bool true)) : Coll vs (fun z => left z && !z.sameKey kl) (ss ++ [id.data.toList]) := by
  have := h.step hD hk hat
  rwa [if_pos rfl] at this
theorem Coll.ids {vs : List VerL} {left : Lit → Bool} {ss : List (List UInt8)} (h : Coll vs left ss) (hst : StOk vs) (hl : ∀ kl, left kl = false) : IsIds vs (namesOf ss) := namesOf_ids fun s => by
  refine ⟨h.sound s, fun ⟨c, hc⟩ => ?_⟩
  obtain ⟨v, hv, rfl, rfl, _⟩ := lives_mem vs hc
  have ho := hst.ver v hv
  obtain ⟨k, hk⟩ := spot_key v.r.id v.r.cats (nm_max ho.id) (wf_cats ho.c0 ho.c1)
  rcases h.full _ _ k hk hc with h1 | h1
  · rw [hl] at h1; cases h1
  · exact h1

theorem row_cut {w : World} {B : Nat} {e : TypeId} {g cap n m : Nat} {xs : List Value} (h : w.ownsRow B e 1 (.slice (some ⟨g, 0, none⟩) n cap) n xs) (hm : m ≤ n) : w.ownsRow B e 1 (.slice (some ⟨g, 0, none⟩) m cap) m (xs.take m) := by
  rcases h.2 with ⟨e1, _⟩ | ⟨g', cap', cur, e1, hb, hh, h1, h2, h3, h4⟩
  · cases e1
  · injection e1 with ea _ ec
    injection ea with ea
    injection ea with ea
    subst ea ec
    refine ⟨?_, .inr ⟨g, cap, cur, rfl, hb, hh, by omega, h2, h3, ?_⟩⟩
    · rw [List.length_take, h.1]; omega
    · rw [← h4, List.take_take]
      congr 1
      omega

def IdsTo (vs : List VerL) (w : World) (e : Ending) (w' : World) : Prop := ∃ A m c ids, e = .returned (.tuple #[.slice A m c, .int .i64 0]) ∧ IsIds vs ids ∧ ids.length = m ∧ SlS w' A ids ∧ m ≤ c ∧ c ≤ maxLen ∧ Below w.heap.size w w'

theorem compact_le (zs : List (List UInt8)) : (Lib.compact zs).length ≤ zs.length := by
  unfold Lib.compact Lib.compactUpTo
  rw [List.length_map]
  exact Nat.le_trans (List.length_filter_le _ _) (by simp)

set_option maxHeartbeats 4000000 in
theorem ids_ok {n : Nat} {a : Option Addr} {vs : List VerL} (c : Nat) (w : World) (h : VsAt w a n vs) (hst : stErr vs = 0) :
    Calls Tryz.prog 115 #[.slice a n c] w (IdsTo vs w) := by
  have HH := Lib.hid h
  have HST := Lib.hid hst
  have HOK := Lib.hid (stErr_ok.1 hst).2
  have hvl : vs.length ≤ 5120 := (stErr_ok.1 hst).1
  have hnm : n ≤ maxLen := by have := h.len; unfold maxLen; omega
  have HC := Lib.hid (counts_ok c w h hnm hst)
  obtain ⟨N, hN⟩ : ∃ N, vs.length + vs.length = N := ⟨_, rfl⟩
  have hN1 : N ≤ 10240 := by omega
  have HN := Lib.hid hN
  clear h hst hvl hnm hN
  go_enter Tryz.func115, Tryz.ntmps115
  go_wp2_with fail
  refine HC.out.mono ?_
  rintro e w1 ⟨b1, b2, rfl, hb1, ht⟩
  obtain ⟨D, hown, hD⟩ := ht.v
  rw [HN.out] at hown
  have hown2 := hown.alloc (.cells #[.map (some b1), .map (some b2)] 162)
  have hlt1 := hown.lt
  have HD := Lib.hid hD
  have HB1 := Lib.hid hb1
  clear ht hown hD hb1 HC
  go_wp2_with (at_range; refine wpList_range_own _ rfl _ 160 rfl 170 4 lawSpot Tryz.underlying160 _ b2 N _ rfl hown2 ?_; intro w2 hrg0 hg0 hs0)
  go_frame
  obtain ⟨rr, hr⟩ : ∃ rr, rr = (w1.alloc (.cells #[.map (some b1), .map (some b2)] 162)).heap.size := ⟨_, rfl⟩
  have hrw : rr = w1.heap.size + 1 := by rw [hr]; simp
  have hB2 : Below w.heap.size w w2 := (HB1.out.alloc HB1.out.size _).grown hg0 (HB1.out.alloc HB1.out.size _).size (fun j hj => by cases hj)
  have hD7 := hown2.size_le
  have hrs : rr ≤ w2.heap.size := by omega
  have hlb : b2 < rr := by omega
  have hwr : w.heap.size ≤ rr := by have := HB1.out.size; omega
  rw [← hr] at hrg0 hs0 ⊢
  obtain ⟨i0, hi, hz0, hz1, hz2⟩ := info_parts Tryz.infoStr
  have HB2 := Lib.hid hB2
  clear hg0 hs0 hB2 hr hown2 hlt1 hrw
  go_loopw [6] (fun v wq => ∃ (left : Lit → Bool) (cnt : Nat) (ss : List (List UInt8)), wq.ranges Tryz.prog 170 (plainElem Tryz.prog 4) b2 rr N D left cnt ∧ ss.length + cnt ≤ N ∧
      wq.ownsRow rr 9 1 v ss.length (ss.map encStr) ∧ Hid (Coll vs left ss) ∧ Hid (Below w.heap.size w wq) ∧ rr ≤ wq.heap.size)
    (fun _ wq => wq.rangeLeft b2 rr)
  case atStart => exact ⟨_, _, [], hrg0, by simpa using hD7, World.ownsRow_nil _ _ _ _, Coll.start HD.out, HB2.out, hrs⟩
  case round =>
    clear hrg0 HB2 hD7 hrs
    obtain ⟨left, cnt, ss, hrg, hcs, hrow, hC, hB, hrs⟩ := hrel
    go_wp2_with (at_next; refine wpList_next_ranges _ rfl _ rfl 170 lawSpot (plainElem Tryz.prog 4) (fun q : ByteArray × Int => spotV q.1 q.2) Value.bool (fun key kl hk => by obtain ⟨id, c, e⟩ := spot_inv hk; exact ⟨(id, c), e⟩) (fun v y hv => by obtain ⟨c, e, _⟩ := plainElem_bool_inv Tryz.underlying4 hv; exact ⟨c, e⟩) b2 rr N _ _ _ rfl hrg ?_ ?_)
    · intro _ hl0
      have hids := hC.out.ids HOK.out hl0
      have HIDS := Lib.hid hids
      rcases hrow.2 with ⟨rfl, h0⟩ | ⟨g, cap, cur, rfl, hbase, hb, h1, h2, h3, h4⟩
      · obtain rfl : ss = [] := List.eq_nil_of_length_eq_zero h0
        clear hrg hcs hrow hids hC
        go_wp2_with fail
        refine (sort_nil none 0 _).mono ?_
        rintro e w' ⟨rfl, rfl⟩
        go_wp2_with fail
        refine (Any.slices_Compact_string_empty Tryz.lays194 none 0 _).mono ?_
        rintro e w' ⟨rfl, rfl⟩
        go_wp2_with fail
        go_ret2
        have hn0 : namesOf [] = [] := by simp [namesOf, Lib.compact, Lib.compactUpTo]
        have hi0 := HIDS.out
        rw [hn0] at hi0
        exact ⟨none, 0, 0, [], rfl, hi0, rfl, SlS.nil _ _, Nat.le_refl _, Nat.zero_le _, hB.out⟩
      · have hgw : g < wr.heap.size := (Array.getElem?_eq_some_iff.1 hb).1
        have hsort : Calls Tryz.prog 85 #[.slice (some ⟨g, 0, none⟩) ss.length cap] wr fun e w' => e = .returned (.tuple #[]) ∧ (w'.ownsRow rr 9 1 (.slice (some ⟨g, 0, none⟩) ss.length cap) ss.length ((ss.mergeSort fun x y => decide (x ≤ y)).map encStr) ∧ wr.grownBy w' (some g)) :=
          (Any.slices_Sort_string Tryz.lays190 g 0 cap ss wr (holds_of_block hb (by simpa using h4)) hgw (by omega)).mono fun e w' ⟨he, nn, os, hw⟩ => by
            subst hw
            exact ⟨he, ownsRow_sorted (w := wr) (n := nn) (os := os) (ss := ss) (ts := ss.mergeSort (fun x y => decide (x ≤ y))) (by simp) hbase hb h1 h2 h3, grownBy_sorted _⟩
        obtain ⟨zs, hzs⟩ : ∃ zs, (ss.mergeSort fun x y => decide (x ≤ y)) = zs := ⟨_, rfl⟩
        rw [hzs] at hsort
        have hzl : zs.length = ss.length := by rw [← hzs]; simp
        have hnm : namesOf ss = (Lib.compact zs).map fun b => ⟨b.toArray⟩ := by unfold namesOf; rw [hzs]
        obtain ⟨m, hm⟩ : ∃ m, ss.length = m := ⟨_, rfl⟩
        rw [hm] at hsort hzl ⊢
        have HSO := Lib.hid hsort
        have HNM := Lib.hid hnm
        have HZL := Lib.hid hzl
        have hmc : m ≤ cap := by omega
        have HH2 := Lib.hid h2
        clear hsort hcs hrg hrow hl0 hb h1 h2 h3 h4 hC hids hzs hnm hzl hm
        go_wp2_with fail
        refine HSO.out.mono ?_
        rintro e w3 ⟨rfl, hrow3, hg3⟩
        have hB3 : Below w.heap.size w w3 := hB.out.grown hg3 hB.out.size (fun j hj => by cases hj; omega)
        obtain ⟨cur3, hb3, h13, h23, h33, h43⟩ : ∃ cur3, w3.heap[g]? = some (.cells cur3 9 (0, 0)) ∧ m ≤ cap ∧ cap ≤ maxLen ∧ cur3.size = cap * 1 ∧ cur3.toList.take (m * 1) = zs.map encStr := by
          rcases hrow3.2 with ⟨e1, _⟩ | ⟨g', cap', cur', e1, hb', hh', k1, k2, k3, k4⟩
          · cases e1
          · injection e1 with ea _ ec
            injection ea with ea
            injection ea with ea
            subst ea ec
            exact ⟨cur', hh', k1, k2, k3, k4⟩
        have hholds : Holds encStr w3 g 0 zs.toArray := holds_of_block hb3 (by rw [HZL.out]; simpa using h43)
        have hcomp := Any.slices_Compact_string Tryz.lays194 g 0 cap zs w3 hholds (by rw [HZL.out]; unfold maxLen at *; omega) (by rw [HZL.out]; exact h13)
        rw [HZL.out] at hcomp
        have hcl : (Lib.compact zs).length ≤ m := by rw [← HZL.out]; exact compact_le zs
        have hfin : Calls Tryz.prog 86 #[.slice (some ⟨g, 0, none⟩) m cap] w3 fun e w' => e = .returned (.slice (some ⟨g, 0, none⟩) (Lib.compact zs).length cap) ∧ SlS w' (some ⟨g, 0, none⟩) ((Lib.compact zs).map fun b => ⟨b.toArray⟩) ∧ w3.grownBy w' (some g) := hcomp.mono fun e w' ⟨he, q, hw⟩ => by
          have hrow4 := ownsRow_sorted (w := w3) (n := q) (os := #[]) (ss := zs) (ts := Lib.compact zs ++ List.replicate (m - (Lib.compact zs).length) []) (e := 9) (base := rr) (cap := cap) (by rw [List.length_append, List.length_replicate, HZL.out]; omega) hbase hb3 (by rw [HZL.out]; exact h13) h23 h33
          have hg4 : w3.grownBy (grow (putRow encStr (Sort.ahead w3 q) g 0 (Lib.compact zs ++ List.replicate (m - (Lib.compact zs).length) []).toArray) #[]) (some g) := grownBy_sorted _
          rw [grow_empty, ← hw] at hrow4 hg4
          have hrow5 := row_cut hrow4 (m := (Lib.compact zs).length) (by rw [HZL.out]; exact hcl)
          have hcut : ((Lib.compact zs ++ List.replicate (m - (Lib.compact zs).length) []).map encStr).take (Lib.compact zs).length = cellsS ((Lib.compact zs).map fun b => ⟨b.toArray⟩) := by
            rw [List.map_append, List.take_left' (by simp)]
            unfold cellsS
            rw [List.map_map]
            rfl
          rw [hcut] at hrow5
          have hos : OwnS rr w' (.slice (some ⟨g, 0, none⟩) ((Lib.compact zs).map fun b => (⟨b.toArray⟩ : ByteArray)).length cap) ((Lib.compact zs).map fun b => ⟨b.toArray⟩) := by
            unfold OwnS
            rw [List.length_map]
            exact hrow5
          exact ⟨he, hos.sl.1, hg4⟩
        have HFIN := Lib.hid hfin
        have HB3 := Lib.hid hB3
        have HCL := Lib.hid hcl
        have hgw3 : g < w3.heap.size := Nat.lt_of_lt_of_le hgw hg3.size
        obtain ⟨y, hy⟩ : ∃ y, (Lib.compact zs).length = y := ⟨_, rfl⟩
        have HY := Lib.hid hy
        rw [hy] at HFIN HCL
        clear hfin hcomp hholds hB3 hrow3 hg3 hb3 h13 h33 h43 hcl HSO hy
        go_wp2_with fail
        refine HFIN.out.mono ?_
        rintro e w4 ⟨rfl, hsl, hg4⟩
        have HSL := Lib.hid hsl
        have HB4 := Lib.hid (HB3.out.grown hg4 HB3.out.size (fun j hj => by cases hj; omega))
        clear hsl hg4 HFIN
        go_wp2_with fail
        go_ret2
        refine ⟨some ⟨g, 0, none⟩, y, cap, namesOf ss, rfl, HIDS.out, ?_, ?_, Nat.le_trans HCL.out hmc, HH2.out, HB4.out⟩
        · rw [HNM.out, List.length_map, HY.out]
        · rw [HNM.out]
          exact HSL.out
    · intro id ct
      constructor
      · intro kl y1 y2 w4 cnt4 hkey hlk hR hat hrg4 hlt4 hg4 hs4 hen
        have hy : y1 = .lit (.bool false) := by rw [plainElem_bool Tryz.underlying4] at hR; cases hR; rfl
        subst hy
        have hrow4 := hrow.kept hg4 (Or.inr (row_ne_iter hrow hrg).symm)
        have HB4 := Lib.hid (hB.out.grown hg4 hB.out.size (fun j hj => by cases hj; omega))
        have HCS := Lib.hid (hC.out.skip HD.out hkey hat)
        have hw4 : rr ≤ w4.heap.size := by omega
        clear hkey hlk hR hat hg4 hs4 hB hC hrs
        go_wp2_with fail
        go_roundw
        case rel => exact ⟨_, cnt4, ss, hrg4.alloc _, by omega, hrow4.alloc _, HCS.out, HB4.out.alloc HB4.out.size _, by simp; omega⟩
        case measure => rw [(hrg4.alloc _).left_eq, hrg.left_eq]; exact hlt4
      · intro kl y1 y2 w4 cnt4 hkey hlk hR hat hrg4 hlt4 hg4 hs4 hen
        have hy : y1 = .lit (.bool true) := by rw [plainElem_bool Tryz.underlying4] at hR; cases hR; rfl
        subst hy
        have hrow4 := (hrow.kept hg4 (Or.inr (row_ne_iter hrow hrg).symm)).alloc (.cells #[.string id, .int .i64 ct] 170)
        have hB4 : Below w.heap.size w (w4.alloc (.cells #[.string id, .int .i64 ct] 170)) := (hB.out.grown hg4 hB.out.size (fun j hj => by cases hj; omega)).alloc (by have := hB.out.size; have := hg4.size; omega) _
        have HCS := Lib.hid (hC.out.add HD.out hkey hat)
        have hrg5 := hrg4.alloc (.cells #[.string id, .int .i64 ct] 170)
        have hw4 : rr ≤ w4.heap.size := by omega
        have HB4 := Lib.hid hB4
        clear hkey hlk hR hat hg4 hs4 hB hC hrs hB4 hrow
        go_wp2_with (at_builtin; refine wpList_append_own _ rfl _ _ 33 rfl rr 9 i0 (.string ⟨#[]⟩) 1 16 Tryz.underlying33 hi hz0 hz1 hz2 rfl (by decide) _ _ _ rfl (hrow4.alloc _) ⟨w4.heap.size + 1, 0, none⟩ 1 1 [.string id] rfl rfl ?cc (by simp [Value.oneCell']) ?c1 ?c2 ?c3 ?_)
        case cc => intro j u hj; rw [addr_at]; match j, hj with | 0, hj => cases hj; simp [go_sem] | j + 1, hj => simp at hj
        case c1 => unfold maxLen; omega
        case c2 => omega
        case c3 => simp; omega
        intro v' w5 hown5 hg5 _
        have hr5 : w5.ranges Tryz.prog 170 (plainElem Tryz.prog 4) b2 rr N D _ cnt4 := (hrg5.alloc _).kept hg5 (row_ne_low hrow4 hlb) (row_ne_iter hrow4 hrg5)
        have hR5 := Lib.hid hr5
        have HB5 := Lib.hid ((HB4.out.alloc HB4.out.size _).grown hg5 (HB4.out.alloc HB4.out.size _).size (fun j hj => by have := (hrow4.lt j hj).1; omega))
        have hs5 : rr ≤ w5.heap.size := by have := hg5.size; simp at this; omega
        clear hr5 hg5 hrow4
        go_wp2_with fail
        go_roundw
        case rel => exact ⟨_, cnt4, ss ++ [id.data.toList], hR5.out, by simp; omega, by simpa [encStr] using hown5, HCS.out, HB5.out, hs5⟩
        case measure => rw [hR5.out.left_eq, hrg.left_eq]; exact hlt4

set_option maxHeartbeats 2000000 in
theorem ids_no {n : Nat} {er : Int} {a : Option Addr} {vs : List VerL} (c : Nat) (w : World) (h : VsAt w a n vs) (hm : n ≤ maxLen) (he : stErr vs = er) (h0 : er ≠ 0) :
    Calls Tryz.prog 115 #[.slice a n c] w fun e w' => e = .returned (.tuple #[.slice none 0 0, .int .i64 er]) ∧ Below w.heap.size w w' := by
  have HC := Lib.hid (counts_bad c w h hm he h0)
  have h1 : (er == 0) = false := by simpa using h0
  have h2 : (er != 0) = true := by simpa using h0
  clear h hm he
  go_enter Tryz.func115, Tryz.ntmps115
  go_wp2_with fail
  refine HC.out.mono ?_
  rintro e w1 ⟨rfl, hb1⟩
  have HB1 := Lib.hid hb1
  clear hb1
  go_wp2_with fail
  go_ret2
  exact ⟨rfl, HB1.out.alloc HB1.out.size _⟩
end Go.Proofs.YteimdhkajbldjaaGreat
