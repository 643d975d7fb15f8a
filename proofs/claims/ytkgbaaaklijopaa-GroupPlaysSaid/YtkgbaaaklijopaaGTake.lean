/- Take: what a follower takes. -/
import Derived.Test.YtkgbaaaklijopaaGDel
import Derived.Deep.RegionWith
set_option linter.unusedVariables false
set_option linter.unusedSimpArgs false
set_option maxRecDepth 100000
namespace Go.Proofs.Ytkgbaaaklijopaa
open Go.RowKit Go.Sort

/-- of how many strings of l, from place f on, there are the places already -/
def thereN (L l : List ByteArray) (f : Nat) : Nat := min (L.length - f) l.length
/-- what is wrong with taking l, from place f on -/
def takeE (L l : List ByteArray) (f : Int) : Int :=
  if f < 0 ∨ 60 < l.length then 1 else if (L.length : Int) < f then 9 else if (L.drop f.toNat).take (thereN L l f.toNat) ≠ l.take (thereN L l f.toNat) then 3 else if 60 < f + (l.length : Int) then 2 else 0
/-- what there is then -/
def takeL (L l : List ByteArray) (f : Nat) : List ByteArray := L ++ l.drop (thereN L l f)

theorem there_is {w : World} {q j k kc m c f K : Nat} {a A : Option Addr} (hc : w.cell? ⟨q, j * 2, none⟩ = some (.slice a k kc)) (hf : f ≤ k) (hk : k ≤ 100000) (hm : m ≤ 100000) (hK : min (k - f) m = K) :
    Calls Try.prog 36 #[ptrF q j, .int .i64 (f : Int), .slice A m c] w fun e w' => e = .returned (.int .i64 (K : Int)) ∧ w' = w := by
  have e1 : min ((k : Int) - (f : Int)) (m : Int) = (K : Int) := by omega
  have i1 : (f : Int) ≤ (k : Int) := by omega
  have i2 : (k : Int) ≤ 100000 := by omega
  clear hK hf hk
  go_enter Try.func36, Try.ntmps36
  go_wp2_with fail
  go_ret
  try rw [e1]
  exact ⟨rfl, rfl⟩

def CheckTo (er : Int) (w : World) (e : Ending) (w' : World) : Prop := e = .returned (.int .i64 er) ∧ Below w.heap.size w w'
set_option maxHeartbeats 1000000 in
theorem check_any {w : World} {q j k kc m c : Nat} {f : Int} {a A : Option Addr} {L l : List ByteArray} (hc : w.cell? ⟨q, j * 2, none⟩ = some (.slice a k kc)) (hL : SlS w a L) (hk : L.length = k) (hkc : k ≤ kc) (hk60 : k ≤ 60) (hl : SlS w A l) (hm : l.length = m) (hmc : m ≤ c) {er : Int} (he : takeE L l f = er) :
    Calls Try.prog 35 #[ptrF q j, .int .i64 f, .slice A m c] w (CheckTo er w) := by
  unfold takeE at he
  rw [hm, hk] at he
  by_cases h0 : f < 0
  · rw [if_pos (.inl h0)] at he
    subst he
    clear hL hk hl hm
    go_enter Try.func35, Try.ntmps35
    go_wp2_with fail
    go_ret
    exact ⟨rfl, Below.refl _ _⟩
  by_cases h1 : 60 < m
  · rw [if_pos (.inr h1)] at he
    subst he
    have h1' : (60 : Int) < (m : Int) := by omega
    clear hL hk hl hm h1
    go_enter Try.func35, Try.ntmps35
    go_wp2_with fail
    go_ret
    exact ⟨rfl, Below.refl _ _⟩
  rw [if_neg (by omega)] at he
  have h1' : ¬ (60 : Int) < (m : Int) := by omega
  by_cases h2 : (k : Int) < f
  · rw [if_pos h2] at he
    subst he
    clear hL hk hl hm h1
    go_enter Try.func35, Try.ntmps35
    go_wp2_with fail
    go_ret
    exact ⟨rfl, Below.refl _ _⟩
  rw [if_neg h2] at he
  obtain ⟨F, rfl⟩ : ∃ F : Nat, f = F := ⟨f.toNat, by omega⟩
  rw [Int.toNat_natCast] at he
  obtain ⟨K, hK⟩ : ∃ K, min (k - F) m = K := ⟨_, rfl⟩
  have hKK : thereN L l F = K := by unfold thereN; rw [hk, hm]; exact hK
  rw [hKK] at he
  have hT := Lib.hid (there_is (A := A) (c := c) hc (f := F) (by omega) (by omega) (by omega) hK)
  obtain ⟨a1, hr1, hs1, _⟩ := sl_mid (a := a) (n := k) (c := kc) (i := F) (j := F + K) .i64 .i64 (by omega) (by omega) hkc
  obtain ⟨a2, hr2, hs2, _⟩ := sl_to (a := A) (n := m) (c := c) (m := K) .i64 (by omega) hmc
  have hd : Below w.heap.size w w.drew := (Below.refl _ _).drew
  have q1 := (hs1 w L hL hk).below hd
  have q2 := (hs2 w l hl).below hd
  rw [show F + K - F = K by omega] at hr1 q1
  have e1 : ((L.drop F).take K).length = K := by rw [List.length_take, List.length_drop, hk]; omega
  have e2 : (l.take K).length = K := by rw [List.length_take, hm]; omega
  obtain ⟨b, hb⟩ : ∃ b, decide ((L.drop F).take K = l.take K) = b := ⟨_, rfl⟩
  have hE := eqS_is (b := b) a1 a2 ((L.drop F).take K) (l.take K) (kc - F) c w.drew q1 q2 (by rw [e1]; unfold maxLen; omega) (by rw [e2]; unfold maxLen; omega) hb
  rw [e1, e2] at hE
  obtain ⟨FK, hFK⟩ : ∃ FK : Nat, FK = F + K := ⟨_, rfl⟩
  rw [← hFK] at hr1
  have i5 : IntKind.i64.wrap ((F : Int) + (K : Int)) = (FK : Int) := by unfold IntKind.wrap; simp [IntKind.bits, IntKind.signed]; omega
  have HE := Lib.hid hE
  have HB := Lib.hid hb
  have HD := Lib.hid hd
  have hw : ∀ w', Below w.drew.heap.size w.drew w' → Below w.heap.size w w' := fun w' k => hd.trans (k.mono (Nat.le_refl _))
  have HW := Lib.hid hw
  have HF := Lib.hid (show FK ≤ 120 by omega)
  have i3 : (F : Int) ≤ (k : Int) := by omega
  have i4 : (k : Int) ≤ 60 := by omega
  have HK0 := Lib.hid hKK
  clear hL hk hl hm hs1 hs2 q1 q2 e1 e2 hE hb hd hw hFK hK hKK h2 h1 h0
  cases b with
  | false =>
    have hne := HB.out
    rw [decide_eq_false_iff_not] at hne
    rw [if_pos hne] at he
    subst he
    clear hne
    go_enter Try.func35, Try.ntmps35
    go_wp2_with fail
    refine hT.out.mono ?_
    rintro e w' ⟨rfl, rfl⟩
    go_wp2_with fail
    go_region_with (go_at_call 18; refine HE.out.mono ?_; rintro e w5 ⟨rfl, hb5⟩; have HB5 := Lib.hid (HW.out w5 hb5); clear hb5)
    all_goals
      go_wp2_with fail
      go_ret
      exact ⟨rfl, HB5.out⟩
  | true =>
    have hne := HB.out
    rw [decide_eq_true_eq] at hne
    rw [if_neg (by rw [hne]; simp)] at he
    clear hne
    by_cases h3 : 60 < (F : Int) + (m : Int)
    · rw [if_pos h3] at he
      subst he
      go_enter Try.func35, Try.ntmps35
      go_wp2_with fail
      refine hT.out.mono ?_
      rintro e w' ⟨rfl, rfl⟩
      go_wp2_with fail
      go_region_with (go_at_call 18; refine HE.out.mono ?_; rintro e w5 ⟨rfl, hb5⟩; have HB5 := Lib.hid (HW.out w5 hb5); clear hb5)
      all_goals
        go_wp2_with fail
        go_ret
        exact ⟨rfl, HB5.out⟩
    · rw [if_neg h3] at he
      subst he
      go_enter Try.func35, Try.ntmps35
      go_wp2_with fail
      refine hT.out.mono ?_
      rintro e w' ⟨rfl, rfl⟩
      go_wp2_with fail
      go_region_with (go_at_call 18; refine HE.out.mono ?_; rintro e w5 ⟨rfl, hb5⟩; have HB5 := Lib.hid (HW.out w5 hb5); clear hb5)
      all_goals
        go_wp2_with fail
        go_ret
        exact ⟨rfl, HB5.out⟩
end Go.Proofs.Ytkgbaaaklijopaa
