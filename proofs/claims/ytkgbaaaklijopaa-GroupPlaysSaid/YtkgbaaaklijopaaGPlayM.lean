/- What is asked of a group and of the document s answer for it at once. -/
import Derived.Test.YtkgbaaaklijopaaGRef4
import Derived.Test.YtkgbaaaklijopaaGRef5
import Derived.Test.YtkgbaaaklijopaaGroupTwice
import Derived.Deep.DeepCutAuto
import Derived.Deep.CutBlock
set_option linter.unusedVariables false
set_option linter.unusedSimpArgs false
set_option maxRecDepth 100000
namespace Go.Proofs.Ytkgbaaaklijopaa
open Go.RowKit Go.Sort

theorem within_wide (k n : Int) (h0 : 0 < n) (h1 : n ≤ 9223372036854775807) : ∃ x : Nat, wrap64 ((IntKind.u64.wrap k).tmod n) = (x : Int) ∧ (x : Int) < n := by
  refine ⟨(k % 18446744073709551616 % n).toNat, ?_, ?_⟩
  · rw [IntKind.wrap_u64, tmod_of_emod]
    have h2 := Int.emod_nonneg (k % 18446744073709551616) (show n ≠ 0 by omega)
    have h3 := Int.emod_lt_of_pos (k % 18446744073709551616) h0
    unfold wrap64
    omega
  · have h2 := Int.emod_nonneg (k % 18446744073709551616) (show n ≠ 0 by omega)
    have h3 := Int.emod_lt_of_pos (k % 18446744073709551616) h0
    omega
theorem pick_any {a : Option Addr} {l : List ByteArray} {n c : Nat} (w : World) (hs : SlS w a l) (hn : l.length = n) (hm : n ≤ 9223372036854775807) (k : Int) :
    ∃ s : ByteArray, Hid (Calls Try.prog 13 #[.slice a n c, .int .i64 k] w fun e w' => e = .returned (.string s) ∧ w' = w) := by
  by_cases h0 : n = 0
  · refine ⟨⟨#[]⟩, ?_⟩
    have e0 : ((n : Int) == 0) = true := by rw [h0]; rfl
    clear hs hn hm h0
    go_enter Try.func13, Try.ntmps13
    go_wp2_with fail
    go_ret
    exact ⟨rfl, rfl⟩
  · have e0 : ((n : Int) == 0) = false := by rw [beq_eq_false_iff_ne]; omega
    obtain ⟨x, e1, h2⟩ := within_wide k n (by omega) (by omega)
    obtain ⟨s, hx⟩ : ∃ s, l[x]? = some s := ⟨_, List.getElem?_eq_getElem (by omega)⟩
    obtain ⟨b, off, rfl, hc⟩ := hs x s hx
    refine ⟨s, ?_⟩
    have n1 : (0 : Int) < (n : Int) := by omega
    have n2 : (n : Int) ≤ 9223372036854775807 := by omega
    have n3 : (0 : Int) ≤ (x : Int) := by omega
    clear hs hn hm h0 hx
    go_enter Try.func13, Try.ntmps13
    go_wp2_with fail
    go_ret
    exact ⟨rfl, rfl⟩

theorem Try.infoStrsT : (Try.prog.info? 23).map (fun i => (i.zero, i.size, i.bytes)) = some (some (.slice none 0 0), 1, 24) := by kernel_rfl
theorem made_one {z : Value} {n k : Nat} (h : k < n) : (madeCells #[z] n)[k]? = some z := by
  rw [made_at h, show (#[z] : Array Value).size = 1 from rfl, Nat.mod_one]
  rfl
/-- both at the start: whichever of the two lists was made first -/
theorem both_start {S p q f m : Nat} {w3 W : World} (hm : m = f + 1) (b : LpG S p q w3 (GrpX.new f) W) (hS : S ≤ w3.heap.size) :
    Both S p q (W.heap.size + 2) W.heap.size (W.heap.size + 1) w3 (GrpX.new f) (GrpX.new f) (((W.drew.alloc (.cells (madeCells #[.slice none 0 0] m) 23)).alloc (.cells (madeCells #[.int .i64 0] m) 3)).alloc (.cells #[.slice (some ⟨W.heap.size, 0, none⟩) m m, .slice (some ⟨W.heap.size + 1, 0, none⟩) m m] 33)) ∧
    Both S p q (W.heap.size + 2) (W.heap.size + 1) W.heap.size w3 (GrpX.new f) (GrpX.new f) (((W.drew.alloc (.cells (madeCells #[.int .i64 0] m) 3)).alloc (.cells (madeCells #[.slice none 0 0] m) 23)).alloc (.cells #[.slice (some ⟨W.heap.size + 1, 0, none⟩) m m, .slice (some ⟨W.heap.size, 0, none⟩) m m] 33)) := by
  subst hm
  obtain ⟨O, h1, h2, h3⟩ := b
  have hw := Nat.le_trans hS h3.size
  have hno : ∀ d, W.heap.size ≤ d → ¬ O d := fun d hd k => by have := h1.lt d k; omega
  have hB : ∀ o1 o2 o3 : Obj, Below W.heap.size W (((W.drew.alloc o1).alloc o2).alloc o3) := fun o1 o2 o3 => (((((Below.refl _ W).drew).alloc (by simp) _).alloc (by simp) _).alloc (by simp; omega) _)
  constructor
  · refine ⟨O, fun _ => none, fun _ => 0, h1.below (hB _ _ _), h2, h3.trans ((hB _ _ _).mono hw), ⟨by omega, by omega, by omega, by omega, by omega, by omega, by simp, by simp <;> omega, by simp <;> omega, hno _ (by omega), hno _ (by omega), hno _ (by omega), fun o => by simp [go_sem], fun o => by simp [go_sem], by simp [go_sem, GrpX.new], by simp [go_sem, GrpX.new], fun j hj => ?_, fun j hj => ?_, fun j hj => ⟨SlS.nil _ _, Nat.zero_le _⟩, fun j hj d e => by cases e⟩⟩
    · have := made_one (z := .slice none 0 0) (n := f + 1) (k := j) (Nat.lt_succ_of_le hj)
      simp [go_sem, GrpX.new, this]
    · have := made_one (z := .int .i64 0) (n := f + 1) (k := j) (Nat.lt_succ_of_le hj)
      have e : (GrpX.new f).tell j = 0 := by unfold GrpX.tell GrpX.new; simp
      rw [e]
      simp [go_sem, this]
  · refine ⟨O, fun _ => none, fun _ => 0, h1.below (hB _ _ _), h2, h3.trans ((hB _ _ _).mono hw), ⟨by omega, by omega, by omega, by omega, by omega, by omega, by simp, by simp <;> omega, by simp <;> omega, hno _ (by omega), hno _ (by omega), hno _ (by omega), fun o => by simp [go_sem], fun o => by simp [go_sem], by simp [go_sem, GrpX.new], by simp [go_sem, GrpX.new], fun j hj => ?_, fun j hj => ?_, fun j hj => ⟨SlS.nil _ _, Nat.zero_le _⟩, fun j hj d e => by cases e⟩⟩
    · have := made_one (z := .slice none 0 0) (n := f + 1) (k := j) (Nat.lt_succ_of_le hj)
      simp [go_sem, GrpX.new, this]
    · have := made_one (z := .int .i64 0) (n := f + 1) (k := j) (Nat.lt_succ_of_le hj)
      have e : (GrpX.new f).tell j = 0 := by unfold GrpX.tell GrpX.new; simp
      rw [e]
      simp [go_sem, this]

/-! ## what is asked of both -/
section
variable {S p q pm h k : Nat} {w3 w w' : World} {X X' Y : GrpX}
theorem Both.ref {O : Nat → Prop} {A : Nat → Option Addr} {C : Nat → Nat} (h1 : Grp w O p q X) (h2 : ∀ z, O z → S ≤ z) (h3 : Below S w3 w) (h4 : RefA w O S pm h k Y A C) (hS : S ≤ w3.heap.size) (hg : RefTo O S pm h k X' w w') : Both S p q pm h k w3 X X' w' := by
  obtain ⟨A', C', g1, g2⟩ := hg
  have hw := Nat.le_trans hS h3.size
  exact ⟨O, A', C', h1.keep (g2.sub fun z _ hz => ⟨fun e => h4.nh (by rw [← e]; exact hz), fun e => h4.nk (by rw [← e]; exact hz)⟩), h2, h3.trans (g2.to (fun z hz => ⟨by have := h4.sh; omega, by have := h4.sk; omega⟩) hw), g1⟩
theorem Both.adding (b : Both S p q pm h k w3 X X w) (hS : S ≤ w3.heap.size) (s : ByteArray) : ∃ (x er : Int) (X' : GrpX), X'.n = X.n ∧
    Hid (Calls Try.prog 14 #[ptr p, .string s] w fun e w' => e = .returned (.tuple #[.int .i64 x, .int .i64 er]) ∧
      Hid (Calls Try.prog 15 #[ptr pm, .string s] w' fun e w'' => e = .returned (.tuple #[.int .i64 x, .int .i64 er]) ∧ Both S p q pm h k w3 X' X' w'')) := by
  obtain ⟨O, A, C, h1, h2, h3, h4⟩ := b
  by_cases h60 : (X.L 0).length < 60
  · refine ⟨(((X.L 0).length + 1 : Nat) : Int), 0, X.setL 0 (X.L 0 ++ [s]), rfl, (add_yes h1 h60).mono ?_⟩
    rintro e w' ⟨rfl, hg⟩
    obtain ⟨O', A', C', g1, g2, g3, g4⟩ := Both.step h1 h2 h3 h4 hS hg
    refine ⟨rfl, (g4.add_yes (s := s) h60 g1.lt).mono ?_⟩
    rintro e w'' ⟨rfl, hr⟩
    exact ⟨rfl, Both.ref g1 g2 g3 g4 hS hr⟩
  · refine ⟨0, 2, X, rfl, (add_no h1 (by omega)).mono ?_⟩
    rintro e w' ⟨rfl, rfl⟩
    refine ⟨rfl, (h4.add_no (s := s) (by omega)).mono ?_⟩
    rintro e w'' ⟨rfl, rfl⟩
    exact ⟨rfl, O, A, C, h1, h2, h3, h4⟩
theorem Both.telling (b : Both S p q pm h k w3 X X w) (hS : S ≤ w3.heap.size) (i m : Int) : ∃ (er : Int) (X' : GrpX), X'.n = X.n ∧
    Hid (Calls Try.prog 11 #[ptr p, .int .i64 i, .int .i64 m] w fun e w' => e = .returned (.int .i64 er) ∧
      Hid (Calls Try.prog 21 #[ptr pm, .int .i64 i, .int .i64 m] w' fun e w'' => e = .returned (.int .i64 er) ∧ Both S p q pm h k w3 X' X' w'')) := by
  have b0 := b
  obtain ⟨O, A, C, h1, h2, h3, h4⟩ := b
  have hn := h1.ok.n4
  by_cases hi : i < 1 ∨ (X.n : Int) < i
  · refine ⟨4, X, rfl, (ack_none h1 hi).mono ?_⟩
    rintro e w' ⟨rfl, rfl⟩
    refine ⟨rfl, (h4.told_none hn hi).mono ?_⟩
    rintro e w'' ⟨rfl, rfl⟩
    exact ⟨rfl, b0⟩
  · obtain ⟨j, hj⟩ : ∃ j : Nat, i = ((j + 1 : Nat) : Int) := ⟨i.toNat - 1, by omega⟩
    have hjn : j < X.n := by omega
    by_cases hm : m < 0 ∨ ((X.L (j + 1)).length : Int) < m ∨ ((X.L 0).length : Int) < m
    · refine ⟨1, X, rfl, (ack_arg h1 hj hjn hm).mono ?_⟩
      rintro e w' ⟨rfl, rfl⟩
      refine ⟨rfl, (h4.told_arg hn hj hjn hm).mono ?_⟩
      rintro e w'' ⟨rfl, hb⟩
      exact ⟨rfl, b0.below hS hb⟩
    · obtain ⟨f, rfl⟩ : ∃ f : Nat, m = f := ⟨m.toNat, by omega⟩
      refine ⟨0, X.setT (j + 1) (max (X.told (j + 1)) f), rfl, (ack_yes h1 hj hjn (by omega) (by omega)).mono ?_⟩
      rintro e w' ⟨rfl, hg⟩
      obtain ⟨O', A', C', g1, g2, g3, g4⟩ := Both.step h1 h2 h3 h4 hS hg
      refine ⟨rfl, (g4.told_yes hn hj hjn (f := f) (by omega) (by omega)).mono ?_⟩
      rintro e w'' ⟨rfl, hr⟩
      exact ⟨rfl, Both.ref g1 g2 g3 g4 hS hr⟩
theorem Both.losing (b : Both S p q pm h k w3 X X w) (hS : S ≤ w3.heap.size) (i m : Int) : ∃ (er : Int) (X' : GrpX), X'.n = X.n ∧
    Hid (Calls Try.prog 22 #[ptr p, .int .i64 i, .int .i64 m] w fun e w' => e = .returned (.int .i64 er) ∧
      Hid (Calls Try.prog 23 #[ptr pm, .int .i64 i, .int .i64 m] w' fun e w'' => e = .returned (.int .i64 er) ∧ Both S p q pm h k w3 X' X' w'')) := by
  have b0 := b
  obtain ⟨O, A, C, h1, h2, h3, h4⟩ := b
  have hn := h1.ok.n4
  by_cases hi : i < 1 ∨ (X.n : Int) < i
  · refine ⟨4, X, rfl, (lose_none h1 hi).mono ?_⟩
    rintro e w' ⟨rfl, rfl⟩
    refine ⟨rfl, (h4.lose_none hn hi).mono ?_⟩
    rintro e w'' ⟨rfl, rfl⟩
    exact ⟨rfl, b0⟩
  · obtain ⟨j, hj⟩ : ∃ j : Nat, i = ((j + 1 : Nat) : Int) := ⟨i.toNat - 1, by omega⟩
    have hjn : j < X.n := by omega
    by_cases hm : m < (X.told (j + 1) : Int) ∨ ((X.L (j + 1)).length : Int) < m
    · refine ⟨1, X, rfl, (lose_arg h1 hj hjn hm).mono ?_⟩
      rintro e w' ⟨rfl, rfl⟩
      refine ⟨rfl, (h4.lose_arg hn hj hjn hm).mono ?_⟩
      rintro e w'' ⟨rfl, hb⟩
      exact ⟨rfl, b0.below hS hb⟩
    · obtain ⟨f, rfl⟩ : ∃ f : Nat, m = f := ⟨m.toNat, by omega⟩
      refine ⟨0, X.setL (j + 1) ((X.L (j + 1)).take f), rfl, (lose_yes h1 hj hjn (by omega) (by omega)).mono ?_⟩
      rintro e w' ⟨rfl, hg⟩
      obtain ⟨O', A', C', g1, g2, g3, g4⟩ := Both.step h1 h2 h3 h4 hS hg
      refine ⟨rfl, (g4.lose_yes hn hj hjn (f := f) (by omega) (by omega)).mono ?_⟩
      rintro e w'' ⟨rfl, hr⟩
      exact ⟨rfl, Both.ref g1 g2 g3 g4 hS hr⟩
theorem Both.sending (b : Both S p q pm h k w3 X X w) (hS : S ≤ w3.heap.size) (i m : Int) : ∃ (n : Nat) (er : Int) (l : List ByteArray), l.length = n ∧ n ≤ 60 ∧
    Hid (Calls Try.prog 16 #[ptr p, .int .i64 i, .int .i64 m] w fun e w' => ∃ a c, e = .returned (.tuple #[.slice a n c, .int .i64 er]) ∧
      Hid (Calls Try.prog 17 #[ptr pm, .int .i64 i, .int .i64 m] w' fun e w'' => ∃ a2 c2, e = .returned (.tuple #[.slice a2 n c2, .int .i64 er]) ∧ SlS w'' a l ∧ SlS w'' a2 l ∧ n ≤ c2 ∧ Both S p q pm h k w3 X X w'')) := by
  have b0 := b
  obtain ⟨O, A, C, h1, h2, h3, h4⟩ := b
  have hn := h1.ok.n4
  have h60 := h1.ok.few 0 (Nat.zero_le _)
  by_cases hi : i < 1 ∨ (X.n : Int) < i
  · refine ⟨0, 4, [], rfl, by omega, (send_none h1 hi).mono ?_⟩
    rintro e w' ⟨rfl, rfl⟩
    refine ⟨none, 0, rfl, (h4.send_none hn hi).mono ?_⟩
    rintro e w'' ⟨rfl, rfl⟩
    exact ⟨none, 0, rfl, SlS.nil _ _, SlS.nil _ _, Nat.le_refl _, b0⟩
  · obtain ⟨j, hj⟩ : ∃ j : Nat, i = ((j + 1 : Nat) : Int) := ⟨i.toNat - 1, by omega⟩
    have hjn : j < X.n := by omega
    by_cases hm : m < 0 ∨ ((X.L 0).length : Int) < m
    · refine ⟨0, 1, [], rfl, by omega, (send_arg h1 hj hjn hm).mono ?_⟩
      rintro e w' ⟨rfl, rfl⟩
      refine ⟨none, 0, rfl, (h4.send_arg hn hj hjn hm).mono ?_⟩
      rintro e w'' ⟨rfl, rfl⟩
      exact ⟨none, 0, rfl, SlS.nil _ _, SlS.nil _ _, Nat.le_refl _, b0⟩
    · obtain ⟨f, rfl⟩ : ∃ f : Nat, m = f := ⟨m.toNat, by omega⟩
      refine ⟨((X.L 0).drop f).length, 0, (X.L 0).drop f, rfl, by rw [List.length_drop]; omega, (send_yes h1 hj hjn (m := f) (by omega)).mono ?_⟩
      rintro e w' ⟨a, c, rfl, ho, hb⟩
      refine ⟨a, c, rfl, ((h4.below hb).send_yes hn hj hjn (f := f) (by omega) rfl).mono ?_⟩
      rintro e w'' ⟨a2, c2, rfl, k1, k2, _, rfl⟩
      exact ⟨a2, c2, rfl, (OwnS.sl ho).1, k1, k2, b0.below hS hb⟩
/-- the same list is taken by both -/
def TakeBoth (S p q pm h k : Nat) (w3 : World) (N : Nat) (i m : Int) (a : Option Addr) (n c : Nat) (w : World) : Prop := ∃ (x er : Int) (X' : GrpX), X'.n = N ∧
    Hid (Calls Try.prog 19 #[ptr p, .int .i64 i, .int .i64 m, .slice a n c] w fun e w' => e = .returned (.tuple #[.int .i64 x, .int .i64 er]) ∧
      Hid (Calls Try.prog 20 #[ptr pm, .int .i64 i, .int .i64 m, .slice a n c] w' fun e w'' => e = .returned (.tuple #[.int .i64 x, .int .i64 er]) ∧ Both S p q pm h k w3 X' X' w''))
theorem take_both {O : Nat → Prop} {A : Nat → Option Addr} {C : Nat → Nat} (h1 : Grp w O p q X) (h2 : ∀ z, O z → S ≤ z) (h3 : Below S w3 w) (h4 : RefA w O S pm h k X A C) (hS : S ≤ w3.heap.size) (i m : Int) {a : Option Addr} {l : List ByteArray} {n c : Nat}
    (hl : ∀ w', Kept (fun z => ¬ O z) w w' → SlS w' a l) (hln : l.length = n) (hc : n ≤ c) : TakeBoth S p q pm h k w3 X.n i m a n c w := by
  have hn := h1.ok.n4
  by_cases hi : i < 1 ∨ (X.n : Int) < i
  · refine ⟨0, 4, X, rfl, (take_none h1 hi).mono ?_⟩
    rintro e w' ⟨rfl, rfl⟩
    refine ⟨rfl, (h4.take_none hn hi).mono ?_⟩
    rintro e w'' ⟨rfl, rfl⟩
    exact ⟨rfl, O, A, C, h1, h2, h3, h4⟩
  · obtain ⟨j, hj⟩ : ∃ j : Nat, i = ((j + 1 : Nat) : Int) := ⟨i.toNat - 1, by omega⟩
    have hjn : j < X.n := by omega
    have h60 := h1.ok.few (j + 1) hjn
    obtain ⟨er, he⟩ : ∃ er, takeE (X.L (j + 1)) l m = er := ⟨_, rfl⟩
    by_cases h0 : er = 0
    · subst h0
      obtain ⟨F, rfl, _⟩ := takeE_zero he
      refine ⟨((takeL (X.L (j + 1)) l F).length : Int), 0, X.setL (j + 1) (takeL (X.L (j + 1)) l F), rfl, (take_yes h1 hj hjn (hl w (Kept.refl _ _)) hln hc he).mono ?_⟩
      rintro e w' ⟨rfl, hg⟩
      have hl' : SlS w' a l := by
        obtain ⟨_, _, _, g3⟩ := hg
        exact hl w' g3
      obtain ⟨O', A', C', g1, g2, g3, g4⟩ := Both.step h1 h2 h3 h4 hS hg
      refine ⟨rfl, (g4.take_any hn h60 hj hjn hl' hln hc he g1.lt).mono ?_⟩
      rintro e w'' (⟨k1, _⟩ | ⟨_, k2, k3⟩)
      · exact absurd rfl k1
      · rw [Int.toNat_natCast] at k2 k3
        exact ⟨k2, Both.ref g1 g2 g3 g4 hS k3⟩
    · refine ⟨0, er, X, rfl, (take_no h1 hj hjn (hl w (Kept.refl _ _)) hln hc he h0).mono ?_⟩
      rintro e w' ⟨rfl, hb⟩
      have hb' : Both S p q pm h k w3 X X w' := Both.below ⟨O, A, C, h1, h2, h3, h4⟩ hS hb
      refine ⟨rfl, ((h4.below hb).take_any hn h60 hj hjn (hl w' (Kept.of hb)) hln hc he (h1.below hb).lt).mono ?_⟩
      rintro e w'' (⟨_, k2, k3⟩ | ⟨k1, _⟩)
      · exact ⟨k2, hb'.below hS k3⟩
      · exact absurd k1 h0
theorem Both.takingOld (b : Both S p q pm h k w3 X X w) (hS : S ≤ w3.heap.size) (i m : Int) {a : Option Addr} {l : List ByteArray} {n c : Nat} (hl : ∀ V, Below S w3 V → SlS V a l) (hln : l.length = n) (hc : n ≤ c) : TakeBoth S p q pm h k w3 X.n i m a n c w := by
  obtain ⟨O, A, C, h1, h2, h3, h4⟩ := b
  have hw := Nat.le_trans hS h3.size
  exact take_both h1 h2 h3 h4 hS i m (fun w' kp => hl w' (h3.trans (kp.to (fun z hz k => by have := h2 z k; omega) hw))) hln hc
/-- what the answer sends, and what is wrong with sending it; that is taken -/
theorem Both.refSending (b : Both S p q pm h k w3 X X w) (hS : S ≤ w3.heap.size) (i m : Int) : ∃ (n : Nat) (er : Int),
    Hid (Calls Try.prog 17 #[ptr pm, .int .i64 i, .int .i64 m] w fun e w'' => ∃ a2 c2, e = .returned (.tuple #[.slice a2 n c2, .int .i64 er]) ∧ TakeBoth S p q pm h k w3 X.n i m a2 n c2 w ∧ w'' = w) := by
  obtain ⟨O, A, C, h1, h2, h3, h4⟩ := b
  have hn := h1.ok.n4
  by_cases hi : i < 1 ∨ (X.n : Int) < i
  · refine ⟨0, 4, (h4.send_none hn hi).mono ?_⟩
    rintro e w'' ⟨rfl, rfl⟩
    exact ⟨none, 0, rfl, take_both h1 h2 h3 h4 hS i m (fun _ _ => SlS.nil _ _) rfl (Nat.le_refl _), rfl⟩
  · obtain ⟨j, hj⟩ : ∃ j : Nat, i = ((j + 1 : Nat) : Int) := ⟨i.toNat - 1, by omega⟩
    have hjn : j < X.n := by omega
    by_cases hm : m < 0 ∨ ((X.L 0).length : Int) < m
    · refine ⟨0, 1, (h4.send_arg hn hj hjn hm).mono ?_⟩
      rintro e w'' ⟨rfl, rfl⟩
      exact ⟨none, 0, rfl, take_both h1 h2 h3 h4 hS i m (fun _ _ => SlS.nil _ _) rfl (Nat.le_refl _), rfl⟩
    · obtain ⟨f, rfl⟩ : ∃ f : Nat, m = f := ⟨m.toNat, by omega⟩
      refine ⟨((X.L 0).drop f).length, 0, (h4.send_yes hn hj hjn (f := f) (by omega) rfl).mono ?_⟩
      rintro e w'' ⟨a2, c2, rfl, k1, k2, k3, rfl⟩
      exact ⟨a2, c2, rfl, take_both h1 h2 h3 h4 hS i f (fun w' kp => k1.kept kp (fun b off e _ => k3 _ e)) rfl k2, rfl⟩
theorem Both.sure (b : Both S p q pm h k w3 X X w) (hS : S ≤ w3.heap.size) : ∃ s : Nat,
    Hid (Calls Try.prog 24 #[ptr p] w fun e w' => e = .returned (.int .i64 (s : Int)) ∧
      Hid (Calls Try.prog 25 #[ptr pm] w' fun e w'' => e = .returned (.int .i64 (s : Int)) ∧ Both S p q pm h k w3 X X w'')) := by
  have b0 := b
  obtain ⟨O, A, C, h1, h2, h3, h4⟩ := b
  obtain ⟨s, hs⟩ := sure_ex (tolds_ne X)
  have h60 : s ≤ 1000 := by
    refine Nat.le_of_not_lt fun hlt => ?_
    have hmost := haveN_most h1.ok hs
    have hz : haveN X s (X.n + 1) = 0 := by
      unfold haveN
      refine List.countP_eq_zero.2 fun j hj => ?_
      have hj' := List.mem_range.1 hj
      have := h1.ok.few j (by omega)
      simp; omega
    omega
  refine ⟨s, (sure_is h1 hs).mono ?_⟩
  rintro e w' ⟨rfl, hb⟩
  refine ⟨rfl, ((h4.below hb).sure_is h1.ok.n4 hs h60).mono ?_⟩
  rintro e w'' ⟨rfl, hb2⟩
  exact ⟨rfl, (b0.below hS hb).below hS hb2⟩
theorem Both.logging (b : Both S p q pm h k w3 X X w) (hS : S ≤ w3.heap.size) {j n : Nat} (hj : j ≤ X.n) (hn : (X.L j).length = n) :
    Calls Try.prog 26 #[ptr p, .int .i64 (j : Int)] w fun e w' => ∃ a c, e = .returned (.tuple #[.slice a n c, .int .i64 0]) ∧ SlS w' a (X.L j) ∧ Both S p q pm h k w3 X X w' := by
  have b0 := b
  obtain ⟨O, A, C, h1, h2, h3, h4⟩ := b
  subst hn
  cases j with
  | zero =>
    refine (log_zero h1).mono ?_
    rintro e w' ⟨a, c, rfl, ho, hb⟩
    exact ⟨a, c, rfl, (OwnS.sl ho).1, b0.below hS hb⟩
  | succ j =>
    refine (log_yes h1 (j := j) rfl hj).mono ?_
    rintro e w' ⟨a, c, rfl, ho, hb⟩
    exact ⟨a, c, rfl, (OwnS.sl ho).1, b0.below hS hb⟩
theorem Both.loggingNo (b : Both S p q pm h k w3 X X w) {i : Int} (hi : (X.n : Int) < i) :
    Calls Try.prog 26 #[ptr p, .int .i64 i] w (NoneTo 4 w) := by
  obtain ⟨O, A, C, h1, h2, h3, h4⟩ := b
  exact log_none h1 (.inr hi)
theorem Both.peek (b : Both S p q pm h k w3 X X w) {j n m : Nat} (hj : j ≤ X.n) (hn : (X.L j).length = n) (hm : X.n + 1 = m) : ∃ a c, w.cell? ⟨pm, 0, none⟩ = some (.slice (some ⟨h, 0, none⟩) m m) ∧ w.cell? ⟨h, j, none⟩ = some (.slice a n c) ∧ SlS w a (X.L j) ∧ n ≤ 60 := by
  obtain ⟨O, A, C, h1, h2, h3, h4⟩ := b
  subst hn hm
  exact ⟨A j, C j, h4.c0, h4.cl j hj, (h4.sl j hj).1, h1.ok.few j hj⟩
end
end Go.Proofs.Ytkgbaaaklijopaa
