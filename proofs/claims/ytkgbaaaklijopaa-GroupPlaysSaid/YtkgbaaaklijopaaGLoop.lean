/- A group to which all entries of a list are added; what is sent; lists beside a group. -/
import Derived.Test.YtkgbaaaklijopaaGOne
import Derived.Test.YtkgbaaaklijopaaGTake2
set_option linter.unusedVariables false
set_option linter.unusedSimpArgs false
set_option maxRecDepth 100000
namespace Go.Proofs.Ytkgbaaaklijopaa
open Go.RowKit Go.Sort

theorem GrpX.setL_setL (X : GrpX) (j : Nat) (a b : List ByteArray) : (X.setL j a).setL j b = X.setL j b := by
  unfold GrpX.setL
  simp only [GrpX.mk.injEq, true_and, and_true]
  funext k
  by_cases e : k = j <;> simp [e]
/-- a new group whose leader has the first k entries of l -/
def grpK (n : Nat) (l : List ByteArray) (k : Nat) : GrpX := (GrpX.new n).setL 0 (l.take k)
theorem grpK_zero (n : Nat) (l : List ByteArray) : GrpX.new n = grpK n l 0 := by
  unfold grpK GrpX.setL GrpX.new
  simp
theorem grpK_n (n : Nat) (l : List ByteArray) (k : Nat) : (grpK n l k).n = n := rfl
theorem grpK_L0 (n : Nat) (l : List ByteArray) (k : Nat) : (grpK n l k).L 0 = l.take k := rfl
theorem grpK_succ (n : Nat) {l : List ByteArray} {k : Nat} {s : ByteArray} (h : l[k]? = some s) : (grpK n l k).setL 0 ((grpK n l k).L 0 ++ [s]) = grpK n l (k + 1) := by
  rw [grpK_L0]
  unfold grpK
  rw [GrpX.setL_setL, List.take_add_one, h]
  rfl

theorem LpG.adding {S p q n k : Nat} {w3 w : World} {l : List ByteArray} {s : ByteArray} (h : LpG S p q w3 (grpK n l k) w) (hS : S ≤ w3.heap.size) (hs : l[k]? = some s) (h60 : l.length ≤ 60) :
    Calls Try.prog 14 #[ptr p, .string s] w fun e w' => e = .returned (.tuple #[.int .i64 ((k + 1 : Nat) : Int), .int .i64 0]) ∧ LpG S p q w3 (grpK n l (k + 1)) w' := by
  obtain ⟨O, h1, h2, h3⟩ := h
  have hk := (List.getElem?_eq_some_iff.1 hs).1
  have e : ((grpK n l k).L 0).length = k := by rw [grpK_L0, List.length_take]; omega
  refine (add_yes h1 (by rw [e]; omega)).mono ?_
  rintro e' w' ⟨rfl, hg⟩
  rw [grpK_succ n hs] at hg
  rw [e]
  exact ⟨rfl, LpG.step h1 h2 h3 hS hg⟩

/-- .. and the list of strings at A, that lies beside it -/
def LpS (S p q : Nat) (w3 : World) (X : GrpX) (A : Option Addr) (l : List ByteArray) (w : World) : Prop := ∃ O, Grp w O p q X ∧ (∀ z, O z → S ≤ z) ∧ Below S w3 w ∧ SlS w A l ∧ ∀ d, A = some d → ¬ O d.block ∧ d.block < w.heap.size
theorem LpS.grp {S p q : Nat} {w3 w : World} {X : GrpX} {A : Option Addr} {l : List ByteArray} (h : LpS S p q w3 X A l w) : LpG S p q w3 X w := by
  obtain ⟨O, h1, h2, h3, _⟩ := h
  exact ⟨O, h1, h2, h3⟩
theorem LpS.sl {S p q : Nat} {w3 w : World} {X : GrpX} {A : Option Addr} {l : List ByteArray} (h : LpS S p q w3 X A l w) : SlS w A l := by
  obtain ⟨O, h1, h2, h3, h4, _⟩ := h
  exact h4
theorem LpS.below {S p q : Nat} {w3 w w' : World} {X : GrpX} {A : Option Addr} {l : List ByteArray} (h : LpS S p q w3 X A l w) (hS : S ≤ w3.heap.size) (hb : Below w.heap.size w w') : LpS S p q w3 X A l w' := by
  obtain ⟨O, h1, h2, h3, h4, h5⟩ := h
  exact ⟨O, h1.below hb, h2, h3.trans (hb.mono (Nat.le_trans hS h3.size)), h4.below hb, fun d e => ⟨(h5 d e).1, Nat.lt_of_lt_of_le (h5 d e).2 hb.size⟩⟩
theorem LpS.step {S p q : Nat} {w3 w w' : World} {X X' : GrpX} {O : Nat → Prop} {A : Option Addr} {l : List ByteArray} (h1 : Grp w O p q X) (h2 : ∀ z, O z → S ≤ z) (h3 : Below S w3 w) (h4 : SlS w A l) (h5 : ∀ d, A = some d → ¬ O d.block ∧ d.block < w.heap.size) (hS : S ≤ w3.heap.size) (hg : GTo O p q X' w w') : LpS S p q w3 X' A l w' := by
  obtain ⟨O', g1, g2, g3⟩ := hg
  have hw := Nat.le_trans hS h3.size
  refine ⟨O', g1, fun z hz => ?_, h3.trans (g3.to (fun z hz k => ?_) hw), h4.kept g3 (fun b off e _ => (h5 _ e).1), fun d e => ⟨fun k => ?_, Nat.lt_of_lt_of_le (h5 d e).2 g3.size⟩⟩
  · rcases g2 z hz with k | k
    · exact h2 z k
    · omega
  · have := h2 z k
    omega
  · rcases g2 _ k with k | k
    · exact (h5 d e).1 k
    · have := (h5 d e).2
      omega
/-- what Send of all leaves -/
def SentTo (S p q : Nat) (w3 : World) (X : GrpX) (l : List ByteArray) (n : Nat) (e : Ending) (w' : World) : Prop := ∃ A c, e = .returned (.tuple #[.slice A n c, .int .i64 0]) ∧ n ≤ c ∧ c ≤ maxLen ∧ LpS S p q w3 X A l w'
theorem LpG.sending {S p q n : Nat} {w3 w : World} {X : GrpX} {i : Int} {j : Nat} {l : List ByteArray} (h : LpG S p q w3 X w) (hS : S ≤ w3.heap.size) (hi : i = ((j + 1 : Nat) : Int)) (hj : j < X.n) (hl : X.L 0 = l) (hn : l.length = n) :
    Calls Try.prog 16 #[ptr p, .int .i64 i, .int .i64 0] w (SentTo S p q w3 X l n) := by
  obtain ⟨O, h1, h2, h3⟩ := h
  have hs := send_yes (m := 0) h1 hi hj (Nat.zero_le _)
  refine hs.mono ?_
  rintro e w' ⟨A, c, rfl, ho, hb⟩
  rw [List.drop_zero, hl] at ho
  rw [List.drop_zero, hl, hn]
  obtain ⟨k1, k2, k3⟩ := OwnS.sl ho
  rw [hn] at k2 ho
  refine ⟨A, c, rfl, k2, k3, O, h1.below hb, h2, h3.trans (hb.mono (Nat.le_trans hS h3.size)), k1, fun d e => ?_⟩
  have := World.ownsRow.lt ho d.block (by rw [e]; rfl)
  exact ⟨fun k => by have := h1.lt _ k; omega, this.2⟩
theorem LpS.taking {S p q m c : Nat} {w3 w : World} {X X' : GrpX} {i : Int} {j K : Nat} {A : Option Addr} {l L' : List ByteArray} (h : LpS S p q w3 X A l w) (hS : S ≤ w3.heap.size) (hi : i = ((j + 1 : Nat) : Int)) (hj : j < X.n) (hm : l.length = m) (hmc : m ≤ c) (he : takeE (X.L (j + 1)) l 0 = 0)
    (hL : takeL (X.L (j + 1)) l 0 = L') (hK : L'.length = K) (hX : X.setL (j + 1) L' = X') :
    Calls Try.prog 19 #[ptr p, .int .i64 i, .int .i64 0, .slice A m c] w fun e w' => e = .returned (.tuple #[.int .i64 (K : Int), .int .i64 0]) ∧ LpS S p q w3 X' A l w' := by
  obtain ⟨O, h1, h2, h3, h4, h5⟩ := h
  refine (take_yes (F := 0) h1 hi hj h4 hm hmc he).mono ?_
  rintro e w' ⟨rfl, hg⟩
  rw [hL, hK]
  rw [hL, hX] at hg
  exact ⟨rfl, LpS.step h1 h2 h3 h4 h5 hS hg⟩
theorem LpG.telling {S p q : Nat} {w3 w : World} {X X' : GrpX} {i : Int} {j m : Nat} (h : LpG S p q w3 X w) (hS : S ≤ w3.heap.size) (hi : i = ((j + 1 : Nat) : Int)) (hj : j < X.n) (hm : m ≤ (X.L (j + 1)).length) (hm0 : m ≤ (X.L 0).length) (hX : X.setT (j + 1) (max (X.told (j + 1)) m) = X') :
    Calls Try.prog 11 #[ptr p, .int .i64 i, .int .i64 (m : Int)] w fun e w' => e = .returned (.int .i64 0) ∧ LpG S p q w3 X' w' := by
  obtain ⟨O, h1, h2, h3⟩ := h
  refine (ack_yes h1 hi hj hm hm0).mono ?_
  rintro e w' ⟨rfl, hg⟩
  rw [hX] at hg
  exact ⟨rfl, LpG.step h1 h2 h3 hS hg⟩
theorem LpG.sure {S p q s : Nat} {w3 w : World} {X : GrpX} (h : LpG S p q w3 X w) (hS : S ≤ w3.heap.size) (hs : IsSure X.tolds s) :
    Calls Try.prog 24 #[ptr p] w fun e w' => e = .returned (.int .i64 (s : Nat)) ∧ LpG S p q w3 X w' ∧ Below w.heap.size w w' := by
  have h' := h
  obtain ⟨O, h1, h2, h3⟩ := h
  refine (sure_is h1 hs).mono ?_
  rintro e w' ⟨rfl, hb⟩
  exact ⟨rfl, h'.below hS hb, hb⟩
/-- a new group, the world in which New is called being one that left S as it was -/
theorem LpG.start {S n m : Nat} {w3 w : World} (hm : m = n + 1) (hn : n ≤ 4) (hS : S ≤ w3.heap.size) (hb : Below S w3 w) (l : List ByteArray) :
    Calls Try.prog 10 #[.int .i64 (m : Int)] w fun e w' => ∃ p q, e = .returned (.tuple #[ptr p, .int .i64 0]) ∧ LpG S p q w3 (grpK n l 0) w' := by
  refine (new_yes n w hm hn).mono ?_
  rintro e w' ⟨p, q, O, rfl, h1, h2, h3⟩
  have hw := Nat.le_trans hS hb.size
  rw [grpK_zero n l] at h1
  exact ⟨p, q, rfl, O, h1, fun z hz => Nat.le_trans hw (h2 z hz), hb.trans (h3.mono hw)⟩
theorem sure_all {X : GrpX} {s : Nat} (h : ∀ x ∈ X.tolds, x = s) : IsSure X.tolds s := by
  have h1 : X.tolds.countP (fun x => decide (s ≤ x)) = X.tolds.length := List.countP_eq_length.2 fun x hx => by simp [h x hx]
  have h2 : X.tolds.countP (fun x => decide (s < x)) = 0 := List.countP_eq_zero.2 fun x hx => by simp [h x hx]
  have := X.tolds_len
  unfold IsSure
  omega
end Go.Proofs.Ytkgbaaaklijopaa
