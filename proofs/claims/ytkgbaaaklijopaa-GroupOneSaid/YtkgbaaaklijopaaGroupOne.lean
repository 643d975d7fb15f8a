/- GroupOne: of one node alone all is sure at once; of two nothing that the other one did not tell: the walk. -/
import Derived.Test.YtkgbaaaklijopaaGLoop
set_option linter.unusedVariables false
set_option linter.unusedSimpArgs false
set_option maxRecDepth 100000
namespace Go.Proofs.Ytkgbaaaklijopaa
open Go.RowKit Go.Sort

/-- two groups, none of whose blocks is the other's -/
def Two (S p1 q1 p2 q2 : Nat) (w3 : World) (X1 X2 : GrpX) (w : World) : Prop :=
  ∃ O1 O2, Grp w O1 p1 q1 X1 ∧ Grp w O2 p2 q2 X2 ∧ (∀ z, O1 z → ¬ O2 z) ∧ (∀ z, O1 z → S ≤ z) ∧ (∀ z, O2 z → S ≤ z) ∧ Below S w3 w
theorem Two.swap {S p1 q1 p2 q2 : Nat} {w3 w : World} {X1 X2 : GrpX} (h : Two S p1 q1 p2 q2 w3 X1 X2 w) : Two S p2 q2 p1 q1 w3 X2 X1 w := by
  obtain ⟨O1, O2, h1, h2, h3, h4, h5, h6⟩ := h
  exact ⟨O2, O1, h2, h1, fun z k1 k2 => h3 z k2 k1, h5, h4, h6⟩
theorem Two.adding {S p1 q1 p2 q2 n k : Nat} {w3 w : World} {X2 : GrpX} {l : List ByteArray} {s : ByteArray} (h : Two S p1 q1 p2 q2 w3 (grpK n l k) X2 w) (hS : S ≤ w3.heap.size) (hs : l[k]? = some s) (h60 : l.length ≤ 60) :
    Calls Try.prog 14 #[ptr p1, .string s] w fun e w' => e = .returned (.tuple #[.int .i64 ((k + 1 : Nat) : Int), .int .i64 0]) ∧ Two S p1 q1 p2 q2 w3 (grpK n l (k + 1)) X2 w' := by
  obtain ⟨O1, O2, h1, h2, h3, h4, h5, h6⟩ := h
  have hk := (List.getElem?_eq_some_iff.1 hs).1
  have e : ((grpK n l k).L 0).length = k := by rw [grpK_L0, List.length_take]; omega
  refine (add_yes h1 (by rw [e]; omega)).mono ?_
  rintro e' w' ⟨rfl, O', g1, g2, g3⟩
  rw [grpK_succ n hs] at g1
  rw [e]
  have hw := Nat.le_trans hS h6.size
  refine ⟨rfl, O', O2, g1, h2.keep (g3.sub fun z _ hz k => h3 z k hz), fun z hz k => ?_, fun z hz => ?_, h5, h6.trans (g3.to (fun z hz k => ?_) hw)⟩
  · rcases g2 z hz with k1 | k1
    · exact h3 z k1 k
    · have := h2.lt z k
      omega
  · rcases g2 z hz with k | k
    · exact h4 z k
    · omega
  · have := h4 z k
    omega
theorem Two.sure {S p1 q1 p2 q2 s : Nat} {w3 w : World} {X1 X2 : GrpX} (h : Two S p1 q1 p2 q2 w3 X1 X2 w) (hS : S ≤ w3.heap.size) (hs : IsSure X1.tolds s) :
    Calls Try.prog 24 #[ptr p1] w fun e w' => e = .returned (.int .i64 (s : Nat)) ∧ Two S p1 q1 p2 q2 w3 X1 X2 w' ∧ Below w.heap.size w w' := by
  obtain ⟨O1, O2, h1, h2, h3, h4, h5, h6⟩ := h
  refine (sure_is h1 hs).mono ?_
  rintro e w' ⟨rfl, hb⟩
  exact ⟨rfl, ⟨O1, O2, h1.below hb, h2.below hb, h3, h4, h5, h6.trans (hb.mono (Nat.le_trans hS h6.size))⟩, hb⟩
theorem Two.start {S p1 q1 n m : Nat} {w3 w : World} {X1 : GrpX} (h : LpG S p1 q1 w3 X1 w) (hS : S ≤ w3.heap.size) (hm : m = n + 1) (hn : n ≤ 4) (l : List ByteArray) :
    Calls Try.prog 10 #[.int .i64 (m : Int)] w fun e w' => ∃ p q, e = .returned (.tuple #[ptr p, .int .i64 0]) ∧ Two S p1 q1 p q w3 X1 (grpK n l 0) w' := by
  obtain ⟨O, h1, h2, h3⟩ := h
  refine (new_yes n w hm hn).mono ?_
  rintro e w' ⟨p, q, O', rfl, g1, g2, g3⟩
  have hw := Nat.le_trans hS h3.size
  rw [grpK_zero n l] at g1
  exact ⟨p, q, rfl, O, O', h1.below g3, g1, fun z k1 k2 => by have := h1.lt z k1; have := g2 z k2; omega, h2, fun z hz => Nat.le_trans hw (g2 z hz), h3.trans (g3.mono hw)⟩

set_option maxHeartbeats 4000000 in
theorem groupOne_walk (a : Option Addr) (c : Nat) (l : List ByteArray) (w : World) (hs : SlS w a l) (hl : l.length ≤ c) (hm : c ≤ maxLen) :
    Calls Try.prog 9 #[.slice a l.length c] w fun e w' => e = .returned (.bool true) ∧ Below w.heap.size w w' := by
  obtain ⟨n, hn⟩ : ∃ n, l.length = n := ⟨_, rfl⟩
  obtain ⟨N, hN⟩ : ∃ N, min n 60 = N := ⟨_, rfl⟩
  have e1 : min (n : Int) 60 = (N : Int) := by omega
  rw [hn] at hl ⊢
  obtain ⟨a', hrun, hsl, _⟩ := sl_to (a := a) (n := n) (c := c) (m := N) .i64 (by omega) hl
  have hsl := hsl w l hs
  obtain ⟨l', hl'⟩ : ∃ l', l.take N = l' := ⟨_, rfl⟩
  rw [hl'] at hsl
  have hlN : l'.length = N := by rw [← hl', List.length_take]; omega
  have HS := Lib.hid hsl
  have HLN := Lib.hid hlN
  have HN60 := Lib.hid (show N ≤ 60 by omega)
  rw [← e1] at hrun
  have E1 := Lib.hid e1
  clear hs hl hm hn hN hl' hlN hsl e1
  go_enter Try.func9, Try.ntmps9
  go_wp2_with fail
  refine (begun_is _).mono ?_
  rintro e w1 ⟨rfl, hb1⟩
  have HB1 := Lib.hid hb1
  clear hb1
  go_wp2_with fail
  refine (LpG.start (m := 1) (n := 0) rfl (by omega) (Nat.le_refl _) HB1.out l').mono ?_
  rintro e w2 ⟨p1, q1, rfl, h2⟩
  have H2 := Lib.hid h2
  clear h2
  go_wp2_with fail
  refine (Two.start (m := 2) (n := 1) H2.out (Nat.le_refl _) rfl (by omega) l').mono ?_
  rintro e w3 ⟨p2, q2, rfl, h3⟩
  have H3 := Lib.hid h3
  clear h3 H2 HB1
  go_wp2_with fail
  go_loopw [35] (fun i wr => ∃ k : Nat, k ≤ N ∧ i = .int .i64 (k : Int) ∧ Hid (Two w.heap.size p1 q1 p2 q2 w (grpK 0 l' k) (grpK 1 l' k) wr)) (fun i _ => N - (intOf i).toNat)
  case atStart => exact ⟨0, Nat.zero_le _, rfl, H3.out⟩
  case round =>
    obtain ⟨k, hk, rfl, HT⟩ := hrel
    have i3 : (N : Int) ≤ 60 := by have := HN60.out; omega
    have hB : Below w.heap.size w wr := by
      obtain ⟨O1, O2, _, _, _, _, _, h⟩ := HT.out
      exact h
    by_cases hlt : k < N
    · have i1 : (0 : Int) ≤ (k : Int) := by omega
      have i2 : (k : Int) < (N : Int) := by omega
      obtain ⟨s, hs⟩ : ∃ s, l'[k]? = some s := ⟨_, List.getElem?_eq_getElem (by rw [HLN.out]; exact hlt)⟩
      obtain ⟨b, off, rfl, hc⟩ := (HS.out.below hB) k s hs
      have HX := Lib.hid hs
      clear hs hB hk
      go_wp2_with fail
      refine (Two.adding HT.out (Nat.le_refl _) HX.out (by rw [HLN.out]; exact HN60.out)).mono ?_
      rintro e w5 ⟨rfl, h5⟩
      have H5 := Lib.hid h5.swap
      clear h5 HT hc
      go_wp2_with fail
      refine (Two.adding H5.out (Nat.le_refl _) HX.out (by rw [HLN.out]; exact HN60.out)).mono ?_
      rintro e w6 ⟨rfl, h6⟩
      have H6 := Lib.hid h6.swap
      clear h6 H5
      have ht : ((grpK 0 l' (k + 1)).L 0).length = k + 1 := by rw [grpK_L0, List.length_take, HLN.out]; omega
      have h0 := sure_0 (X := grpK 0 l' (k + 1)) rfl
      rw [ht] at h0
      have HS0 := Lib.hid h0
      have HS1 := Lib.hid (sure_1 (X := grpK 1 l' (k + 1)) rfl rfl)
      clear ht h0
      go_wp2_with fail
      refine (Two.sure H6.out (Nat.le_refl _) HS0.out).mono ?_
      rintro e w7 ⟨rfl, h7, hb7⟩
      have H7 := Lib.hid h7.swap
      clear h7 H6 hb7
      go_wp2_with fail
      refine (Two.sure H7.out (Nat.le_refl _) HS1.out).mono ?_
      rintro e w8 ⟨rfl, h8, hb8⟩
      have H8 := Lib.hid h8.swap
      clear h8 H7 hb8
      go_wp2_with fail
      go_roundw
      case rel => exact ⟨k + 1, by omega, by go_num, H8.out⟩
      case measure => simp [intOf]; omega
    · obtain rfl : k = N := by omega
      have HB := Lib.hid hB
      clear hB
      go_wp2_with fail
      go_ret
      exact ⟨rfl, HB.out⟩
end Go.Proofs.Ytkgbaaaklijopaa
