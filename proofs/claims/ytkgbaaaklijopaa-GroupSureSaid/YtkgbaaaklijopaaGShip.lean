/- The contract of wykeep.shipped: what becomes of a group to which entries come late and twice, or are lost. -/
import Derived.Test.YtkgbaaaklijopaaGShipM
import Derived.Test.YtkgbaaaklijopaaGGrid
import Derived.Test.YtkgbaaaklijopaaGroupGaps
set_option linter.unusedVariables false
set_option linter.unusedSimpArgs false
set_option maxRecDepth 100000
namespace Go.Proofs.Ytkgbaaaklijopaa
open Go.RowKit Go.Sort

theorem log_len {w : World} {O : Nat → Prop} {p q i : Nat} {X : GrpX} (h : Grp w O p q X) (hi : i ≤ X.n) :
    Calls Try.prog 26 #[ptr p, .int .i64 (i : Int)] w fun e w' => ∃ A c, e = .returned (.tuple #[.slice A (X.L i).length c, .int .i64 0]) ∧ Below w.heap.size w w' := by
  cases i with
  | zero =>
    refine (log_zero h).mono ?_
    rintro e w' ⟨A, c, rfl, _, hb⟩
    exact ⟨A, c, rfl, hb⟩
  | succ j =>
    refine (log_yes h (j := j) rfl hi).mono ?_
    rintro e w' ⟨A, c, rfl, _, hb⟩
    exact ⟨A, c, rfl, hb⟩
/-- all that is known in a round -/
structure ShipR (p q : Nat) (w3 : World) (X X' : GrpX) (va : Option Addr) (vc : Nat) (log : List ByteArray) (ya : Option Addr) (yc : Nat) (way : List SentL) (k : Nat) (w : World) : Prop where
  sh : ∃ O, Ship w3.heap.size p q w3 X' va vc log ya yc way w O
  more : More X X' log
  beg : Begins X'
  of_ : ∀ s ∈ way, s.Of X.n (X'.L 0)
  lk : log.length ≤ k
  wk : way.length ≤ k
section
variable {p q : Nat} {w3 : World} {X X' : GrpX} {va : Option Addr} {vc : Nat} {log : List ByteArray} {ya : Option Addr} {yc : Nat} {way : List SentL} {k : Nat} {w w' : World}
theorem ShipR.next (h : ShipR p q w3 X X' va vc log ya yc way k w) : ShipR p q w3 X X' va vc log ya yc way (k + 1) w := ⟨h.sh, h.more, h.beg, h.of_, Nat.le_succ_of_le h.lk, Nat.le_succ_of_le h.wk⟩
theorem ShipR.below (h : ShipR p q w3 X X' va vc log ya yc way k w) (hb : Below w.heap.size w w') : ShipR p q w3 X X' va vc log ya yc way k w' := by
  obtain ⟨O, hs⟩ := h.sh
  exact ⟨⟨O, hs.below (Nat.le_refl _) hb⟩, h.more, h.beg, h.of_, h.lk, h.wk⟩
theorem ShipR.base (h : ShipR p q w3 X X' va vc log ya yc way k w) : Below w3.heap.size w3 w := by
  obtain ⟨O, hs⟩ := h.sh
  exact hs.base
theorem ShipR.ok (h : ShipR p q w3 X X' va vc log ya yc way k w) : X'.Ok := by
  obtain ⟨O, hs⟩ := h.sh
  exact hs.g.ok
/-- node j + 1 has m of the leader's -/
theorem ShipR.cut {m j : Nat} {O : Nat → Prop} (h : ShipR p q w3 X X' va vc log ya yc way k w) (hs : Ship w3.heap.size p q w3 X' va vc log ya yc way w O) (hm : m ≤ (X'.L 0).length) (hg : GTo O p q (X'.setL (j + 1) ((X'.L 0).take m)) w w') : ShipR p q w3 X (X'.setL (j + 1) ((X'.L 0).take m)) va vc log ya yc way k w' :=
  ⟨hs.step (Nat.le_refl _) hg, h.more.set j _, h.beg.cut hm, fun s hs => by
    have := h.of_ s hs
    simp only [GrpX.setL]
    rw [if_neg (by omega)]
    exact this, h.lk, h.wk⟩
/-- what was sent comes -/
theorem ShipR.taking {n : Nat} {s : SentL} (h : ShipR p q w3 X X' va vc log ya yc way k w) (hs : s ∈ way) (hn : s.l.length = n) : ∃ (N er : Int) (X'' : GrpX),
    Calls Try.prog 19 #[ptr p, .int .i64 (s.i : Int), .int .i64 (s.f : Int), .slice s.a n s.c] w fun e w' => e = .returned (.tuple #[.int .i64 N, .int .i64 er]) ∧ ShipR p q w3 X X'' va vc log ya yc way k w' := by
  obtain ⟨O, hsh⟩ := h.sh
  obtain ⟨h1, h2, h3, h4⟩ := h.of_ s hs
  obtain ⟨k1, k2, k3⟩ := hsh.wl s hs
  obtain ⟨j, hj⟩ : ∃ j, s.i = j + 1 := ⟨s.i - 1, by omega⟩
  have hjn : j < X'.n := by rw [h.more.n]; omega
  have hle := h.beg.le (j := j + 1) hjn
  have h60 := h.ok.few 0 (Nat.zero_le _)
  by_cases hf : s.f ≤ (X'.L (j + 1)).length
  · obtain ⟨e1, e2⟩ := take_sent (h.beg (j + 1) hjn) rfl h3 h4 hf h60
    refine ⟨((takeL (X'.L (j + 1)) s.l s.f).length : Int), 0, X'.setL (j + 1) ((X'.L 0).take (max (X'.L (j + 1)).length (s.f + s.l.length))), (take_yes (F := s.f) (i := (s.i : Int)) hsh.g (by omega) hjn k1 hn (by omega) e1).mono ?_⟩
    rintro e w' ⟨rfl, hg⟩
    rw [e2] at hg
    exact ⟨rfl, h.cut hsh (by omega) hg⟩
  · have e1 : takeE (X'.L (j + 1)) s.l (s.f : Int) = 9 := takeE_gap (by omega) (by omega)
    refine ⟨0, 9, X', (take_no (i := (s.i : Int)) hsh.g (by omega) hjn k1 hn (by omega) e1 (by decide)).mono ?_⟩
    rintro e w' ⟨rfl, hb⟩
    exact ⟨rfl, h.below hb⟩
/-- a follower loses, or not -/
theorem ShipR.losing {i m : Nat} (h : ShipR p q w3 X X' va vc log ya yc way k w) (hi : i ≤ X'.n) (hm : m ≤ (X'.L i).length) : ∃ er X'',
    Calls Try.prog 22 #[ptr p, .int .i64 (i : Int), .int .i64 (m : Int)] w fun e w' => e = .returned (.int .i64 er) ∧ ShipR p q w3 X X'' va vc log ya yc way k w' := by
  obtain ⟨O, hsh⟩ := h.sh
  cases i with
  | zero =>
    refine ⟨4, X', (lose_none hsh.g (.inl (by decide))).mono ?_⟩
    rintro e w' ⟨rfl, rfl⟩
    exact ⟨rfl, h⟩
  | succ j =>
    by_cases ht : X'.told (j + 1) ≤ m
    · have hle := h.beg.le (j := j + 1) hi
      have e1 : (X'.L (j + 1)).take m = (X'.L 0).take m := by
        have := h.beg (j + 1) hi
        rw [this, List.take_take, Nat.min_eq_left hm]
      refine ⟨0, X'.setL (j + 1) ((X'.L 0).take m), (lose_yes hsh.g rfl hi ht hm).mono ?_⟩
      rintro e w' ⟨rfl, hg⟩
      rw [e1] at hg
      exact ⟨rfl, h.cut hsh (by omega) hg⟩
    · refine ⟨1, X', (lose_arg hsh.g rfl hi (.inl (by omega))).mono ?_⟩
      rintro e w' ⟨rfl, rfl⟩
      exact ⟨rfl, h⟩
/-- a follower tells -/
theorem ShipR.telling {j m : Nat} {i : Int} (h : ShipR p q w3 X X' va vc log ya yc way k w) (hi : i = ((j + 1 : Nat) : Int)) (hj : j < X'.n) (hm : m ≤ (X'.L (j + 1)).length) : ∃ X'',
    Calls Try.prog 11 #[ptr p, .int .i64 i, .int .i64 (m : Int)] w fun e w' => e = .returned (.int .i64 0) ∧ ShipR p q w3 X X'' va vc log ya yc way k w' := by
  obtain ⟨O, hsh⟩ := h.sh
  refine ⟨X'.setT (j + 1) (max (X'.told (j + 1)) m), (ack_yes hsh.g hi hj hm (Nat.le_trans hm (h.beg.le hj))).mono ?_⟩
  rintro e w' ⟨rfl, hg⟩
  exact ⟨rfl, hsh.step (Nat.le_refl _) hg, h.more.tell _ _, h.beg, h.of_, h.lk, h.wk⟩
theorem cell_sent (w : World) (x : SentL) (t : TypeId) : ∀ j u, x.cells[j]? = some u → (w.alloc (.cells #[.int .i64 (x.i : Int), .int .i64 (x.f : Int), .slice x.a x.l.length x.c] t)).cell? ⟨w.heap.size, j, none⟩ = some u := fun j u hj => by
  match j, hj with
  | 0, hj => cases hj; simp [go_sem]
  | 1, hj => cases hj; simp [go_sem]
  | 2, hj => cases hj; simp [go_sem]
  | j + 3, hj => simp [SentL.cells] at hj
/-- the leader has one entry more, and the log will have it -/
theorem ShipR.adding {lg : Nat} {s : ByteArray} (h : ShipR p q w3 X X' va vc log ya yc way k w) (h60 : (X'.L 0).length < 60) (hlg : log.length = lg) :
    Calls Try.prog 14 #[ptr p, .string s] w fun e w' => ∃ N : Int, e = .returned (.tuple #[.int .i64 N, .int .i64 0]) ∧
      ∃ A' c' w'', (Builtin.append_ #[23, 23] 23 #[.slice va lg vc, .slice (some ⟨w'.heap.size, 0, none⟩) 1 1]).run Try.prog (w'.alloc (.cells #[.string s] 9)) = .ok (.slice A' (lg + 1) c') w'' ∧
        ShipR p q w3 X (X'.setL 0 (X'.L 0 ++ [s])) A' c' (log ++ [s]) ya yc way (k + 1) w'' := by
  obtain ⟨O, hsh⟩ := h.sh
  refine (add_yes hsh.g h60).mono ?_
  rintro e w' ⟨rfl, hg⟩
  obtain ⟨O', hs'⟩ := hsh.step (Nat.le_refl _) hg
  have hA : Below w'.heap.size w' (w'.alloc (.cells #[.string s] 9)) := (Below.refl _ _).alloc (Nat.le_refl _) _
  have ho := own_low (OwnS.below hs'.lo hA) (Nat.zero_le _)
  have hlk := h.lk
  have hl60 : log.length ≤ 60 := by
    have h1 := hs'.g.ok.few 0 (Nat.zero_le _)
    simp only [GrpX.setL, if_true] at h1
    have h2 := h.more.l0
    rw [h2] at h1
    simp at h1
    omega
  obtain ⟨A', c', w'', hrun, ho2, hk2, hat⟩ := run_appA (m := 1) (c := 1) (k := lg) (k0 := vc) (a0 := va) (fs := log) (q := [s]) 23 (by rw [hlg] at ho; unfold OwnS; rw [hlg]; exact ho) hlg (slS_lit1 w' s 9) rfl (by omega)
  refine ⟨_, rfl, A', c', w'', hrun, ⟨O', hs'.logs (Nat.le_refl _) hA (by rw [List.length_append, hlg]; rfl) ho2 hk2 (fun d e => ?_)⟩, h.more.add s, h.beg.add s, fun x hx => ?_, by rw [List.length_append]; simp; omega, Nat.le_succ_of_le h.wk⟩
  · rcases hat d e with k | k
    · exact .inl k
    · exact .inr k
  · simp only [GrpX.setL, if_true]
    exact (h.of_ x hx).more [s]
/-- entries are sent, and it will be known that they were -/
theorem ShipR.sending {i : Int} {j f wn : Nat} (h : ShipR p q w3 X X' va vc log ya yc way k w) (hi : i = ((j + 1 : Nat) : Int)) (hj : j < X'.n) (hf : f ≤ (X'.L 0).length) (hwn : way.length = wn) (hk : k ≤ 60) :
    Calls Try.prog 16 #[ptr p, .int .i64 i, .int .i64 (f : Int)] w fun e w' => ∃ A n c, e = .returned (.tuple #[.slice A n c, .int .i64 0]) ∧
      ∃ A' c' w'', (Builtin.append_ #[70, 70] 70 #[.slice ya wn yc, .slice (some ⟨w'.heap.size, 0, none⟩) 1 1]).run Try.prog (w'.alloc (.cells #[.int .i64 i, .int .i64 (f : Int), .slice A n c] 73)) = .ok (.slice A' (wn + 1) c') w'' ∧
        ∃ (N er : Int) (X'' : GrpX) (way' : List SentL), way'.length = wn + 1 ∧ Hid (Calls Try.prog 19 #[ptr p, .int .i64 i, .int .i64 (f : Int), .slice A n c] w'' fun e w' => e = .returned (.tuple #[.int .i64 N, .int .i64 er]) ∧ ShipR p q w3 X X'' va vc log A' c' way' (k + 1) w') := by
  obtain ⟨O, hsh⟩ := h.sh
  refine (send_yes hsh.g hi hj hf).mono ?_
  rintro e w' ⟨A, c, rfl, ho, hb⟩
  obtain ⟨k1, k2, k3⟩ := OwnS.sl ho
  have hs' := hsh.below (Nat.le_refl _) hb
  obtain ⟨x, hx⟩ : ∃ x : SentL, x = ⟨j + 1, f, (X'.L 0).drop f, A, c⟩ := ⟨_, rfl⟩
  have hA : Below w'.heap.size w' (w'.alloc (.cells #[.int .i64 (x.i : Int), .int .i64 (x.f : Int), .slice x.a x.l.length x.c] 73)) := (Below.refl _ _).alloc (Nat.le_refl _) _
  have how := own_below hs'.wo hA
  obtain ⟨hva, hya⟩ := hsh.lt
  have hxw : SlS w' x.a x.l ∧ x.l.length ≤ x.c ∧ ∀ d, x.a = some d → ¬ O d.block ∧ d.block < w'.heap.size ∧ (∀ e, va = some e → d.block ≠ e.block) ∧ ∀ e, ya = some e → d.block ≠ e.block := by
    subst hx
    refine ⟨k1, k2, fun d e => ?_⟩
    have h1 := World.ownsRow.lt ho d.block (by simp only at e; rw [e]; rfl)
    refine ⟨fun k => ?_, h1.2, fun e2 h2 => ?_, fun e2 h2 => ?_⟩
    · have := hsh.g.lt _ k; omega
    · have := (hva e2 h2).2; omega
    · have := (hya e2 h2).2; omega
  have hS0 := hs'.base.size
  obtain ⟨A', c', w'', hrun, ho2, hk2, hat⟩ := run_appW (x := x) (k := wn) (c := yc) (c1 := 1) (g := w'.heap.size) (A := ya) (l := way) 70 (by rw [hwn] at how; unfold OwnW; rw [hwn]; exact how) hwn (cell_sent w' x _) (by have := h.wk; omega) (Nat.le_trans hS0 hA.size)
  have hs2 := hs'.sends (Nat.le_refl _) hA (by rw [List.length_append, hwn]; rfl) hxw ho2 hk2 (fun d e => hat d e)
  have hof : x.Of X.n (X'.L 0) := by
    subst hx
    have hn := h.more.n
    refine ⟨by simp, by simp only; omega, by simp only; rw [List.length_drop]; omega, ?_⟩
    simp only
    rw [List.take_of_length_le (Nat.le_refl _)]
  have hR : ShipR p q w3 X X' va vc log A' c' (way ++ [x]) (k + 1) w'' := ⟨⟨O, hs2⟩, h.more, h.beg, fun s hs => by
    rcases List.mem_append.1 hs with hs | hs
    · exact h.of_ s hs
    · rw [List.mem_singleton.1 hs]; exact hof, Nat.le_succ_of_le h.lk, by rw [List.length_append]; have := h.wk; simp; omega⟩
  obtain ⟨N, er, X'', hT⟩ := hR.taking (s := x) (n := x.l.length) (List.mem_append.2 (.inr (List.mem_singleton.2 rfl))) rfl
  subst hx
  subst hi
  exact ⟨A, _, c, rfl, A', c', w'', hrun, N, er, X'', _, by rw [List.length_append, hwn]; rfl, hT⟩
end
end Go.Proofs.Ytkgbaaaklijopaa
