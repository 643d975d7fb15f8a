/- Lists of rules that a call owns: cloned, and appended to. -/
import Derived.Test.YtpjmhajhmkfolaaSeesJoin
import Derived.Deep.AppendLies
import Derived.Laws.AppendOwnNone
set_option linter.unusedVariables false
set_option linter.unusedSimpArgs false
namespace Go.Proofs.Ytpjmhajhmkfolaa
open Go.RowKit

theorem Try.infoRule : (Try.prog.info? 27).map (fun i => (i.zero, i.size, i.bytes)) = some (some (.agg #[.int .i64 0, .int .i64 0, .int .i64 0, .int .i64 0, .int .i64 0, .bool false]), 6, 48) := by kernel_rfl

/-- the value v owns, from block B on, n rules -/
def OwnR (B : Nat) (w : World) (v : Value) (n : Nat) (rs : Nat → RuleL) : Prop := w.ownsRow B 27 6 v n (cellsR rs n)

theorem OwnR.slr {B : Nat} {w : World} {A : Option Addr} {n c : Nat} {rs : Nat → RuleL} (h : OwnR B w (.slice A n c) n rs) : SlR w A n rs ∧ n ≤ c ∧ c ≤ maxLen := by
  rcases h.2 with ⟨e, h0⟩ | ⟨g, cap, cur, e, hlo, hg, h1, h2, h3, h4⟩
  · subst h0
    cases e
    exact ⟨fun k hk => absurd hk (Nat.not_lt_zero k), Nat.le_refl _, Nat.zero_le _⟩
  · cases e
    refine ⟨slr_of_cells fun j u hj => ?_, h1, h2⟩
    have := World.ownsRow.cells h (g := g) rfl j u hj
    have hadd : (⟨g, 0, none⟩ : Addr).add j = ⟨g, j, none⟩ := by unfold Addr.add; split <;> simp_all
    rwa [hadd] at this

theorem OwnR.alloc {B : Nat} {w : World} {v : Value} {n : Nat} {rs : Nat → RuleL} {o : Obj} (h : OwnR B w v n rs) : OwnR B (w.alloc o) v n rs := World.ownsRow.alloc h o
theorem le_alloc {B : Nat} {W w1 : World} {o : Obj} (hb : Below B W w1) : W.heap.size ≤ (w1.alloc o).heap.size := Nat.le_trans hb.size (by simp)

/-- a slice of rules that is new from block B on -/
def NewR (B n : Nat) (rs : Nat → RuleL) (w : World) (e : Ending) (w' : World) : Prop :=
  ∃ v A c, e = .returned v ∧ v = .slice A n c ∧ OwnR B w' v n rs ∧ Below B w w'

/-- .. in a world that has more than T blocks -/
def NewT (T n : Nat) (rs : Nat → RuleL) (w : World) (e : Ending) (w' : World) : Prop :=
  ∃ v A c, e = .returned v ∧ v = .slice A n c ∧ OwnR w.heap.size w' v n rs ∧ Below w.heap.size w w' ∧ T < w.heap.size

set_option maxHeartbeats 1000000 in
theorem cloneR_any (a : Option Addr) (n cap : Nat) (rs : Nat → RuleL) (w : World) (hs : SlR w a n rs) (hn : n ≤ 1000) :
    Calls Try.prog 21 #[.slice a n cap] w (NewR w.heap.size n rs w) := by
  obtain ⟨i0, hi, hz0, hz1, hz2⟩ := info_parts Try.infoRule
  have hnil := @Lib.run_eql_slice_nil
  have HS := Lib.hid hs
  clear hs
  cases a with
  | none =>
    have h0 : n = 0 := by
      rcases Nat.eq_zero_or_pos n with h | h
      · exact h
      · obtain ⟨b, off, e, _⟩ := HS.out 0 h
        cases e
    subst h0
    go_enter Try.func21, Try.ntmps21
    go_wp2_with fail
    go_ret
    exact ⟨_, none, 0, rfl, rfl, World.ownsRow_nil _ _ _ _, Below.refl _ _⟩
  | some ad =>
    have hnews : ∀ k u, (cellsR rs n)[k]? = some u → (w.alloc (.cells #[] 27)).cell? (ad.add k) = some u := by
      intro k u hk
      obtain ⟨k', i, h1, _⟩ := flat_of_get (RuleL.cells_len rs) hk
      obtain ⟨b, off, e, hc⟩ := HS.out k' h1
      cases e
      exact ((HS.out.below ((Below.refl _ _).alloc (Nat.le_refl _) _)).cells) k u hk
    have hown : (w.alloc (.cells #[] 27)).ownsRow w.heap.size 27 6 (.slice (some ⟨w.heap.size, 0, none⟩) 0 0) 0 [] := World.ownsRow_made w #[] 0 (Nat.le_refl _) (by decide) rfl
    have HN := Lib.hid hnews
    clear hnews
    go_enter Try.func21, Try.ntmps21
    go_wp2_with (at_builtin; refine wpList_append_own _ rfl _ _ 23 rfl w.heap.size 27 i0 _ 6 48 Try.underlying23 hi hz0 hz1 hz2 rfl (by decide) _ _ _ rfl hown ad n cap (cellsR rs n) rfl ?c1 HN.out (cellsR_one rs n) ?c3 ?c4 ?c5 ?_)
    case c1 => exact flat_len (RuleL.cells_len rs) n
    case c3 => unfold maxLen; omega
    case c4 => omega
    case c5 => simp
    intro v' w1 hown' hgrow hnv
    have hnx : Below w.heap.size w w1 := ((Below.refl _ _).alloc (Nat.le_refl _) _).grown hgrow (by simp) (fun j hj => by simp [Value.ownBlock] at hj; omega)
    obtain ⟨A, c, hv⟩ : ∃ A c, v' = .slice A n c := by
      rcases hown'.2 with ⟨h, h0⟩ | ⟨g', c', cur, h, _⟩
      · exact ⟨none, 0, by rw [h, h0]⟩
      · exact ⟨_, c', h⟩
    have HO := Lib.hid (show OwnR w.heap.size w1 v' n rs from hown')
    clear hnv hgrow hown hown'
    subst hv
    go_wp2_with fail
    go_ret
    exact ⟨_, A, c, rfl, rfl, HO.out, hnx⟩

theorem cloneR_T {T : Nat} {a : Option Addr} {n cap : Nat} {rs : Nat → RuleL} {w : World} (hs : SlR w a n rs) (hn : n ≤ 1000) (hT : T < w.heap.size) :
    Calls Try.prog 21 #[.slice a n cap] w (NewT T n rs w) :=
  (cloneR_any a n cap rs w hs hn).mono fun _ _ ⟨v, A, c, h1, h2, h3, h4⟩ => ⟨v, A, c, h1, h2, h3, h4, hT⟩

/-- what is written out as a row of rules -/
theorem slr_lit1 (w : World) (r : RuleL) : SlR (w.alloc (.cells #[.int .i64 r.role, .int .i64 r.why, .int .i64 r.frm, .int .i64 r.til, .int .i64 r.cats, .bool r.allow] 27)) (some ⟨w.heap.size, 0, none⟩) 1 (fun _ => r) := by
  intro k hk
  obtain rfl : k = 0 := by omega
  exact ⟨_, _, rfl, by simp, by simp, by simp, by simp, by simp, by simp⟩
theorem slr_lit1d {w w' : World} {r : RuleL} (hb : Below (w.alloc (.cells #[.int .i64 r.role, .int .i64 r.why, .int .i64 r.frm, .int .i64 r.til, .int .i64 r.cats, .bool r.allow] 27)).drew.heap.size (w.alloc (.cells #[.int .i64 r.role, .int .i64 r.why, .int .i64 r.frm, .int .i64 r.til, .int .i64 r.cats, .bool r.allow] 27)).drew w') {g0 : Nat} (hg : w.heap.size = g0) : SlR w' (some ⟨g0, 0, none⟩) 1 (fun _ => r) := by subst hg; exact SlR.below (w := (w.alloc (.cells #[.int .i64 r.role, .int .i64 r.why, .int .i64 r.frm, .int .i64 r.til, .int .i64 r.cats, .bool r.allow] 27)).drew) (slr_lit1 w r) hb
theorem slr_lit2 (w : World) {r : RuleL} (q : RuleL) : SlR (w.alloc (.cells #[.int .i64 r.role, .int .i64 r.why, .int .i64 r.frm, .int .i64 r.til, .int .i64 r.cats, .bool r.allow, .int .i64 q.role, .int .i64 q.why, .int .i64 q.frm, .int .i64 q.til, .int .i64 q.cats, .bool q.allow] 27)) (some ⟨w.heap.size, 0, none⟩) 2 (twoR r q) := by
  intro k hk
  match k, hk with
  | 0, _ => exact ⟨_, _, rfl, by simp [twoR], by simp [twoR], by simp [twoR], by simp [twoR], by simp [twoR], by simp [twoR]⟩
  | 1, _ => exact ⟨_, _, rfl, by simp [twoR], by simp [twoR], by simp [twoR], by simp [twoR], by simp [twoR], by simp [twoR]⟩

theorem slr_lit2d {w w' : World} {r q : RuleL} (hb : Below (w.alloc (.cells #[.int .i64 r.role, .int .i64 r.why, .int .i64 r.frm, .int .i64 r.til, .int .i64 r.cats, .bool r.allow, .int .i64 q.role, .int .i64 q.why, .int .i64 q.frm, .int .i64 q.til, .int .i64 q.cats, .bool q.allow] 27)).drew.heap.size (w.alloc (.cells #[.int .i64 r.role, .int .i64 r.why, .int .i64 r.frm, .int .i64 r.til, .int .i64 r.cats, .bool r.allow, .int .i64 q.role, .int .i64 q.why, .int .i64 q.frm, .int .i64 q.til, .int .i64 q.cats, .bool q.allow] 27)).drew w') {g0 : Nat} (hg : w.heap.size = g0) : SlR w' (some ⟨g0, 0, none⟩) 2 (twoR r q) := by subst hg; exact SlR.below (w := (w.alloc (.cells #[.int .i64 r.role, .int .i64 r.why, .int .i64 r.frm, .int .i64 r.til, .int .i64 r.cats, .bool r.allow, .int .i64 q.role, .int .i64 q.why, .int .i64 q.frm, .int .i64 q.til, .int .i64 q.cats, .bool q.allow] 27)).drew) (slr_lit2 w (r := r) q) hb
/-- append, at a step of a region that draws its order -/
theorem step_app (w : World) {ops : Array Oper} {o : Oper} {a : Act} {K : Act → World → Prop} {Q : Exit → Act → World → Prop} {E : Prop} (hgd : o.guard = none) (s x : Operand)
    (ho : o.op = .call { callee := .builtin .append, args := #[s, x], argTypes := #[23, 23] })
    (v : Value) (hs : a.eval s = v) {B n : Nat} {rs : Nat → RuleL} (hown : OwnR B w v n rs) (g0 m c0 : Nat) (q : Nat → RuleL) (hx : a.eval x = .slice (some ⟨g0, 0, none⟩) m c0) (hq : SlR w (some ⟨g0, 0, none⟩) m q) (hm : 0 < m) (hn : n + m ≤ 1000) (hB : B ≤ w.heap.size)
    (h : ∀ A cap w', OwnR B w' (.slice A (n + m) cap) (n + m) (joinR n rs q) → Below B w w' → K (a.put o.dst (.slice A (n + m) cap)) w') :
    if Region.wanted o (yielded ops a.tmps) = true then Oper.wp Try.prog o a w K Q else E := by
  obtain ⟨i0, hi, hz0, hz1, hz2⟩ := info_parts Try.infoRule
  refine step_append_lies (P := Try.prog) w hgd s x 23 ho B 27 i0 _ 6 48 Try.underlying23 hi hz0 hz1 hz2 rfl (by decide) v n (cellsR rs n) hs hown ⟨g0, 0, none⟩ m c0 (cellsR q m) hx (flat_len (RuleL.cells_len q) m) hq.cells (cellsR_one q m) hm (by unfold maxLen; omega) (by omega) hB _ rfl ?_
  intro g cap w1 hown1 hgrow hat hlt
  refine h (some ⟨g, 0, none⟩) cap w1 ?_ ⟨hgrow.os, hgrow.tape, hgrow.output, hgrow.size, fun i hi => hgrow.block i (by omega) fun e => ?_⟩
  · unfold OwnR
    rw [cellsR_join]
    exact hown1
  · have := (World.ownsRow.lt hown i e.symm).1
    omega
end Go.Proofs.Ytpjmhajhmkfolaa
