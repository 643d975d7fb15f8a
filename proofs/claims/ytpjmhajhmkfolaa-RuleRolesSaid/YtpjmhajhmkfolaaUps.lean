/- The contract of ups: the roles that the laws draw of a list of numbers. -/
import Derived.Test.YtpjmhajhmkfolaaWithin
set_option linter.unusedVariables false
set_option linter.unusedSimpArgs false
namespace Go.Proofs.Ytpjmhajhmkfolaa
open Go.RowKit

/-- what the laws draw of the numbers z 0, z 1, .. -/
def uz (z : Nat → Int) (k : Nat) : Nat := wit (z k) ((2 : Nat) ^ k : Nat)

theorem uz_lt (z : Nat → Int) (k : Nat) : uz z k < 2 ^ k := by
  have h := wit_lt (z k) ((2 ^ k : Nat) : Int) (by have := Nat.two_pow_pos k; omega)
  unfold uz
  omega

/-- the first m of them, as values -/
def uvals (z : Nat → Int) (m : Nat) : List Value := (List.range m).map fun k => Value.int .i64 (uz z k : Nat)

theorem uvals_succ (z : Nat → Int) (m : Nat) : uvals z m ++ [Value.int .i64 (uz z m : Nat)] = uvals z (m + 1) := by
  simp [uvals, List.range_succ]

theorem uvals_get {z : Nat → Int} {m k : Nat} (h : k < m) : (uvals z m)[k]? = some (Value.int .i64 (uz z k : Nat)) := by
  simp [uvals, h]

theorem Try.infoInt : (Try.prog.info? 3).map (fun i => (i.zero, i.size, i.bytes)) = some (some (.int .i64 0), 1, 8) := by kernel_rfl

def UpsPost (z : Nat → Int) (m : Nat) (w : World) (e : Ending) (w' : World) : Prop :=
  ∃ v, e = .returned v ∧ w'.ownsRow w.heap.size 3 1 v m (uvals z m) ∧ Below w.heap.size w w' ∧ (m = 0 → v = .slice none 0 0)

set_option maxHeartbeats 1000000 in
theorem ups_any (a : Option Addr) (n cap : Nat) (z : Nat → Int) (w : World) (hs : Sl w a n z) (hn : n ≤ cap) (hcap : cap ≤ maxLen) :
    Calls Try.prog 22 #[.slice a n cap] w (UpsPost z (min n 8) w) := by
  obtain ⟨i0, hi, hz0, hz1, hz2⟩ := info_parts Try.infoInt
  unfold maxLen at hcap
  rcases Nat.lt_or_ge 8 n with h8 | h8
  · have h8' : (8 : Int) < n := by omega
    have hmin : Hid (min n 8 = 8) := Nat.min_eq_right (by omega)
    go_enter Try.func22, Try.ntmps22
    go_wp2
    go_loopw [3, 12] (fun v i wr => ∃ k : Nat, k ≤ 8 ∧ i = .int .i64 k ∧ wr.ownsRow w.heap.size 3 1 v k (uvals z k) ∧ Below w.heap.size w wr ∧ (k = 0 → v = .slice none 0 0)) (fun _ i _ => 8 - (intOf i).toNat)
    case atStart => exact ⟨0, Nat.zero_le _, rfl, World.ownsRow_nil _ _ _ _, Below.refl _ _, fun _ => rfl⟩
    case round =>
      obtain ⟨k, hk, rfl, hown, hnx, hnil⟩ := hrel
      by_cases hlt : k < 8
      · obtain ⟨b, off, rfl, hc⟩ := hs k (by omega)
        have hb : b < w.heap.size := World.block_lt_of_cell? w ⟨b, off + k, none⟩ hc
        have hcr : wr.cell? ⟨b, off + k, none⟩ = some (.int .i64 (z k)) := (hnx.cell (p := ⟨b, off + k, none⟩) hb).trans hc
        have hp0 : 0 < 2 ^ k := Nat.two_pow_pos k
        have hp1 := pow_le_128 (k := k) (by omega)
        obtain ⟨p, hp⟩ : ∃ p : Nat, Hid (p = 2 ^ k) := ⟨_, rfl⟩
        have hsh : wrap64 ((2 : Int) ^ k) = (p : Int) := by
          have := shl_one (k := k) (by omega)
          rw [← hp.out] at this
          exact this
        have hp0' : 0 < p := by rw [hp.out]; exact hp0
        have hp1' : p ≤ 128 := by rw [hp.out]; exact hp1
        have hu : Hid (wit (z k) p = uz z k) := by unfold uz; rw [hp.out]; rfl
        have hsz := hnx.size
        clear hs hp0 hp1 hc
        go_wp2_with (first
          | (go_at_call 19; refine (within_any (z k) p _ (by omega) (by omega)).mono ?_; rintro e w' ⟨rfl, rfl⟩)
          | (at_builtin; refine wpList_append_own _ rfl _ _ 22 rfl w.heap.size 3 i0 (.int .i64 0) 1 8 Try.underlying22 hi hz0 hz1 hz2 rfl (by decide) _ _ _ rfl (hown.alloc _) ⟨wr.heap.size, 0, none⟩ 1 1 [.int .i64 (wit (z k) p : Nat)] rfl rfl ?c1 ?c2 ?c3 ?c4 ?c5 ?_))
        case c1 =>
          intro j u hj
          match j, hj with
          | 0, hj => simp at hj; subst hj; simp [Addr.add]
        case c2 => intro u hu; simp at hu; subst hu; rfl
        case c3 => unfold maxLen; omega
        case c4 => omega
        case c5 => simp; omega
        intro v' w1 hown' hgrow _
        have hown2 : w1.ownsRow w.heap.size 3 1 v' (k + 1) (uvals z (k + 1)) := by
          rw [← uvals_succ, ← hu.out]
          exact hown'
        have hnx2 : Below w.heap.size w w1 := (hnx.alloc hnx.size _).grown hgrow (by simp; omega) (fun j hj => (hown.lt j hj).1)
        clear hown' hown hgrow hnx hcr
        go_wp2
        go_roundw
        case rel => exact ⟨k + 1, by omega, by go_num, hown2, hnx2, fun h => by omega⟩
        case measure => simp [intOf]; omega
      · obtain rfl : k = 8 := by omega
        go_wp2
        go_ret
        exact ⟨_, rfl, by rw [hmin.out]; exact hown, hnx, by rw [hmin.out]; exact hnil⟩
  · have h8' : ¬ (8 : Int) < n := by omega
    have hmin : Hid (min n 8 = n) := Nat.min_eq_left h8
    go_enter Try.func22, Try.ntmps22
    go_wp2
    go_loopw [3, 12] (fun v i wr => ∃ k : Nat, k ≤ n ∧ i = .int .i64 k ∧ wr.ownsRow w.heap.size 3 1 v k (uvals z k) ∧ Below w.heap.size w wr ∧ (k = 0 → v = .slice none 0 0)) (fun _ i _ => n - (intOf i).toNat)
    case atStart => exact ⟨0, Nat.zero_le _, rfl, World.ownsRow_nil _ _ _ _, Below.refl _ _, fun _ => rfl⟩
    case round =>
      obtain ⟨k, hk, rfl, hown, hnx, hnil⟩ := hrel
      by_cases hlt : k < n
      · obtain ⟨b, off, rfl, hc⟩ := hs k (by omega)
        have hb : b < w.heap.size := World.block_lt_of_cell? w ⟨b, off + k, none⟩ hc
        have hcr : wr.cell? ⟨b, off + k, none⟩ = some (.int .i64 (z k)) := (hnx.cell (p := ⟨b, off + k, none⟩) hb).trans hc
        have hp0 : 0 < 2 ^ k := Nat.two_pow_pos k
        have hp1 := pow_le_128 (k := k) (by omega)
        obtain ⟨p, hp⟩ : ∃ p : Nat, Hid (p = 2 ^ k) := ⟨_, rfl⟩
        have hsh : wrap64 ((2 : Int) ^ k) = (p : Int) := by
          have := shl_one (k := k) (by omega)
          rw [← hp.out] at this
          exact this
        have hp0' : 0 < p := by rw [hp.out]; exact hp0
        have hp1' : p ≤ 128 := by rw [hp.out]; exact hp1
        have hu : Hid (wit (z k) p = uz z k) := by unfold uz; rw [hp.out]; rfl
        have hsz := hnx.size
        clear hs hp0 hp1 hc
        go_wp2_with (first
          | (go_at_call 19; refine (within_any (z k) p _ (by omega) (by omega)).mono ?_; rintro e w' ⟨rfl, rfl⟩)
          | (at_builtin; refine wpList_append_own _ rfl _ _ 22 rfl w.heap.size 3 i0 (.int .i64 0) 1 8 Try.underlying22 hi hz0 hz1 hz2 rfl (by decide) _ _ _ rfl (hown.alloc _) ⟨wr.heap.size, 0, none⟩ 1 1 [.int .i64 (wit (z k) p : Nat)] rfl rfl ?c1 ?c2 ?c3 ?c4 ?c5 ?_))
        case c1 =>
          intro j u hj
          match j, hj with
          | 0, hj => simp at hj; subst hj; simp [Addr.add]
        case c2 => intro u hu; simp at hu; subst hu; rfl
        case c3 => unfold maxLen; omega
        case c4 => omega
        case c5 => simp; omega
        intro v' w1 hown' hgrow _
        have hown2 : w1.ownsRow w.heap.size 3 1 v' (k + 1) (uvals z (k + 1)) := by
          rw [← uvals_succ, ← hu.out]
          exact hown'
        have hnx2 : Below w.heap.size w w1 := (hnx.alloc hnx.size _).grown hgrow (by simp; omega) (fun j hj => (hown.lt j hj).1)
        clear hown' hown hgrow hnx hcr
        go_wp2
        go_roundw
        case rel => exact ⟨k + 1, by omega, by go_num, hown2, hnx2, fun h => by omega⟩
        case measure => simp [intOf]; omega
      · obtain rfl : k = n := by omega
        go_wp2
        go_ret
        exact ⟨_, rfl, by rw [hmin.out]; exact hown, hnx, by rw [hmin.out]; exact hnil⟩

theorem uz_valid (z : Nat → Int) {m : Nat} (h : m ≤ 8) : Valid m (uz z) := ⟨h, fun k _ => uz_lt z k⟩

theorem ups_zero (a : Option Addr) (cap : Nat) (z : Nat → Int) (w : World) (hcap : cap ≤ maxLen) :
    Calls Try.prog 22 #[.slice a 0 cap] w fun e w' => e = .returned (.slice none 0 0) ∧ Below w.heap.size w w' :=
  (ups_any a 0 cap z w (fun k hk => absurd hk (Nat.not_lt_zero k)) (Nat.zero_le _) hcap).mono fun _ _ ⟨_, he, _, hb, hn⟩ => ⟨by rw [he, hn (by simp)], hb⟩

/-- an owned row of the roles drawn -/
structure UpsAt (z : Nat → Int) (m B : Nat) (w : World) (g cap : Nat) : Prop where
  lo : B ≤ g
  hi : g < w.heap.size
  row : w.ownsRow B 3 1 (.slice (some ⟨g, 0, none⟩) m cap) m (uvals z m)
  slv : SlV w (some ⟨g, 0, none⟩) m (uz z)
  le : m ≤ cap
  max : cap ≤ maxLen

theorem ups_pos (a : Option Addr) (n cap : Nat) (z : Nat → Int) (w : World) (hs : Sl w a n z) (h0 : 0 < n) (hn : n ≤ cap) (hcap : cap ≤ maxLen) :
    Calls Try.prog 22 #[.slice a n cap] w fun e w' => ∃ g c, e = .returned (.slice (some ⟨g, 0, none⟩) (min n 8) c) ∧ UpsAt z (min n 8) w.heap.size w' g c ∧ Below w.heap.size w w' :=
  (ups_any a n cap z w hs hn hcap).mono fun _ w' ⟨v, he, hown, hb, _⟩ => by
    have hm : min n 8 ≠ 0 := by omega
    rcases hown.2 with ⟨_, h⟩ | ⟨g, c, cur, rfl, hlo, hg, h1, h2, h3, h4⟩
    · exact absurd h hm
    · refine ⟨g, c, he, ⟨hlo, (Array.getElem?_eq_some_iff.1 hg).1, hown, ⟨fun k hk => ⟨g, 0, rfl, ?_⟩, uz_valid z (by omega)⟩, h1, h2⟩, hb⟩
      have := hown.cells (g := g) rfl k _ (uvals_get hk)
      have hadd : (⟨g, 0, none⟩ : Addr).add k = ⟨g, k, none⟩ := by unfold Addr.add; split <;> simp_all
      rw [hadd] at this
      rw [Nat.zero_add]
      exact this
end Go.Proofs.Ytpjmhajhmkfolaa
