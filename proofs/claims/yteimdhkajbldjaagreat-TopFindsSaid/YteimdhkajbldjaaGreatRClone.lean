/- slices.Clone of fields and of names. -/
import Derived.Test.YteimdhkajbldjaaGreatROwn
import Derived.Lib.Walk
import Derived.Deep.AppendLies
import Derived.Laws.AppendOwnNone
import Derived.Laws.CopyOwn
import Derived.Laws.IdiomCopy
import Derived.Deep.RegionLaw
set_option linter.unusedVariables false
set_option linter.unusedSimpArgs false
set_option maxRecDepth 100000
namespace Go.Proofs.YteimdhkajbldjaaGreat
open Go.RowKit Go.Sort

set_option maxHeartbeats 1000000 in
theorem cloneF_any (a : Option Addr) (fs : List FieldL) (cap : Nat) (w : World) (hs : SlF w a fs) (hn : fs.length ≤ 1000000) :
    Calls Tryz.prog 137 #[.slice a fs.length cap] w (NewF w.heap.size fs w) := by
  obtain ⟨i0, hi, hz0, hz1, hz2⟩ := info_parts Tryz.infoField
  have hnil := @Lib.run_eql_slice_nil
  have HS := Lib.hid hs
  clear hs
  cases a with
  | none =>
    have h0 : fs = [] := by
      cases fs with
      | nil => rfl
      | cons f r =>
        obtain ⟨b, off, e, _⟩ := HS.out 0 f rfl
        cases e
    subst h0
    go_enter Tryz.func137, Tryz.ntmps137
    go_wp2_with fail
    go_ret
    exact ⟨none, 0, rfl, World.ownsRow_nil _ _ _ _, Below.refl _ _⟩
  | some ad =>
    have hnews := (HS.out.below ((Below.refl _ _).alloc (Nat.le_refl _) (.cells #[] 37))).cells
    have hown : (w.alloc (.cells #[] 37)).ownsRow w.heap.size 37 2 (.slice (some ⟨w.heap.size, 0, none⟩) 0 0) 0 [] := World.ownsRow_made w #[] 0 (Nat.le_refl _) (by decide) rfl
    have HN := Lib.hid hnews
    clear hnews
    go_enter Tryz.func137, Tryz.ntmps137
    go_wp2_with (at_builtin; refine wpList_append_own _ rfl _ _ 32 rfl w.heap.size 37 i0 _ 2 32 Tryz.underlying32 hi hz0 hz1 hz2 rfl (by decide) _ _ _ rfl hown ad fs.length cap (cellsF fs) rfl ?c1 HN.out (cellsF_one fs) ?c3 ?c4 ?c5 ?_)
    case c1 => exact cellsF_len fs
    case c3 => unfold maxLen; omega
    case c4 => omega
    case c5 => simp
    intro v' w1 hown' hgrow hnv
    have hnx : Below w.heap.size w w1 := ((Below.refl _ _).alloc (Nat.le_refl _) _).grown hgrow (by simp) (fun j hj => by simp [Value.ownBlock] at hj; omega)
    obtain ⟨A, c, hv⟩ := OwnF.form (B := w.heap.size) (w := w1) (v := v') (fs := fs) hown'
    have HO := Lib.hid (show OwnF w.heap.size w1 v' fs from hown')
    clear hnv hgrow hown hown'
    subst hv
    go_wp2_with fail
    go_ret
    exact ⟨A, c, rfl, HO.out, hnx⟩

set_option maxHeartbeats 1000000 in
theorem cloneS_any (a : Option Addr) (rs : List ByteArray) (cap : Nat) (w : World) (hs : SlS w a rs) (hn : rs.length ≤ 1000000) :
    Calls Tryz.prog 37 #[.slice a rs.length cap] w (NewS w.heap.size rs w) := by
  obtain ⟨i0, hi, hz0, hz1, hz2⟩ := info_parts Tryz.infoStr
  have hnil := @Lib.run_eql_slice_nil
  have HS := Lib.hid hs
  clear hs
  cases a with
  | none =>
    have h0 : rs = [] := by
      cases rs with
      | nil => rfl
      | cons f r =>
        obtain ⟨b, off, e, _⟩ := HS.out 0 f rfl
        cases e
    subst h0
    go_enter Tryz.func37, Tryz.ntmps37
    go_wp2_with fail
    go_ret
    exact ⟨none, 0, rfl, World.ownsRow_nil _ _ _ _, Below.refl _ _⟩
  | some ad =>
    have hnews := (HS.out.below ((Below.refl _ _).alloc (Nat.le_refl _) (.cells #[] 9))).cells
    have hown : (w.alloc (.cells #[] 9)).ownsRow w.heap.size 9 1 (.slice (some ⟨w.heap.size, 0, none⟩) 0 0) 0 [] := World.ownsRow_made w #[] 0 (Nat.le_refl _) (by decide) rfl
    have HN := Lib.hid hnews
    clear hnews
    go_enter Tryz.func37, Tryz.ntmps37
    go_wp2_with (at_builtin; refine wpList_append_own _ rfl _ _ 33 rfl w.heap.size 9 i0 _ 1 16 Tryz.underlying33 hi hz0 hz1 hz2 rfl (by decide) _ _ _ rfl hown ad rs.length cap (cellsS rs) rfl ?c1 HN.out (cellsS_one rs) ?c3 ?c4 ?c5 ?_)
    case c1 => exact cellsS_len rs
    case c3 => unfold maxLen; omega
    case c4 => omega
    case c5 => simp
    intro v' w1 hown' hgrow hnv
    have hnx : Below w.heap.size w w1 := ((Below.refl _ _).alloc (Nat.le_refl _) _).grown hgrow (by simp) (fun j hj => by simp [Value.ownBlock] at hj; omega)
    obtain ⟨A, c, hv⟩ := OwnS.form (B := w.heap.size) (w := w1) (v := v') (rs := rs) hown'
    have HO := Lib.hid (show OwnS w.heap.size w1 v' rs from hown')
    clear hnv hgrow hown hown'
    subst hv
    go_wp2_with fail
    go_ret
    exact ⟨A, c, rfl, HO.out, hnx⟩

/-! ## copy(dst, src), elements of several cells -/
end Go.Proofs.YteimdhkajbldjaaGreat
