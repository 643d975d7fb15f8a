/- IndexNone's walk; slices.DeleteFunc with its closure. -/
import Derived.Test.YtodlabohijabnaaGreatDoorIxB
import Derived.Test.YtodlabohijabnaaGreatDoorShelf4
import Derived.Shelf.SlicesE.DeleteFunc
import Derived.Test.YtodlabohijabnaaGreatDoorSFine
set_option linter.unusedVariables false
set_option linter.unusedSimpArgs false
set_option maxRecDepth 100000
namespace Go.Proofs.YtodlabohijabnaaGreatDoor
open Go.RowKit Go.Shelf Go.Sort

/-- a list of bytes, compared with a name -/
def isB (id : ByteArray) (x : List UInt8) : Bool := sEq ⟨x.toArray⟩ id
theorem isB_data (id s : ByteArray) : isB id s.data.toList = sEq s id := by unfold isB; congr 1
theorem clo_is (bx : Nat) (id : ByteArray) (x : List UInt8) (W : World) (h : W.cell? ⟨bx, 0, none⟩ = some (.string id)) :
    FnGives Tryz.prog 14 #[.pointer (some ⟨bx, 0, none⟩)] #[encStr x] (.bool (isB id x)) W := by
  unfold FnGives
  have he : (#[encStr x] ++ #[Value.pointer (some ⟨bx, 0, none⟩)] : Array Value) = #[.string ⟨x.toArray⟩, .pointer (some ⟨bx, 0, none⟩)] := rfl
  rw [he]
  obtain ⟨s, hs⟩ : ∃ s : ByteArray, (⟨x.toArray⟩ : ByteArray) = s := ⟨_, rfl⟩
  obtain ⟨t, ht⟩ : ∃ t, isB id x = t := ⟨_, rfl⟩
  have h1 : (s.toList == id.toList) = t := by rw [← ht]; unfold isB; rw [hs]; rfl
  rw [hs, ht]
  clear hs ht
  go_enter Tryz.func14, Tryz.ntmps14
  go_wp2_with fail
  go_ret
  exact ⟨rfl, 0, rfl⟩
theorem filt_off (id : ByteArray) (l : List ByteArray) : ((l.map fun s => s.data.toList).filter fun x => !isB id x) = (offN l id).map fun s => s.data.toList := by
  unfold offN
  rw [List.filter_map]
  congr 1

def DelFTo (A : Option Addr) (l : List ByteArray) (w : World) (e : Ending) (w' : World) : Prop :=
  ∃ c, e = .returned (.slice A l.length c) ∧ SlS w' A l ∧ l.length ≤ maxLen ∧ w.grownBy w' (A.map (·.block))
theorem zeroStr1 : ∀ w, (zeroValue 9).run Tryz.prog w = .ok (encStr []) w := fun w => by kernel_rfl
set_option maxHeartbeats 1000000 in
theorem delFunc_is {B k bx : Nat} (A : Option Addr) (c : Nat) (l : List ByteArray) (id : ByteArray) (w : World) (ho : OwnS B w (.slice A k c) l) (hl : l.length = k) (hid : w.cell? ⟨bx, 0, none⟩ = some (.string id)) (hb : bx < B) :
    Calls Tryz.prog 13 #[.slice A k c, .func (.func 14) #[] #[.pointer (some ⟨bx, 0, none⟩)]] w (DelFTo A (offN l id) w) := by
  subst hl
  rcases ho.2 with ⟨e1, h0⟩ | ⟨g, c', cur, e1, hbase, hgb, r1, r2, r3, r4⟩
  · have hl : l = [] := List.eq_nil_of_length_eq_zero h0
    subst hl
    have HIF := Lib.hid (fun w => AnyE.slices_IndexFunc_empty { Tryz.laysG10 with } A c (.func (.func 14) #[] #[.pointer (some ⟨bx, 0, none⟩)]) w)
    clear ho hid h0 e1
    go_enter Tryz.func13, Tryz.ntmps13
    go_wp2_with fail
    refine (HIF.out _).mono ?_
    rintro e w' ⟨rfl, rfl⟩
    go_wp2_with fail
    go_ret
    exact ⟨c, rfl, SlS.nil _ _, Nat.zero_le _, ⟨rfl, rfl, rfl, Nat.le_refl _, fun _ _ _ => rfl⟩⟩
  · injection e1 with ea ek ec
    subst ea ec
    obtain ⟨zs, hzs⟩ : ∃ zs, (l.map fun s => s.data.toList) = zs := ⟨_, rfl⟩
    have hzl : zs.length = l.length := by rw [← hzs, List.length_map]
    have hH : Holds encStr w g 0 zs.toArray := by
      rw [← hzs]
      exact holds_of_block hgb (by rw [map_enc]; simpa [cellsS] using r4)
    have hne : g ≠ bx := by omega
    have hp : PredAt Tryz.prog 14 #[.pointer (some ⟨bx, 0, none⟩)] encStr (isB id) w := fun W x hW => clo_is bx id x W ((hW.cell (p := ⟨bx, 0, none⟩) (cell_lt hid)).trans hid)
    have hpo : PredOver Tryz.prog 14 #[.pointer (some ⟨bx, 0, none⟩)] encStr (isB id) g 0 zs.toArray.size w := fun n os dk x _ => clo_is bx id x _ (by
      have hg4 : w.grownBy (sortWorld encStr w g 0 n dk os) (some g) := grownBy_sorted _
      exact (World.cell?_of_block (a := ⟨bx, 0, none⟩) (hg4.block bx (cell_lt hid) (fun e => hne (by cases e; rfl)))).trans hid)
    have hd := AnyE.slices_DeleteFunc Tryz.laysG10 encStr (fun x => rfl) (isB id) 14 #[.pointer (some ⟨bx, 0, none⟩)] (enters_of Tryz.func14 rfl rfl) [] zeroStr1 g 0 c zs.toArray w hp hpo hH (by simp; rw [hzl]; unfold maxLen at r2; omega) (by simp; rw [hzl]; exact r1)
    obtain ⟨F, hF⟩ : ∃ F, (zs.filter fun x => !isB id x) = F := ⟨_, rfl⟩
    have hF2 : F = (offN l id).map fun s => s.data.toList := by rw [← hF, ← hzs]; exact filt_off id l
    have hFl : F.length = (offN l id).length := by rw [hF2, List.length_map]
    have hFz : F.length ≤ zs.length := by rw [← hF]; exact List.length_filter_le _ _
    simp only [List.size_toArray, List.toList_toArray] at hd
    rw [hF, hzl] at hd
    refine hd.mono fun e w' ⟨he, q, hw⟩ => ?_
    have htl : zs.length = (F ++ List.replicate (l.length - F.length) []).length := by
      rw [List.length_append, List.length_replicate, hzl]
      omega
    have hrow4 := ownsRow_sorted (w := w) (n := q) (os := #[]) (ss := zs) (ts := F ++ List.replicate (l.length - F.length) []) (e := 9) (base := B) (cap := c) htl.symm hbase hgb (by rw [hzl]; exact r1) r2 r3
    have hg4 : w.grownBy (grow (putRow encStr (Sort.ahead w q) g 0 (F ++ List.replicate (l.length - F.length) []).toArray) #[]) (some g) := grownBy_sorted _
    rw [grow_empty, ← hw] at hrow4 hg4
    have hcut : ((F ++ List.replicate (l.length - F.length) []).map encStr).take (offN l id).length = cellsS (offN l id) := by
      rw [List.map_append, List.take_left' (by rw [List.length_map, hFl]), hF2]
      exact map_enc _
    have hown : OwnS B w' (.slice (some ⟨g, 0, none⟩) (offN l id).length c) (offN l id) := by
      unfold OwnS
      rw [← hcut]
      rcases hrow4.2 with ⟨e1, _⟩ | ⟨g', cap', cur', e1, hb', hh', k1, k2, k3, k4⟩
      · cases e1
      · injection e1 with ea _ ec
        injection ea with ea
        injection ea with ea
        subst ea ec
        refine ⟨by rw [List.length_take, hrow4.1, hzl]; omega, .inr ⟨g, c, cur', rfl, hb', hh', by omega, k2, k3, ?_⟩⟩
        rw [← k4, List.take_take, Nat.mul_one, hzl, Nat.mul_one]
        congr 1
        omega
    obtain ⟨s1, s2, s3⟩ := OwnS.sl hown
    exact ⟨c, by rw [he, hFl], s1, Nat.le_trans s2 s3, hg4⟩
end Go.Proofs.YtodlabohijabnaaGreatDoor
namespace Go.Proofs.YtodlabohijabnaaGreatDoor
open Go.RowKit Go.Sort Go.Maps

theorem at_nil' (w : World) (a : Option Addr) : VsAt w a 0 [] := ⟨[], rfl, rfl, fun k x h => by simp at h⟩
theorem st_nil' : stErr [] = 0 := stErr_ok.2 ⟨by simp, stOk_nil⟩

theorem NewW.setCell {B : Nat} {w : World} {A : Option Addr} {m c : Nat} {vs : List VerL} (h : NewW B w A m c vs) {a : Addr} (ha : a.block < B) (u : Value) : NewW B (w.setCell a u) A m c vs := by
  obtain ⟨q, h1, h2, h3, h4⟩ := h
  exact ⟨q, h1, h2, own_setCell h3 ha u, fun x hx => (h4 x hx).setCell ha u⟩
theorem Idx.turn {w w' : World} {S p M z : Nat} {X : SaysX} (h : Idx w S p M X) (hg : w.grownBy w' (some z)) (hz : z < S) : Idx w' S p M X := by
  cases h with
  | bare c0 f0 hp h =>
    have e := hg.block p (cell_lt c0) (fun e => by cases e; omega)
    exact .bare ((World.cell?_of_block (a := ⟨p, 0, none⟩) e).trans c0) ((World.frozen?_of_block (a := ⟨p, 0, none⟩) e).trans f0) hp h
  | full h =>
    obtain ⟨b, c0, f0, h1, h2, B, n, H, V, h3, h4, h5⟩ := h
    have e := hg.block p (cell_lt c0) (fun e => by cases e; omega)
    obtain ⟨D, k1, k2⟩ := h4.m
    have hl := h4.lt
    exact .full ⟨b, (World.cell?_of_block (a := ⟨p, 0, none⟩) e).trans c0, (World.frozen?_of_block (a := ⟨p, 0, none⟩) e).trans f0, h1, h2, B, n, H, V, h3, ⟨⟨D, k1.kept hg (fun e => by cases e; omega), k2⟩, ⟨fun f => World.ownsRow.kept (h4.rows.row f) hg (by
      cases hv : (V f).ownBlock with
      | none => exact .inl rfl
      | some k => exact .inr fun e => by have := (World.ownsRow.lt (h4.rows.row f) k hv).1; cases e; omega), h4.rows.ap, h4.rows.off⟩, hl⟩, h5⟩
theorem xy_fd {k : Nat} {v : ByteArray} (h : [(⟨#[120]⟩ : ByteArray), ⟨#[121]⟩][k]? = some v) : isFd ⟨⟨#[107]⟩, v⟩ = true := by
  match k, h with
  | 0, h => cases h; exact xyB_fd 0
  | 1, h => cases h; exact xyB_fd 1
  | k + 2, h => simp at h

set_option maxHeartbeats 8000000 in
theorem indexNone_walk (a : Option Addr) (c : Nat) (g : List RowI) (s0 : ByteArray) (w : World) (hs : SlG w a g) (hl : g.length ≤ c) (hm : c ≤ maxLen) (hs0 : s0.size ≤ maxLen) :
    Calls Tryz.prog 3 #[.slice a g.length c, .string s0] w fun e w' => e = .returned (.bool true) ∧ Below w.heap.size w w' := by
  have HS := Lib.hid hs
  have HL := Lib.hid hl
  have HM := Lib.hid hm
  obtain ⟨gl, hgl⟩ : ∃ gl, g.length = gl := ⟨_, rfl⟩
  have HGL := Lib.hid hgl
  rw [hgl]
  obtain ⟨W1, hW1⟩ : ∃ W1, W1 = w.alloc (.cells #[.string s0] 9) := ⟨_, rfl⟩
  have hb1 : Below w.heap.size w W1 := by rw [hW1]; exact (Below.refl _ _).alloc (Nat.le_refl _) _
  have x1 : W1.cell? ⟨w.heap.size, 0, none⟩ = some (.string s0) := by rw [hW1]; simp [go_sem]
  have z1 : W1.frozen? ⟨w.heap.size, 0, none⟩ = false := by rw [hW1]; simp [go_sem]
  have hs1 : W1.heap.size = w.heap.size + 1 := by rw [hW1]; simp
  have HB1 := Lib.hid hb1
  have HX1 := Lib.hid x1
  have HZ1 := Lib.hid z1
  have HS1 := Lib.hid hs1
  have HW1 := Lib.hid hW1
  clear hs hl hm hgl hb1 x1 z1 hs1 hW1 hs0
  go_enter Tryz.func3, Tryz.ntmps3
  go_wp2_with fail
  rw [← HW1.out]
  obtain ⟨bi, hbi⟩ : ∃ bi, bi = w.heap.size := ⟨_, rfl⟩
  have HBI := Lib.hid hbi
  rw [← hbi] at HX1 HZ1 ⊢
  clear hbi
  refine (begun_is _).mono ?_
  rintro e w2 ⟨rfl, hb2⟩
  have HB2 := Lib.hid (HB1.out.trans (hb2.mono HB1.out.size))
  have HX2 := Lib.hid ((hb2.cell (p := ⟨bi, 0, none⟩) (cell_lt HX1.out)).trans HX1.out)
  have HZ2 := Lib.hid ((hb2.frozen (p := ⟨bi, 0, none⟩) (cell_lt HX1.out)).trans HZ1.out)
  have HG := Lib.hid (grown_is a g c w2 (HS.out.below HB2.out) HL.out HM.out)
  rw [HGL.out] at HG
  clear hb2
  go_wp2_with fail
  refine HG.out.mono ?_
  rintro e w3 ⟨vs, A, m, c3, rfl, hok, hnw, hb3⟩
  have HST := Lib.hid (hok.fine (by omega))
  have HNW := Lib.hid hnw
  have HV := Lib.hid hnw.at_
  have HB3 := Lib.hid (HB2.out.trans (hb3.mono HB2.out.size))
  have HX3 := Lib.hid ((hb3.cell (p := ⟨bi, 0, none⟩) (cell_lt HX2.out)).trans HX2.out)
  have HZ3 := Lib.hid ((hb3.frozen (p := ⟨bi, 0, none⟩) (cell_lt HX2.out)).trans HZ2.out)
  have HNEW := Lib.hid (new_ok c3 w3 HV.out HST.out)
  clear hok hnw hb3 HG
  go_wp2_with fail
  refine HNEW.out.mono ?_
  rintro e w4 ⟨p, rfl, hidx, hb4⟩
  have x4 := (hb4.cell (p := ⟨bi, 0, none⟩) (cell_lt HX3.out)).trans HX3.out
  have z4 := (hb4.frozen (p := ⟨bi, 0, none⟩) (cell_lt HX3.out)).trans HZ3.out
  have HX4 := Lib.hid x4
  have HI4 := Lib.hid hidx
  have HV4 := Lib.hid (HV.out.below hb4)
  have HB4 := Lib.hid (HB3.out.trans (hb4.mono HB3.out.size))
  have HB34 := Lib.hid hb4
  clear hidx hb4 HNEW HV
  obtain ⟨j, hj⟩ : ∃ j, wit (s0.size : Int) 3 = j := ⟨_, rfl⟩
  have hj3 : j < 3 := by rw [← hj]; exact_mod_cast wit_lt (s0.size : Int) 3 (by omega)
  have HWI := Lib.hid (fun w => wit_to hj w (by decide) (by decide))
  obtain ⟨id, hjc, hic⟩ : ∃ id : ByteArray, (∀ h, [Value.string ⟨#[97]⟩, .string ⟨#[98]⟩, .string ⟨#[99]⟩][j]'h = .string id) ∧ (#[Value.string ⟨#[97]⟩, .string ⟨#[98]⟩, .string ⟨#[99]⟩] : Array Value)[j]? = some (.string id) := ⟨idB j, idB_list, idB_cell hj3⟩
  have j1 : (0 : Int) ≤ (j : Int) := by omega
  have j2 : (j : Int) < (3 : Int) := by omega
  have hbi4 := cell_lt x4
  obtain ⟨W5, hW5⟩ : ∃ W5, W5 = w4.setCell ⟨bi, 0, none⟩ (.string id) := ⟨_, rfl⟩
  have hg5 : w4.grownBy W5 (some bi) := by rw [hW5]; exact grown_setCell _ ⟨bi, 0, none⟩ _
  have x5 : W5.cell? ⟨bi, 0, none⟩ = some (.string id) := by rw [hW5]; exact World.cell?_setCell_same _ _ _ x4
  have hbiS : bi < w3.heap.size := cell_lt HX3.out
  have hI5 : Idx W5 w3.heap.size p 40000 (newX vs) := HI4.out.turn hg5 hbiS
  have hV5 : VsAt W5 A m vs := by
    have h1 : NewW w2.heap.size w4 A m c3 vs := HNW.out.below HB34.out
    have h2 := h1.setCell (a := ⟨bi, 0, none⟩) (show bi < w2.heap.size from cell_lt HX2.out) (.string id)
    rw [← hW5] at h2
    exact h2.at_
  have hB5 : Below w.heap.size w W5 := HB4.out.grown hg5 HB4.out.size (fun y hy => by cases hy; rw [HBI.out]; exact Nat.le_refl _)
  obtain ⟨W6, hW6⟩ : ∃ W6, W6 = W5.alloc (.cells #[.string ⟨#[97]⟩, .string ⟨#[98]⟩, .string ⟨#[99]⟩] 9) := ⟨_, rfl⟩
  have hb6 : Below W5.heap.size W5 W6 := by rw [hW6]; exact (Below.refl _ _).alloc (Nat.le_refl _) _
  have x6 := (hb6.cell (p := ⟨bi, 0, none⟩) (cell_lt x5)).trans x5
  have hI6 := hI5.below hb6
  have hV6 := hV5.below hb6
  have hB6 := hB5.trans (hb6.mono hB5.size)
  obtain ⟨W7, hW7⟩ : ∃ W7, W7 = W6.alloc (.cells #[.string ⟨#[120]⟩, .string ⟨#[121]⟩] 9) := ⟨_, rfl⟩
  have hb7 : Below W6.heap.size W6 W7 := by rw [hW7]; exact (Below.refl _ _).alloc (Nat.le_refl _) _
  have hxy : SlS W7 (some ⟨W6.heap.size, 0, none⟩) [⟨#[120]⟩, ⟨#[121]⟩] := by rw [hW7]; exact sl_one W6 9 [⟨#[120]⟩, ⟨#[121]⟩]
  have HXY := Lib.hid hxy
  have HX7 := Lib.hid ((hb7.cell (p := ⟨bi, 0, none⟩) (cell_lt x6)).trans x6)
  have HI7 := Lib.hid (hI6.below hb7)
  have HV7 := Lib.hid (hV6.below hb7)
  have HB7 := Lib.hid (hB6.trans (hb7.mono hB6.size))
  have HBI7 : Hid (bi < W7.heap.size) := Nat.lt_of_lt_of_le (cell_lt x6) hb7.size
  have HW5 := Lib.hid hW5
  have HW6 := Lib.hid hW6
  have HW7 := Lib.hid hW7
  have hbm : Below w4.heap.size w4 (w4.alloc (.cells #[.string ⟨#[97]⟩, .string ⟨#[98]⟩, .string ⟨#[99]⟩] 9)) := (Below.refl _ _).alloc (Nat.le_refl _) _
  have y5 := (hbm.cell (p := ⟨bi, 0, none⟩) hbi4).trans x4
  have z5 := (hbm.frozen (p := ⟨bi, 0, none⟩) hbi4).trans z4
  clear hj hW6 hW7 hW5 hg5 x5 hb6 x6 hbiS hI5 hV5 hB5 hI6 hV6 hB6 hb7 hxy HB34 HI4 hbm
  go_wp2_with (first | (go_at_call 8; refine (HWI.out _).mono ?_; rintro e w' ⟨rfl, rfl⟩))
  rw [← HW5.out, ← HW6.out, ← HW7.out]
  obtain ⟨lb, hlb⟩ : ∃ lb, lb = W6.heap.size := ⟨_, rfl⟩
  rw [← hlb] at HXY
  have hlb2 : w4.heap.size + 1 = lb := by rw [hlb, HW6.out, HW5.out]; simp [World.setCell]
  rw [hlb2]
  clear y5 z5 x4 z4 hjc hic hlb hlb2
  go_loopw [40] (fun i wr => ∃ k : Nat, k ≤ 2 ∧ i = .int .i64 k ∧ Hid (Below W7.heap.size W7 wr)) (fun i _ => 2 - (intOf i).toNat)
  case atStart => exact ⟨0, by omega, rfl, Below.refl _ _⟩
  case round =>
    obtain ⟨k, hk, rfl, HB⟩ := hrel
    by_cases hlt : k < 2
    · obtain ⟨v, hv⟩ : ∃ v, [(⟨#[120]⟩ : ByteArray), ⟨#[121]⟩][k]? = some v := ⟨_, List.getElem?_eq_getElem (by simpa using hlt)⟩
      have hfd := xy_fd hv
      obtain ⟨b, off, hbe, hc⟩ := (HXY.out.below HB.out) k v hv
      cases hbe
      rw [Nat.zero_add] at hc
      have i1 : (0 : Int) ≤ (k : Int) := by omega
      have i2 : (k : Int) < (2 : Int) := by omega
      obtain ⟨W8, hW8⟩ : ∃ W8, W8 = wr.alloc (.cells #[.string ⟨#[107]⟩, .string v] 33) := ⟨_, rfl⟩
      have hb8 : Below wr.heap.size wr W8 := by rw [hW8]; exact (Below.refl _ _).alloc (Nat.le_refl _) _
      have hb78 : Below W7.heap.size W7 W8 := HB.out.trans (hb8.mono HB.out.size)
      have e0 : W8.cell? ⟨wr.heap.size, 0, none⟩ = some (.string ⟨#[107]⟩) := by rw [hW8]; simp [go_sem]
      have e1 : W8.cell? ⟨wr.heap.size, 1, none⟩ = some (.string v) := by rw [hW8]; simp [go_sem]
      obtain ⟨L, hL⟩ : ∃ L, newX vs ⟨⟨#[107]⟩, v⟩ = L := ⟨_, rfl⟩
      have hLl : L.length ≤ 5120 := by rw [← hL]; exact Nat.le_trans (newX_len vs _) (stErr_ok.1 HST.out).1
      have hby : byX (newX vs) ⟨⟨#[107]⟩, v⟩ = L := by unfold byX; rw [if_pos hfd, hL]
      have hbe0 : byE ⟨⟨#[107]⟩, v⟩ = 0 := by unfold byE; rw [if_pos hfd]
      have hby2 : byX (noteX (newX vs) (fsOf [] id) id) ⟨⟨#[107]⟩, v⟩ = offN L id := by unfold byX; rw [if_pos hfd, note_gone, hL]
      have HBY := Lib.hid (idxBy_is ⟨⟨#[107]⟩, v⟩ W8 (HI7.out.below hb78) (by rw [hL]; omega) hby hbe0)
      have HE0 := Lib.hid e0
      have HE1 := Lib.hid e1
      have HB8 := Lib.hid hb78
      have HX8 := Lib.hid ((hb78.cell (p := ⟨bi, 0, none⟩) HBI7.out).trans HX7.out)
      have HBY2 := Lib.hid hby2
      have HBE := Lib.hid hbe0
      have HLL := Lib.hid hLl
      have HW8 := Lib.hid hW8
      have HL := Lib.hid hL
      clear hv hfd hb8 hb78 e0 e1 hL hLl hby hbe0 hby2 hW8
      go_wp2_with fail
      rw [← HW8.out]
      (with_reducible refine HBY.out.mono ?_)
      rintro e w9 ⟨A9, k9, c9, rfl, hk9, ho9, hb9⟩
      have HO9 := Lib.hid ho9
      have HK9 := Lib.hid hk9
      have HB9 := Lib.hid (HB8.out.trans (hb9.mono HB8.out.size))
      have HE0' := Lib.hid ((hb9.cell (p := ⟨wr.heap.size, 0, none⟩) (cell_lt HE0.out)).trans HE0.out)
      have HE1' := Lib.hid ((hb9.cell (p := ⟨wr.heap.size, 1, none⟩) (cell_lt HE1.out)).trans HE1.out)
      have HX9 := Lib.hid ((hb9.cell (p := ⟨bi, 0, none⟩) (cell_lt HX8.out)).trans HX8.out)
      have HNW := Lib.hid (new_ok c3 w9 (HV7.out.below HB9.out) HST.out)
      have HBX : Hid (bi < W8.heap.size) := cell_lt HX8.out
      clear hk9 ho9 hb9 HBY hc
      go_wp2_with fail
      (with_reducible refine HNW.out.mono ?_)
      rintro e w10 ⟨p2, rfl, hidx, hb10⟩
      have HIX := Lib.hid (((hidx.with).sub (Z' := fun z => z < w9.heap.size) fun z h => .inl h))
      have HB10 := Lib.hid (HB9.out.trans (hb10.mono HB9.out.size))
      have HB910 := Lib.hid hb10
      have x10 := (hb10.cell (p := ⟨bi, 0, none⟩) (cell_lt HX9.out)).trans HX9.out
      have HNT := Lib.hid (note_ok 0 id w10 HIX.out (fun z h => Nat.lt_of_lt_of_le h hb10.size) (at_nil' w10 none) st_nil' (fun f => byL_asc vs f) (fun f => Nat.le_trans (newX_len vs f) (Nat.le_trans (stErr_ok.1 HST.out).1 (by omega))) (by omega))
      clear hidx hb10 HNW
      go_wp2_with fail
      (with_reducible refine HNT.out.mono ?_)
      rintro e w11 ⟨rfl, hidx, hkp⟩
      have hb911 : Below w9.heap.size w9 w11 := HB910.out.trans (hkp.to (fun z h => h) HB910.out.size)
      have e0 := (hb911.cell (p := ⟨wr.heap.size, 0, none⟩) (cell_lt HE0'.out)).trans HE0'.out
      have e1 := (hb911.cell (p := ⟨wr.heap.size, 1, none⟩) (cell_lt HE0'.out)).trans HE1'.out
      have HX11 := Lib.hid ((hb911.cell (p := ⟨bi, 0, none⟩) (cell_lt HX9.out)).trans HX9.out)
      have HB911 := Lib.hid hb911
      have HB11 := Lib.hid (HB9.out.trans (hb911.mono HB9.out.size))
      have HO11 := Lib.hid (own_below HO9.out hb911)
      have HBZ := Lib.hid (idxBy_is ⟨⟨#[107]⟩, v⟩ w11 hidx.idx (by rw [note_gone, HL.out]; exact Nat.le_trans (List.length_filter_le _ _) (Nat.le_trans HLL.out (by omega))) HBY2.out HBE.out)
      clear hidx hkp hb911 x10 HNT
      go_wp2_with fail
      (with_reducible refine HBZ.out.mono ?_)
      rintro e w12 ⟨A12, k12, c12, rfl, hk12, ho12, hb12⟩
      have HB12 := Lib.hid (HB11.out.trans (hb12.mono HB11.out.size))
      have x12 := (hb12.cell (p := ⟨bi, 0, none⟩) (cell_lt HX11.out)).trans HX11.out
      have HX12 := Lib.hid x12
      have HO12 := Lib.hid (own_below HO11.out hb12)
      have HN12 := Lib.hid ho12
      have HK12 := Lib.hid hk12
      obtain ⟨s1, s2, s3⟩ := OwnS.at_ ho12 hk12
      have HCT := Lib.hid (contains_is (b := false) A12 (offN L id) c12 id w12 s1 hk12 (Nat.le_trans s2 s3) ⟨fun k => absurd rfl (mem_offN.1 k).2, fun k => (by cases k)⟩)
      have HM12 := Lib.hid (Nat.le_trans s2 s3)
      clear hb12 ho12 hk12 s1 s2 s3 e0 e1 HBZ
      go_wp2_with fail
      (with_reducible refine HCT.out.mono ?_)
      rintro e w13 ⟨rfl, hb13⟩
      have HB13 := Lib.hid (HB12.out.trans (hb13.mono HB12.out.size))
      have x13 := (hb13.cell (p := ⟨bi, 0, none⟩) (cell_lt HX12.out)).trans HX12.out
      have ho13 := own_below HO12.out hb13
      have hn13 := own_below HN12.out hb13
      have HDL := Lib.hid (delFunc_is A9 c9 L id w13 ho13 HK9.out x13 HBX.out)
      have HN13 := Lib.hid hn13
      have HO13 := Lib.hid ho13
      clear hb13 x13 ho13 hn13 HCT
      go_wp2_with fail
      (with_reducible refine HDL.out.mono ?_)
      rintro e w14 ⟨cd, rfl, hsd, hmd, hg14⟩
      have hne : (Value.slice A12 k12 c12).ownBlock = none ∨ (Value.slice A12 k12 c12).ownBlock ≠ A9.map (·.block) := by
        cases h : (Value.slice A12 k12 c12).ownBlock with
        | none => exact .inl rfl
        | some y =>
          refine .inr fun e => ?_
          have h1 := (World.ownsRow.lt HN13.out y h).1
          have h2 := (World.ownsRow.lt HO9.out y (by rw [ob]; exact e.symm)).2
          have h3 := HB911.out.size
          omega
      have hn14 : OwnS w11.heap.size w14 (.slice A12 k12 c12) (offN L id) := World.ownsRow.kept HN13.out hg14 hne
      obtain ⟨s1, s2, s3⟩ := OwnS.at_ hn14 HK12.out
      have hB14 : Below W7.heap.size W7 w14 := HB13.out.grown hg14 HB13.out.size (fun y hy => by
        have h1 := (World.ownsRow.lt HO9.out y (by rw [ob]; exact hy)).1
        have h2 := HB8.out.size
        omega)
      have hEQ := eqS_is (b := true) A12 A9 (offN L id) (offN L id) c12 cd w14 s1 hsd (by rw [HK12.out]; exact HM12.out) (by rw [HK12.out]; exact HM12.out) (by simp)
      rw [HK12.out] at hEQ ⊢
      have HEQ := Lib.hid hEQ
      have HB14 := Lib.hid hB14
      clear hsd hmd hg14 hne hn14 s1 s2 s3 hB14 hEQ HDL
      go_wp2_with fail
      (with_reducible refine HEQ.out.mono ?_)
      rintro e w15 ⟨rfl, hb15⟩
      have HB15 := Lib.hid (HB14.out.trans (hb15.mono HB14.out.size))
      clear hb15 HEQ
      go_wp2_with fail
      go_roundw
      case rel => exact ⟨k + 1, by omega, by go_num, HB15.out⟩
      case measure => simp [intOf]; omega
    · obtain rfl : k = 2 := by omega
      have HBE := Lib.hid (HB7.out.trans (HB.out.mono HB7.out.size))
      clear hlt
      go_wp2_with fail
      go_ret
      exact ⟨rfl, HBE.out⟩
end Go.Proofs.YtodlabohijabnaaGreatDoor
