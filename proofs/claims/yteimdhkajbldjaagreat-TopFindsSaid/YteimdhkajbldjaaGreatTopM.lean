/- What a server tells that only reads; two servers; regions by what their operations leave; what the Top laws ask. -/
import Derived.Test.YteimdhkajbldjaaGreatSrvB
import Derived.Test.YteimdhkajbldjaaGreatSFine
import Derived.BigQuiet
import Derived.Deep.CutRange
import Derived.Deep.RegionHeld3
import Derived.Orders
import Derived.Below
import Derived.Calls
import Derived.Test.YteimdhkajbldjaaGreatSrvA
import Derived.Test.YteimdhkajbldjaaGreatVAsk
import Derived.Deep.CutBlock
import Derived.Laws.OwnMore
set_option linter.unusedVariables false
set_option linter.unusedSimpArgs false
set_option maxRecDepth 100000
namespace Go.Proofs.YteimdhkajbldjaaGreat
open Go.RowKit Go.Sort

/-- what a Do that only reads leaves -/
def DoRd (X : SrvX) (o : OpL) (w : World) (e : Ending) (w' : World) : Prop :=
  ∃ P, e = .returned ((doT X o).v P) ∧ NewTold w.heap.size w' (doT X o) P ∧ Below w.heap.size w w'
theorem rd_end {X : SrvX} {w W w1 wf : World} {o : OpL} {t : ToldL} {P : ToldP} (hz : W.heap.size = w.heap.size + 3) (hA : Below w.heap.size w W) (hb : Below W.heap.size W w1)
    (k2 : Kept (fun z => z ≠ w.heap.size + 1 ∧ z ≠ w.heap.size + 2) w1 wf) (hT : NewTold W.heap.size w1 t P) (ht : doT X o = t) : DoRd X o w (.returned (t.v P)) wf := by
  subst ht
  have h1 := hA.trans (hb.mono hA.size)
  exact ⟨P, rfl, (hT.kept k2 fun b hb _ => ⟨by omega, by omega⟩).low (by omega), h1.trans (k2.to (fun z hz => ⟨by omega, by omega⟩) h1.size)⟩

set_option maxHeartbeats 8000000 in
theorem rd_4 {S p q : Nat} {F : Nat → Prop} {X : SrvX} (o : OpL) (P : OpP) (w : World) (h : Srv w S p q F X) (hF : ∀ z, F z → z < w.heap.size) (hi : o.in_ P w) (hk : o.kind = 4) :
    Calls Tryz.prog 16 #[ptr p, o.v P] w (DoRd X o w) := by
  have hC := get_of o.who o.id _ (h.boxed o P) rfl rfl
  have ht : doT X o = ⟨getC X o.who o.id, getT X o.who o.id, [], []⟩ := by unfold doT; rw [if_neg (by rw [hk]; decide), if_neg (by rw [hk]; decide), if_neg (by rw [hk]; decide), if_pos hk]
  have hx : doX X o = X := by unfold doX; rw [if_neg (by rw [hk]; decide), if_neg (by rw [hk]; decide), if_neg (by rw [hk]; decide), if_neg (by rw [hk]; decide)]
  obtain ⟨er, her⟩ : ∃ er, getC X o.who o.id = er := ⟨_, rfl⟩
  rw [her] at hC ht
  obtain ⟨L, hL⟩ : ∃ L, getT X o.who o.id = L := ⟨_, rfl⟩
  rw [hL] at hC ht
  obtain ⟨W, hW⟩ : ∃ W, W = doW o P w := ⟨_, rfl⟩
  have hA : Below w.heap.size w W := by rw [hW]; exact doW_below o P w
  have hsz : W.heap.size = w.heap.size + 3 := by rw [hW]; exact doW_size o P w
  have t1 : TB (w.heap.size + 1) W := by rw [hW]; exact doW_one o P w
  have t2 : TB (w.heap.size + 2) W := by rw [hW]; exact doW_two o P w
  have HB := Lib.hid (h.boxed o P)
  rw [← hW] at HB
  have HH := Lib.hid h
  have HT := Lib.hid ht
  have HX := Lib.hid hx
  have HA := Lib.hid hA
  have HSZ := Lib.hid hsz
  have T1 := Lib.hid t1
  have T2 := Lib.hid t2
  have HO1 := Lib.hid (off_box h 1)
  have HO2 := Lib.hid (off_box h 2)
  obtain ⟨kind, who, n, rs, r, id, f⟩ := o
  simp only at hk
  subst hk
  have HC := Lib.hid hC
  have HW := Lib.hid hW
  clear hC h hF hi ht hx her hA hsz t1 t2 hW hL
  go_enter Tryz.func16, Tryz.ntmps16
  go_wp2_with fail
  refine HC.out.mono ?_
  rintro e w1 ⟨A, m, c, rfl, hnw, hb1⟩
  have hm := hnw.at_.len.symm
  rw [← HW.out] at hb1 hnw
  have hkk : Kept (Off p q) W w1 := Kept.of hb1
  obtain ⟨d0, d1, d2, d3, y0, y1, y2, y3⟩ := T1.out.kept hkk HO1.out
  obtain ⟨e0, e1, e2, e3, z0, z1, z2, z3⟩ := T2.out.kept hkk HO2.out
  have HS1 := Lib.hid (HB.out.below hb1)
  have HBB := Lib.hid hb1
  have hsl : w.heap.size + 2 < w1.heap.size := cell_lt e0
  subst hm
  have HNW := Lib.hid hnw
  clear hkk hb1 hnw HC
  go_wp2_with fail
  refine bodyPost_ret (v := ToldL.v ⟨er, L, [], []⟩ ⟨A, c, none, 0, none, 0⟩) (by simp [results, Tryz.results16, go_sem, ToldP.none, d0, d1, d2, d3, y0, y1, y2, y3, e0, e1, e2, e3, z0, z1, z2, z3]) rfl ?_
  exact rd_end HSZ.out HA.out HBB.out (by repeat (first | (with_reducible exact Kept.refl _ _) | refine Kept.trans ?_ (Kept.setCell _ (by simp) _))) ⟨HNW.out, World.ownsRow_nil _ _ _ _, World.ownsRow_nil _ _ _ _⟩ HT.out

set_option maxHeartbeats 8000000 in
theorem rd_5 {S p q : Nat} {F : Nat → Prop} {X : SrvX} (o : OpL) (P : OpP) (w : World) (h : Srv w S p q F X) (hF : ∀ z, F z → z < w.heap.size) (hi : o.in_ P w) (hk : o.kind = 5) :
    Calls Tryz.prog 16 #[ptr p, o.v P] w (DoRd X o w) := by
  have hC := find_of o.who o.f _ (h.boxed o P) rfl rfl
  have ht : doT X o = ⟨findC X o.who o.f, [], findT X o.who o.f, []⟩ := by unfold doT; rw [if_neg (by rw [hk]; decide), if_neg (by rw [hk]; decide), if_neg (by rw [hk]; decide), if_neg (by rw [hk]; decide), if_pos hk]
  have hx : doX X o = X := by unfold doX; rw [if_neg (by rw [hk]; decide), if_neg (by rw [hk]; decide), if_neg (by rw [hk]; decide), if_neg (by rw [hk]; decide)]
  obtain ⟨er, her⟩ : ∃ er, findC X o.who o.f = er := ⟨_, rfl⟩
  rw [her] at hC ht
  obtain ⟨L, hL⟩ : ∃ L, findT X o.who o.f = L := ⟨_, rfl⟩
  rw [hL] at hC ht
  obtain ⟨W, hW⟩ : ∃ W, W = doW o P w := ⟨_, rfl⟩
  have hA : Below w.heap.size w W := by rw [hW]; exact doW_below o P w
  have hsz : W.heap.size = w.heap.size + 3 := by rw [hW]; exact doW_size o P w
  have t1 : TB (w.heap.size + 1) W := by rw [hW]; exact doW_one o P w
  have t2 : TB (w.heap.size + 2) W := by rw [hW]; exact doW_two o P w
  have HB := Lib.hid (h.boxed o P)
  rw [← hW] at HB
  have HH := Lib.hid h
  have HT := Lib.hid ht
  have HX := Lib.hid hx
  have HA := Lib.hid hA
  have HSZ := Lib.hid hsz
  have T1 := Lib.hid t1
  have T2 := Lib.hid t2
  have HO1 := Lib.hid (off_box h 1)
  have HO2 := Lib.hid (off_box h 2)
  obtain ⟨kind, who, n, rs, r, id, f⟩ := o
  simp only at hk
  subst hk
  have HC := Lib.hid hC
  have HW := Lib.hid hW
  clear hC h hF hi ht hx her hA hsz t1 t2 hW hL
  go_enter Tryz.func16, Tryz.ntmps16
  go_wp2_with fail
  refine HC.out.mono ?_
  rintro e w1 ⟨A, m, c, rfl, hm, hnw, hb1⟩
  rw [← HW.out] at hb1 hnw
  have hkk : Kept (Off p q) W w1 := Kept.of hb1
  obtain ⟨d0, d1, d2, d3, y0, y1, y2, y3⟩ := T1.out.kept hkk HO1.out
  obtain ⟨e0, e1, e2, e3, z0, z1, z2, z3⟩ := T2.out.kept hkk HO2.out
  have HS1 := Lib.hid (HB.out.below hb1)
  have HBB := Lib.hid hb1
  have hsl : w.heap.size + 2 < w1.heap.size := cell_lt e0
  subst hm
  have HNW := Lib.hid hnw
  clear hkk hb1 hnw HC
  go_wp2_with fail
  refine bodyPost_ret (v := ToldL.v ⟨er, [], L, []⟩ ⟨none, 0, A, c, none, 0⟩) (by simp [results, Tryz.results16, go_sem, ToldP.none, d0, d1, d2, d3, y0, y1, y2, y3, e0, e1, e2, e3, z0, z1, z2, z3]) rfl ?_
  exact rd_end HSZ.out HA.out HBB.out (by repeat (first | (with_reducible exact Kept.refl _ _) | refine Kept.trans ?_ (Kept.setCell _ (by simp) _))) ⟨NewW.nil _ _, HNW.out, World.ownsRow_nil _ _ _ _⟩ HT.out

set_option maxHeartbeats 8000000 in
theorem rd_6 {S p q : Nat} {F : Nat → Prop} {X : SrvX} (o : OpL) (P : OpP) (w : World) (h : Srv w S p q F X) (hF : ∀ z, F z → z < w.heap.size) (hi : o.in_ P w) (hk : o.kind = 6) :
    Calls Tryz.prog 16 #[ptr p, o.v P] w (DoRd X o w) := by
  have hC := hist_of o.who o.id _ (h.boxed o P) rfl rfl
  have ht : doT X o = ⟨histC X o.who o.id, histT X o.who o.id, [], []⟩ := by unfold doT; rw [if_neg (by rw [hk]; decide), if_neg (by rw [hk]; decide), if_neg (by rw [hk]; decide), if_neg (by rw [hk]; decide), if_neg (by rw [hk]; decide), if_pos hk]
  have hx : doX X o = X := by unfold doX; rw [if_neg (by rw [hk]; decide), if_neg (by rw [hk]; decide), if_neg (by rw [hk]; decide), if_neg (by rw [hk]; decide)]
  obtain ⟨er, her⟩ : ∃ er, histC X o.who o.id = er := ⟨_, rfl⟩
  rw [her] at hC ht
  obtain ⟨L, hL⟩ : ∃ L, histT X o.who o.id = L := ⟨_, rfl⟩
  rw [hL] at hC ht
  obtain ⟨W, hW⟩ : ∃ W, W = doW o P w := ⟨_, rfl⟩
  have hA : Below w.heap.size w W := by rw [hW]; exact doW_below o P w
  have hsz : W.heap.size = w.heap.size + 3 := by rw [hW]; exact doW_size o P w
  have t1 : TB (w.heap.size + 1) W := by rw [hW]; exact doW_one o P w
  have t2 : TB (w.heap.size + 2) W := by rw [hW]; exact doW_two o P w
  have HB := Lib.hid (h.boxed o P)
  rw [← hW] at HB
  have HH := Lib.hid h
  have HT := Lib.hid ht
  have HX := Lib.hid hx
  have HA := Lib.hid hA
  have HSZ := Lib.hid hsz
  have T1 := Lib.hid t1
  have T2 := Lib.hid t2
  have HO1 := Lib.hid (off_box h 1)
  have HO2 := Lib.hid (off_box h 2)
  obtain ⟨kind, who, n, rs, r, id, f⟩ := o
  simp only at hk
  subst hk
  have HC := Lib.hid hC
  have HW := Lib.hid hW
  clear hC h hF hi ht hx her hA hsz t1 t2 hW hL
  go_enter Tryz.func16, Tryz.ntmps16
  go_wp2_with fail
  refine HC.out.mono ?_
  rintro e w1 ⟨A, m, c, rfl, hnw, hb1⟩
  have hm := hnw.at_.len.symm
  rw [← HW.out] at hb1 hnw
  have hkk : Kept (Off p q) W w1 := Kept.of hb1
  obtain ⟨d0, d1, d2, d3, y0, y1, y2, y3⟩ := T1.out.kept hkk HO1.out
  obtain ⟨e0, e1, e2, e3, z0, z1, z2, z3⟩ := T2.out.kept hkk HO2.out
  have HS1 := Lib.hid (HB.out.below hb1)
  have HBB := Lib.hid hb1
  have hsl : w.heap.size + 2 < w1.heap.size := cell_lt e0
  subst hm
  have HNW := Lib.hid hnw
  clear hkk hb1 hnw HC
  go_wp2_with fail
  refine bodyPost_ret (v := ToldL.v ⟨er, L, [], []⟩ ⟨A, c, none, 0, none, 0⟩) (by simp [results, Tryz.results16, go_sem, ToldP.none, d0, d1, d2, d3, y0, y1, y2, y3, e0, e1, e2, e3, z0, z1, z2, z3]) rfl ?_
  exact rd_end HSZ.out HA.out HBB.out (by repeat (first | (with_reducible exact Kept.refl _ _) | refine Kept.trans ?_ (Kept.setCell _ (by simp) _))) ⟨HNW.out, World.ownsRow_nil _ _ _ _, World.ownsRow_nil _ _ _ _⟩ HT.out

set_option maxHeartbeats 8000000 in
theorem rd_8 {S p q : Nat} {F : Nat → Prop} {X : SrvX} (o : OpL) (P : OpP) (w : World) (h : Srv w S p q F X) (hF : ∀ z, F z → z < w.heap.size) (hi : o.in_ P w) (hk : o.kind = 8) :
    Calls Tryz.prog 16 #[ptr p, o.v P] w (DoRd X o w) := by
  have hC := audit_of o.who _ (h.boxed o P) rfl rfl
  have ht : doT X o = ⟨chkE X o.who 255, [], [], auditT X o.who⟩ := by unfold doT; rw [if_neg (by rw [hk]; decide), if_neg (by rw [hk]; decide), if_neg (by rw [hk]; decide), if_neg (by rw [hk]; decide), if_neg (by rw [hk]; decide), if_neg (by rw [hk]; decide), if_neg (by rw [hk]; decide), if_pos hk]
  have hx : doX X o = X := by unfold doX; rw [if_neg (by rw [hk]; decide), if_neg (by rw [hk]; decide), if_neg (by rw [hk]; decide), if_neg (by rw [hk]; decide)]
  obtain ⟨er, her⟩ : ∃ er, chkE X o.who 255 = er := ⟨_, rfl⟩
  rw [her] at hC ht
  obtain ⟨L, hL⟩ : ∃ L, auditT X o.who = L := ⟨_, rfl⟩
  rw [hL] at hC ht
  obtain ⟨W, hW⟩ : ∃ W, W = doW o P w := ⟨_, rfl⟩
  have hA : Below w.heap.size w W := by rw [hW]; exact doW_below o P w
  have hsz : W.heap.size = w.heap.size + 3 := by rw [hW]; exact doW_size o P w
  have t1 : TB (w.heap.size + 1) W := by rw [hW]; exact doW_one o P w
  have t2 : TB (w.heap.size + 2) W := by rw [hW]; exact doW_two o P w
  have HB := Lib.hid (h.boxed o P)
  rw [← hW] at HB
  have HH := Lib.hid h
  have HT := Lib.hid ht
  have HX := Lib.hid hx
  have HA := Lib.hid hA
  have HSZ := Lib.hid hsz
  have T1 := Lib.hid t1
  have T2 := Lib.hid t2
  have HO1 := Lib.hid (off_box h 1)
  have HO2 := Lib.hid (off_box h 2)
  obtain ⟨kind, who, n, rs, r, id, f⟩ := o
  simp only at hk
  subst hk
  have HC := Lib.hid hC
  have HW := Lib.hid hW
  clear hC h hF hi ht hx her hA hsz t1 t2 hW hL
  go_enter Tryz.func16, Tryz.ntmps16
  go_wp2_with fail
  refine HC.out.mono ?_
  rintro e w1 ⟨A, m, c, rfl, hm, hnw, hb1⟩
  rw [← HW.out] at hb1 hnw
  have hkk : Kept (Off p q) W w1 := Kept.of hb1
  obtain ⟨d0, d1, d2, d3, y0, y1, y2, y3⟩ := T1.out.kept hkk HO1.out
  obtain ⟨e0, e1, e2, e3, z0, z1, z2, z3⟩ := T2.out.kept hkk HO2.out
  have HS1 := Lib.hid (HB.out.below hb1)
  have HBB := Lib.hid hb1
  have hsl : w.heap.size + 2 < w1.heap.size := cell_lt e0
  subst hm
  have HNW := Lib.hid hnw
  clear hkk hb1 hnw HC
  go_wp2_with fail
  refine bodyPost_ret (v := ToldL.v ⟨er, [], [], L⟩ ⟨none, 0, none, 0, A, c⟩) (by simp [results, Tryz.results16, go_sem, ToldP.none, d0, d1, d2, d3, y0, y1, y2, y3, e0, e1, e2, e3, z0, z1, z2, z3]) rfl ?_
  exact rd_end HSZ.out HA.out HBB.out (by repeat (first | (with_reducible exact Kept.refl _ _) | refine Kept.trans ?_ (Kept.setCell _ (by simp) _))) ⟨NewW.nil _ _, World.ownsRow_nil _ _ _ _, HNW.out⟩ HT.out

set_option maxHeartbeats 8000000 in
theorem rd_0 {S p q : Nat} {F : Nat → Prop} {X : SrvX} (o : OpL) (P : OpP) (w : World) (h : Srv w S p q F X) (hk : o.kind ≠ 1 ∧ o.kind ≠ 2 ∧ o.kind ≠ 3 ∧ o.kind ≠ 4 ∧ o.kind ≠ 5 ∧ o.kind ≠ 6 ∧ o.kind ≠ 7 ∧ o.kind ≠ 8) :
    Calls Tryz.prog 16 #[ptr p, o.v P] w (DoRd X o w) := by
  obtain ⟨h1, h2, h3, h4, h5, h6, h7, h8⟩ := hk
  have HT : Hid (doT X o = ⟨3, [], [], []⟩) := by show _ = _; unfold doT; rw [if_neg h1, if_neg h2, if_neg h3, if_neg h4, if_neg h5, if_neg h6, if_neg h7, if_neg h8]
  have HX : Hid (doX X o = X) := by show _ = _; unfold doX; rw [if_neg h1, if_neg h2, if_neg h3, if_neg h7]
  have HB := Lib.hid (h.boxed o P)
  have HH := Lib.hid h
  have HA := Lib.hid (doW_below o P w)
  have HSZ := Lib.hid (doW_size o P w)
  obtain ⟨kind, who, n, rs, r, id, f⟩ := o
  simp only at h1 h2 h3 h4 h5 h6 h7 h8
  have g1 : (kind == 1) = false := by simpa using h1
  have g2 : (kind == 2) = false := by simpa using h2
  have g3 : (kind == 3) = false := by simpa using h3
  have g4 : (kind == 4) = false := by simpa using h4
  have g5 : (kind == 5) = false := by simpa using h5
  have g6 : (kind == 6) = false := by simpa using h6
  have g7 : (kind == 7) = false := by simpa using h7
  have g8 : (kind == 8) = false := by simpa using h8
  clear h
  go_enter Tryz.func16, Tryz.ntmps16
  go_wp2_with fail
  refine bodyPost_ret (v := ToldL.v ⟨3, [], [], []⟩ ToldP.none) (by simp [results, Tryz.results16, go_sem, ToldP.none]) rfl ?_
  unfold DoRd
  rw [HT.out]
  have hb := (((Below.refl w.heap.size w).alloc (Nat.le_refl _) (.cells #[.int .i64 kind, .int .i64 who.role, .int .i64 who.why, .int .i64 who.time, .slice P.ra n P.rc, .string r.id, .int .i64 r.cats, .slice P.p.fa r.fs.length P.p.fc, .slice P.p.ra r.rs.length P.p.rc, .string id, .string f.key, .string f.val] 39)).alloc (by simp) (.cells #[.int .i64 3, .slice none 0 0, .slice none 0 0, .slice none 0 0] 48)).alloc (by simp; omega) (.cells #[.int .i64 3, .slice none 0 0, .slice none 0 0, .slice none 0 0] 48)
  exact ⟨ToldP.none, rfl, NewTold.bare _ _ _, hb⟩

def RdIs (T : ToldL) (w : World) (e : Ending) (w' : World) : Prop :=
  ∃ P : ToldP, e = .returned (.agg #[.int .i64 T.code, .slice P.va T.vs.length P.vc, .slice P.ia T.ids.length P.ic, .slice P.na T.ns.length P.nc]) ∧ NewTold w.heap.size w' T P ∧ Below w.heap.size w w'
theorem do_read {S p q : Nat} {F : Nat → Prop} {X : SrvX} {T : ToldL} (o : OpL) (P : OpP) (w : World) (h : Srv w S p q F X) (hF : ∀ z, F z → z < w.heap.size) (hi : o.in_ P w) (hk : o.kind ≠ 1 ∧ o.kind ≠ 2 ∧ o.kind ≠ 3 ∧ o.kind ≠ 7) (hT : doT X o = T) :
    Calls Tryz.prog 16 #[ptr p, o.v P] w (RdIs T w) := by
  subst hT
  obtain ⟨h1, h2, h3, h7⟩ := hk
  by_cases h4 : o.kind = 4
  · exact rd_4 o P w h hF hi h4
  by_cases h5 : o.kind = 5
  · exact rd_5 o P w h hF hi h5
  by_cases h6 : o.kind = 6
  · exact rd_6 o P w h hF hi h6
  by_cases h8 : o.kind = 8
  · exact rd_8 o P w h hF hi h8
  exact rd_0 o P w h ⟨h1, h2, h3, h4, h5, h6, h7, h8⟩
end Go.Proofs.YteimdhkajbldjaaGreat
namespace Go.Proofs.YteimdhkajbldjaaGreat
open Go.RowKit Go.Sort

/-- blocks pa and pb are servers that have X and Y, neither of whose blocks are the other's; since the world w3, in which their notes lay at ra and rb, nothing but theirs, and what is new, has changed -/
structure LpQ (S pa pb ra rb : Nat) (w3 : World) (qa qb : Nat) (X Y : SrvX) (w : World) : Prop where
  a : Srv w S pa qa (fun z => z = pb ∨ z = qb) X
  b : Srv w S pb qb (fun z => z = pa ∨ z = qa) Y
  na : qa = ra ∨ w3.heap.size ≤ qa
  nb : qb = rb ∨ w3.heap.size ≤ qb
  k : Kept (fun z => (z ≠ pa ∧ z ≠ ra) ∧ (z ≠ pb ∧ z ≠ rb)) w3 w
section
variable {S pa pb ra rb qa qb : Nat} {w3 : World} {X X' Y : SrvX} {w w' : World} {T : ToldL}
theorem LpQ.swap (h : LpQ S pa pb ra rb w3 qa qb X Y w) : LpQ S pb pa rb ra w3 qb qa Y X w :=
  ⟨h.b, h.a, h.nb, h.na, h.k.sub fun z _ hz => ⟨hz.2, hz.1⟩⟩
theorem LpQ.below (h : LpQ S pa pb ra rb w3 qa qb X Y w) (hb : Below w.heap.size w w') : LpQ S pa pb ra rb w3 qa qb X Y w' :=
  ⟨h.a.below hb, h.b.below hb, h.na, h.nb, h.k.trans (Kept.of hb)⟩
theorem LpQ.far (h : LpQ S pa pb ra rb w3 qa qb X Y w) (hr : S ≤ ra ∧ S ≤ rb) (hS : S ≤ w3.heap.size) : Below S w3 w :=
  h.k.to (fun z hz => by have h1 := h.a.sp; have h2 := h.b.sp; exact ⟨⟨by omega, by omega⟩, by omega, by omega⟩) hS
theorem LpQ.base (h : LpQ S pa pb ra rb w3 qa qb X Y w) : LpQ S pa pb qa qb w qa qb X Y w := ⟨h.a, h.b, .inl rfl, .inl rfl, Kept.refl _ _⟩
theorem LpQ.lt (h : LpQ S pa pb ra rb w3 qa qb X Y w) : pa < w.heap.size ∧ qa < w.heap.size ∧ pb < w.heap.size ∧ qb < w.heap.size := ⟨h.a.pw, h.a.qw, h.b.pw, h.b.qw⟩
theorem LpQ.ge (h : LpQ S pa pb ra rb w3 qa qb X Y w) : S ≤ pa ∧ S ≤ qa ∧ S ≤ pb ∧ S ≤ qb := ⟨h.a.sp, h.a.sq, h.b.sp, h.b.sq⟩
/-- what Do of the first one leaves -/
def LpIsQ (S pa pb ra rb : Nat) (w3 : World) (qa qb : Nat) (T : ToldL) (X' Y : SrvX) (w : World) (e : Ending) (w' : World) : Prop :=
  ∃ (P : ToldP) (qa' : Nat), e = .returned (.agg #[.int .i64 T.code, .slice P.va T.vs.length P.vc, .slice P.ia T.ids.length P.ic, .slice P.na T.ns.length P.nc]) ∧ NewTold w.heap.size w' T P ∧ LpQ S pa pb ra rb w3 qa' qb X' Y w' ∧ (qa' = qa ∨ w.heap.size ≤ qa') ∧ Kept (Off pa qa) w w'
theorem LpQ.doing (h : LpQ S pa pb ra rb w3 qa qb X Y w) (o : OpL) (P : OpP) (hi : o.in_ P w) (hT : doT X o = T) (hX : doX X o = X') :
    Calls Tryz.prog 16 #[ptr pa, o.v P] w (LpIsQ S pa pb ra rb w3 qa qb T X' Y w) := by
  have hpb := h.b.pw
  have hqb := h.b.qw
  have hsz := h.k.size
  refine (do_to o P w h.a (fun z hz => by rcases hz with rfl | rfl <;> assumption) hi hT hX).mono ?_
  rintro e w' ⟨P', q', rfl, hn, hs, hq, hk⟩
  have k3 : Kept (fun z => ((z ≠ pa ∧ z ≠ ra) ∧ (z ≠ pb ∧ z ≠ rb)) ∧ z < w3.heap.size) w3 w' := (h.k.sub fun z _ hz => hz.1).trans (hk.sub fun z _ hz => ⟨hz.1.1.1, fun e => by
    rcases h.na with e2 | e2
    · exact hz.1.1.2 (e.trans e2)
    · omega⟩)
  refine ⟨P', q', rfl, hn, ⟨hs, h.b.keep (hk.sub fun z _ hz => ⟨fun e => hz (.inl e), fun e => hz (.inr e)⟩) (fun z hl hz => ?_), ?_, h.nb, k3.sub fun z hl hz => ⟨hz, hl⟩⟩, hq, hk⟩
  · rcases hz with hz | hz
    · exact .inl hz
    · rcases hq with e | e
      · exact .inr (hz.trans e)
      · omega
  · rcases hq with e | e
    · rw [e]; exact h.na
    · exact .inr (by omega)
theorem LpQ.reading (h : LpQ S pa pb ra rb w3 qa qb X Y w) (o : OpL) (P : OpP) (hi : o.in_ P w) (hk : o.kind ≠ 1 ∧ o.kind ≠ 2 ∧ o.kind ≠ 3 ∧ o.kind ≠ 7) (hT : doT X o = T) :
    Calls Tryz.prog 16 #[ptr pa, o.v P] w (RdIs T w) := by
  have hpb := h.b.pw
  have hqb := h.b.qw
  exact do_read o P w h.a (fun z hz => by rcases hz with rfl | rfl <;> assumption) hi hk hT
theorem LpQ.rules {n : Nat} (h : LpQ S pa pb ra rb w3 qa qb X Y w) (hn : X.n = n) : Calls Tryz.prog 15 #[ptr pa] w (RulesTo n X.rs w) := rules_of w h.a hn
theorem LpQ.versions {L : List VerL} (h : LpQ S pa pb ra rb w3 qa qb X Y w) (hL : X.vs = L) : Calls Tryz.prog 18 #[ptr pa] w (VersTo L w) := versions_of w h.a hL
/-- two that were made one after the other -/
theorem LpQ.start (ha : Srv w S pa pa (fun _ => False) X) (hb : Srv w3 w.heap.size pb pb (fun z => z = pa) Y) (h : Below w.heap.size w w3) (hS : S ≤ w.heap.size) : LpQ S pa pb pa pb w3 pa pb X Y w3 := by
  have hpa := ha.pw
  have hpb := hb.sp
  have hne : pa ≠ pb := by omega
  refine ⟨?_, ?_, .inl rfl, .inl rfl, Kept.refl _ _⟩
  · refine ha.keep ((Kept.of h (Z := fun _ => True)).sub fun _ _ _ => trivial) (fun z hl hz => ?_)
    rcases hz with rfl | rfl <;> omega
  · have h2 := hb.sub (F' := fun z => z = pa ∨ z = pa) (fun z _ hz => by rcases hz with hz | hz <;> exact hz)
    exact ⟨Nat.le_trans hS h2.sp, Nat.le_trans hS h2.sq, h2.fp, h2.fq, h2.pw, h2.qw, h2.fz, h2.c0, h2.c1, h2.c2, h2.c3, h2.ok⟩
end

/-! ## one to who sees just some kinds -/
/-- Y has of X's versions those of the kinds s -/
structure Sim (s : Nat) (X Y : SrvX) : Prop where
  m : Y.m = X.m
  u : Y.u = X.u
  n : Y.n = X.n
  rs : Y.rs = X.rs
  vs : Y.vs = prt X.vs (s : Int)
theorem Sim.see {s : Nat} {X Y : SrvX} (h : Sim s X Y) (x : WhoL) : seE Y x = seE X x ∧ seV Y x = seV X x ∧ ∀ c, chkE Y x c = chkE X x c := by
  obtain ⟨h1, h2, h3, h4, _⟩ := h
  refine ⟨?_, ?_, fun c => ?_⟩
  · unfold seE SrvX.zi
    rw [h1, h2, h3, h4]
  · unfold seV SrvX.zi
    rw [h1, h2, h3, h4]
  · unfold chkE maE maV SrvX.zi
    rw [h1, h2, h3, h4]
theorem and_sub {a s : Nat} (ha : a ≤ 255) (hs : s ≤ 255) (h : sub a s = 0) : s &&& a = a := by
  have := (sub_zero (a := a) (b := s) (by omega) (by omega)).1 h
  apply Nat.eq_of_testBit_eq
  intro i
  rw [Nat.testBit_and]
  cases hi : a.testBit i with
  | false => simp
  | true => rw [this i hi]; rfl
theorem Sim.seen {s : Nat} {X Y : SrvX} (h : Sim s X Y) (hok : X.Ok) (hs : s ≤ 255) {x : WhoL} (hx : sub (seV X x) s = 0) : seenL Y x = seenL X x := by
  unfold seenL
  rw [(h.see x).2.1, h.vs, prt_prt (stErr_ok.1 hok.st).2 hs (seV_le X x), and_sub (seV_le X x) hs hx]
theorem Sim.putC {s : Nat} {X Y : SrvX} (h : Sim s X Y) (hok : X.Ok) {x : WhoL} {r : RecL} (hr : among r.cats (s : Int) = true) : putC Y x r = putC X x r := by
  have hY : stErr (prt X.vs (s : Int)) = 0 := prt_st hok.st _
  unfold Go.Proofs.YteimdhkajbldjaaGreat.putC putErr
  rw [(h.see x).2.2, h.vs, same_prt_in hr, if_neg (c := stErr (prt X.vs (s : Int)) ≠ 0) (fun k => k hY), if_neg (c := stErr X.vs ≠ 0) (fun k => k hok.st)]
theorem Sim.cutC {s : Nat} {X Y : SrvX} (h : Sim s X Y) (hok : X.Ok) {x : WhoL} {id : ByteArray} {c : Int} (hr : among c (s : Int) = true) : cutC Y x id c = cutC X x id c := by
  have hY : stErr (prt X.vs (s : Int)) = 0 := prt_st hok.st _
  unfold Go.Proofs.YteimdhkajbldjaaGreat.cutC cutErr
  rw [(h.see x).2.2, h.vs, same_prt_in hr, lives_prt, hr, Bool.true_and, if_neg (c := stErr (prt X.vs (s : Int)) ≠ 0) (fun k => k hY), if_neg (c := stErr X.vs ≠ 0) (fun k => k hok.st)]
theorem Sim.vset {s : Nat} {X Y : SrvX} (h : Sim s X Y) {vs : List VerL} {vs' : List VerL} (hv : vs' = prt vs (s : Int)) : Sim s { X with vs := vs } { Y with vs := vs' } := ⟨h.m, h.u, h.n, h.rs, hv⟩
/-- what is hidden changes nothing -/
theorem Sim.hide {s : Nat} {X Y : SrvX} (h : Sim s X Y) {o : OpL} (hk : o.kind = 2 ∨ o.kind = 3) (hr : among o.r.cats (s : Int) = false) : Sim s (doX X o) Y := by
  rcases hk with hk | hk
  · rw [doX_2 hk]
    unfold putS
    split
    · refine ⟨h.m, h.u, h.n, h.rs, ?_⟩
      show Y.vs = prt (X.vs ++ _) _
      rw [prt_append, prt_one, if_neg (by simp [hr]), List.append_nil, h.vs]
    · exact h
  · rw [doX_3 hk]
    unfold cutS
    split
    · refine ⟨h.m, h.u, h.n, h.rs, ?_⟩
      show Y.vs = prt (X.vs ++ _) _
      rw [prt_append, prt_one, if_neg (by show ¬ among o.r.cats _ = true; simp [hr]), List.append_nil, h.vs]
    · exact h
/-- what is only read, or noted, changes nothing -/
theorem Sim.still {s : Nat} {X Y : SrvX} (h : Sim s X Y) {o : OpL} (h1 : o.kind ≠ 1) (h2 : o.kind ≠ 2) (h3 : o.kind ≠ 3) : Sim s (doX X o) Y := by
  unfold doX
  rw [if_neg h1, if_neg h2, if_neg h3]
  split
  · unfold needS
    split
    · exact ⟨h.m, h.u, h.n, h.rs, h.vs⟩
    · exact h
  · exact h
/-- what both do -/
theorem Sim.both {s : Nat} {X Y : SrvX} (h : Sim s X Y) (hok : X.Ok) {o : OpL} (h7 : o.kind ≠ 7) (hr : o.kind = 2 ∨ o.kind = 3 → among o.r.cats (s : Int) = true) : Sim s (doX X o) (doX Y o) := by
  by_cases h1 : o.kind = 1
  · rw [doX_1 h1, doX_1 h1]
    unfold setS
    split
    · exact ⟨h.m, h.u, rfl, rfl, h.vs⟩
    · exact h
  by_cases h2 : o.kind = 2
  · have hr := hr (.inl h2)
    rw [doX_2 h2, doX_2 h2]
    unfold putS
    rw [h.putC hok hr]
    split
    · refine ⟨h.m, h.u, h.n, h.rs, ?_⟩
      show Y.vs ++ _ = prt (X.vs ++ _) _
      rw [prt_append, prt_one, if_pos hr, h.vs]
    · exact h
  by_cases h3 : o.kind = 3
  · have hr := hr (.inr h3)
    rw [doX_3 h3, doX_3 h3]
    unfold cutS
    rw [h.cutC hok hr]
    split
    · refine ⟨h.m, h.u, h.n, h.rs, ?_⟩
      show Y.vs ++ _ = prt (X.vs ++ _) _
      rw [prt_append, prt_one, if_pos (by exact hr), h.vs]
    · exact h
  have e : ∀ Z : SrvX, doX Z o = Z := fun Z => by
    unfold doX
    rw [if_neg h1, if_neg h2, if_neg h3, if_neg h7]
  rw [e, e]
  exact h
/-- what both are told -/
theorem Sim.told {s : Nat} {X Y : SrvX} (h : Sim s X Y) (hok : X.Ok) (hs : s ≤ 255) {o : OpL} (h7 : o.kind ≠ 7) (h8 : o.kind ≠ 8) (hr : o.kind = 2 ∨ o.kind = 3 → among o.r.cats (s : Int) = true)
    (hv : o.kind = 1 ∨ o.kind = 2 ∨ o.kind = 3 ∨ sub (seV X o.who) s = 0) : doT Y o = doT X o := by
  by_cases h1 : o.kind = 1
  · rw [doT_1 h1, doT_1 h1]
  by_cases h2 : o.kind = 2
  · rw [doT_2 h2, doT_2 h2, h.putC hok (hr (.inl h2))]
  by_cases h3 : o.kind = 3
  · rw [doT_3 h3, doT_3 h3, h.cutC hok (hr (.inr h3))]
  have hx : sub (seV X o.who) s = 0 := by
    rcases hv with k | k | k | k
    · exact absurd k h1
    · exact absurd k h2
    · exact absurd k h3
    · exact k
  have hse := (h.see o.who).1
  have hl := h.seen hok hs hx
  by_cases h4 : o.kind = 4
  · rw [doT_4 h4, doT_4 h4]
    unfold getT getC
    rw [hse, hl]
  by_cases h5 : o.kind = 5
  · rw [doT_5 h5, doT_5 h5]
    unfold findT findC
    rw [hse, hl]
  by_cases h6 : o.kind = 6
  · rw [doT_6 h6, doT_6 h6]
    unfold histT histC
    rw [hse, hl]
  · unfold doT
    simp only [if_neg h1, if_neg h2, if_neg h3, if_neg h4, if_neg h5, if_neg h6, if_neg h7, if_neg h8]

/-! ## two records in either order -/
noncomputable def addV (X : SrvX) (x : WhoL) (r : RecL) : List VerL := if Go.Proofs.YteimdhkajbldjaaGreat.putC X x r = 0 then [⟨r, false⟩] else []
theorem putS_eq (X : SrvX) (x : WhoL) (r : RecL) : putS X x r = { X with vs := X.vs ++ addV X x r } := by
  unfold putS addV
  split
  · rfl
  · rw [List.append_nil]
theorem putC_after {X : SrvX} (hok : X.Ok) (x : WhoL) {a b : RecL} (hc : a.cats ≠ b.cats) : Go.Proofs.YteimdhkajbldjaaGreat.putC (putS X x a) x b = Go.Proofs.YteimdhkajbldjaaGreat.putC X x b := by
  have hok' := hok.put x a
  have e := putS_eq X x a
  have hst : stErr (X.vs ++ addV X x a) = 0 := by
    have := hok'.st
    rw [e] at this
    exact this
  have hchk : chkE (putS X x a) x b.cats = chkE X x b.cats := by rw [e]; rfl
  have hvs : (putS X x a).vs = X.vs ++ addV X x a := by rw [e]
  have hsame : same (X.vs ++ addV X x a) b.cats = same X.vs b.cats := by
    rw [same_append]
    unfold addV
    split
    · have := same_snoc [] ⟨a, false⟩ b.cats
      rw [if_neg (by exact hc)] at this
      simp only [List.nil_append, same_nil, Nat.add_zero] at this
      rw [this]
      rfl
    · rw [same_nil, Nat.add_zero]
  unfold Go.Proofs.YteimdhkajbldjaaGreat.putC putErr
  rw [hchk, hvs, hsame, if_neg (c := stErr (X.vs ++ addV X x a) ≠ 0) (fun k => k hst), if_neg (c := stErr X.vs ≠ 0) (fun k => k hok.st)]
theorem addV_after {X : SrvX} (hok : X.Ok) (x : WhoL) {a b : RecL} (hc : a.cats ≠ b.cats) : addV (putS X x a) x b = addV X x b := by
  unfold addV
  rw [putC_after hok x hc]
theorem hist_addV (X : SrvX) (x : WhoL) {a : RecL} {id : ByteArray} (m : Int) (h : a.id ≠ id) : hist (prt (addV X x a) m) id = [] := by
  rw [hist_prt]
  have : hist (addV X x a) id = [] := by
    unfold hist
    rw [List.filter_eq_nil_iff]
    intro v hv
    unfold addV at hv
    split at hv
    · rw [List.mem_singleton] at hv
      subst hv
      exact fun k => h (sEq_iff.1 k)
    · simp at hv
  rw [this]
  rfl
/-- of each of the names the same versions are seen -/
theorem apart_hist {X : SrvX} (hok : X.Ok) (x : WhoL) {a b : RecL} (hi : a.id ≠ b.id) (hc : a.cats ≠ b.cats) (m : Int) {id : ByteArray} (hid : id = a.id ∨ id = b.id) :
    hist (prt (putS (putS X x a) x b).vs m) id = hist (prt (putS (putS X x b) x a).vs m) id := by
  have e1 : (putS (putS X x a) x b).vs = X.vs ++ addV X x a ++ addV X x b := by
    rw [putS_eq (putS X x a), addV_after hok x hc, putS_eq X x a]
  have e2 : (putS (putS X x b) x a).vs = X.vs ++ addV X x b ++ addV X x a := by
    rw [putS_eq (putS X x b), addV_after hok x (Ne.symm hc), putS_eq X x b]
  have happ : ∀ l k : List VerL, hist (prt (l ++ k) m) id = hist (prt l m) id ++ hist (prt k m) id := fun l k => by
    rw [prt_append]
    exact List.filter_append _ _
  rw [e1, e2, happ, happ, happ, happ]
  rcases hid with rfl | rfl
  · rw [hist_addV X x m (a := b) (Ne.symm hi)]
    simp
  · rw [hist_addV X x m (a := a) hi]
    simp
theorem putS_see (X : SrvX) (x y : WhoL) (r : RecL) : seE (putS X x r) y = seE X y ∧ seV (putS X x r) y = seV X y := by
  rw [putS_eq]
  exact ⟨rfl, rfl⟩
/-- what is told of them -/
theorem apart_told {X : SrvX} (hok : X.Ok) (x y : WhoL) {a b : RecL} (hi : a.id ≠ b.id) (hc : a.cats ≠ b.cats) {id : ByteArray} (hid : id = a.id ∨ id = b.id) (o : OpL) (hw : o.who = y) (ho : o.id = id) (hk : o.kind = 4 ∨ o.kind = 6) :
    doT (putS (putS X x a) x b) o = doT (putS (putS X x b) x a) o := by
  subst hw ho
  obtain ⟨X1, h1⟩ : ∃ X1, putS (putS X x a) x b = X1 := ⟨_, rfl⟩
  obtain ⟨X2, h2⟩ : ∃ X2, putS (putS X x b) x a = X2 := ⟨_, rfl⟩
  have hh := fun m : Int => apart_hist hok x hi hc m hid
  have o1 : X1.Ok := by rw [← h1]; exact (hok.put x a).put x b
  have o2 : X2.Ok := by rw [← h2]; exact (hok.put x b).put x a
  have s1 : ∀ y, seE X1 y = seE X2 y ∧ seV X1 y = seV X2 y := fun y => by
    rw [← h1, ← h2, (putS_see _ x y b).1, (putS_see _ x y b).2, (putS_see _ x y a).1, (putS_see _ x y a).2, (putS_see _ x y a).1, (putS_see _ x y a).2, (putS_see _ x y b).1, (putS_see _ x y b).2]
    exact ⟨rfl, rfl⟩
  rw [h1, h2] at *
  have hH : hist (seenL X1 o.who) o.id = hist (seenL X2 o.who) o.id := by
    unfold seenL
    rw [(s1 o.who).2]
    exact hh _
  have t1 : stErr (seenL X1 o.who) = 0 := prt_st o1.st _
  have t2 : stErr (seenL X2 o.who) = 0 := prt_st o2.st _
  rcases hk with h4 | h6
  · have hg : getV (seenL X1 o.who) o.id = getV (seenL X2 o.who) o.id := by rw [← getV_hist, hH, getV_hist]
    obtain ⟨g1, g2⟩ := get_congr t1 t2 hg
    rw [doT_4 h4, doT_4 h4]
    unfold getT getC
    rw [(s1 o.who).1, g1, g2]
  · rw [doT_6 h6, doT_6 h6]
    unfold histT histC histErr
    rw [(s1 o.who).1, hH, if_neg (c := stErr (seenL X1 o.who) ≠ 0) (fun k => k t1), if_neg (c := stErr (seenL X2 o.who) ≠ 0) (fun k => k t2)]
end Go.Proofs.YteimdhkajbldjaaGreat
namespace Go.Proofs.YteimdhkajbldjaaGreat
open Go.RowKit Go.Sort

def recZ : RecL := ⟨⟨#[97]⟩, 0, [], []⟩
theorem recZ_ok : recZ.Ok := RecL.okBare (by decide) (by decide)
theorem recZ_in (w : World) : recZ.in_ At.none w := (NewRec.none 0 w ⟨#[97]⟩ 0).in_
set_option maxHeartbeats 1000000 in
theorem topBegun_is (w : World) : Calls Tryz.prog 45 #[] w fun e w' => e = .returned (.bool true) ∧ Below w.heap.size w w' := by
  have h0 : stErr ([] : List VerL) = 0 := stErr_ok.2 ⟨Nat.zero_le _, stOk_nil⟩
  obtain ⟨p1, p2⟩ := putErr_yes (l := []) (r := recZ) h0 ((recZ.err_ok).2 recZ_ok) (by rw [same_nil]; omega)
  have HP := Lib.hid (put_is (n := 0) 0 recZ At.none w (VsAt.nil w none) (Nat.zero_le _) (recZ_in w) p2 p1)
  clear h0 p1 p2
  go_enter Tryz.func45, Tryz.ntmps45
  go_wp2_with fail
  refine HP.out.mono ?_
  rintro e w1 ⟨A, m, c', rfl, hnw, hb1⟩
  obtain rfl : m = 1 := hnw.at_.len
  have HB1 := Lib.hid hb1
  clear hnw hb1
  go_wp2_with fail
  go_ret
  exact ⟨rfl, HB1.out⟩
end Go.Proofs.YteimdhkajbldjaaGreat
namespace Go.Proofs.YteimdhkajbldjaaGreat
open Go.RowKit Go.Sort

def bgR : Nat → RuleL
  | 0 => ⟨0, -1, 0, 40, 1, true⟩
  | 1 => ⟨1, -1, 0, 40, 3, true⟩
  | _ => ⟨2, -1, 0, 40, 255, true⟩
theorem bgR_ok : rulesErr 3 bgR = 0 := by decide
def bgX : SrvX := ⟨3, fun k => k, 3, bgR, [], []⟩
def opBg : OpL := ⟨1, ⟨0, 0, 0⟩, 3, bgR, RecL.zero, ⟨#[]⟩, ⟨⟨#[]⟩, ⟨#[]⟩⟩⟩
theorem bg_all : doT (bareX 3 fun k => k) opBg = ⟨0, [], [], []⟩ ∧ doX (bareX 3 fun k => k) opBg = bgX := by
  constructor
  · rw [doT_1 rfl]
    show (⟨rulesErr 3 bgR, [], [], []⟩ : ToldL) = _
    rw [bgR_ok]
  · rw [doX_1 rfl]
    show setS _ 3 bgR = _
    unfold setS
    rw [if_pos bgR_ok]
    rfl
theorem bgX_ok : bgX.Ok := by
  have := (bareX_ok (m := 3) (u := fun k => k) (by decide)).doX opBg
  rwa [bg_all.2] at this
def BeganTo (F : Nat → Prop) (w : World) (e : Ending) (w' : World) : Prop := ∃ p q, e = .returned (.tuple #[ptr p, .bool true]) ∧ Srv w' w.heap.size p q F bgX ∧ Below w.heap.size w w'
set_option maxHeartbeats 8000000 in
theorem began_is (F : Nat → Prop) (w : World) (hF : ∀ z, F z → z < w.heap.size) : Calls Tryz.prog 46 #[] w (BeganTo F w) := by
  obtain ⟨W, hW⟩ : ∃ W, W = w.alloc (.cells #[.int .i64 0, .int .i64 1, .int .i64 2] 3) := ⟨_, rfl⟩
  have hA : Below w.heap.size w W := by rw [hW]; exact (Below.refl _ _).alloc (Nat.le_refl _) _
  have hl := slv_lit3 (w := W) (b := w.heap.size) (by rw [hW]; simp [go_sem]) (by rw [hW]; simp [go_sem]) (by rw [hW]; simp [go_sem])
  have hr0 := run_told0
  have HC := Lib.hid (new_of F _ 3 3 _ W (fun z hz => Nat.lt_of_lt_of_le (hF z hz) hA.size) hl (by decide))
  have HA := Lib.hid hA
  have HF := Lib.hid hF
  have HW := Lib.hid hW
  rw [hW] at HC
  clear hA hl hW hF
  go_enter Tryz.func46, Tryz.ntmps46
  go_wp2_with fail
  refine HC.out.mono ?_
  rintro e w1 ⟨p, rfl, hs, hb⟩
  rw [← HW.out] at hs hb
  have hb1 := HA.out.trans (hb.mono HA.out.size)
  have hsp : w.heap.size ≤ p := Nat.le_trans HA.out.size hs.sp
  obtain ⟨W5, hW5⟩ : ∃ W5, W5 = w1.alloc (.cells #[.int .i64 0, .int .i64 (-1), .int .i64 0, .int .i64 40, .int .i64 1, .bool true, .int .i64 1, .int .i64 (-1), .int .i64 0, .int .i64 40, .int .i64 3, .bool true, .int .i64 2, .int .i64 (-1), .int .i64 0, .int .i64 40, .int .i64 255, .bool true] 59) := ⟨_, rfl⟩
  have hA5 : Below w1.heap.size w1 W5 := by rw [hW5]; exact (Below.refl _ _).alloc (Nat.le_refl _) _
  have hr5 : SlR W5 (some ⟨w1.heap.size, 0, none⟩) 3 bgR := fun k hk => by
    refine ⟨w1.heap.size, 0, rfl, ?_⟩
    rw [hW5]
    match k, hk with
    | 0, _ => refine ⟨?_, ?_, ?_, ?_, ?_, ?_⟩ <;> simp [go_sem, bgR]
    | 1, _ => refine ⟨?_, ?_, ?_, ?_, ?_, ?_⟩ <;> simp [go_sem, bgR]
    | 2, _ => refine ⟨?_, ?_, ?_, ?_, ?_, ?_⟩ <;> simp [go_sem, bgR]
  have HB1 := Lib.hid hb1
  have HSP := Lib.hid hsp
  have HD1 := Lib.hid (do_to opBg ⟨some ⟨w1.heap.size, 0, none⟩, 3, At.none⟩ W5 (hs.below hA5) (fun z hz => Nat.lt_of_lt_of_le (HF.out z hz) (Nat.le_trans hb1.size hA5.size)) ⟨hr5, Nat.le_refl _, by show 3 ≤ maxLen; unfold maxLen; omega, zero_ok _, zero_sh, str0_sh⟩ bg_all.1 bg_all.2)
  have HA5 := Lib.hid hA5
  have HW5 := Lib.hid hW5
  rw [hW5] at HD1
  clear hs hb hb1 hsp HC hW5 hA5 hr5
  go_wp2_with fail
  refine HD1.out.mono ?_
  rintro e w6 ⟨⟨va, vc, ia, ic, na, nc⟩, q1, rfl, _, hs6, hq1, hk6⟩
  rw [← HW5.out] at hq1 hk6
  have hbw : Below w.heap.size w w6 := (HB1.out.trans (HA5.out.mono HB1.out.size)).trans (hk6.to (fun z hz => by have := HSP.out; constructor <;> omega) (Nat.le_trans HB1.out.size HA5.out.size))
  have hA6 : Below w6.heap.size w6 (w6.alloc (.cells #[.int .i64 0, .slice va 0 vc, .slice ia 0 ic, .slice na 0 nc] 48)).drew := ((Below.refl _ _).alloc (Nat.le_refl _) _).drew
  have HSF := Lib.hid (hs6.below hA6)
  have HBF := Lib.hid (hbw.trans (hA6.mono hbw.size))
  have HAS := Lib.hid HA.out.size
  clear hs6 hq1 hk6 hbw hA6 HD1
  go_wp2_with fail
  go_region
  go_wp2_with fail
  go_ret2
  refine ⟨p, q1, rfl, ?_, HBF.out⟩
  obtain ⟨h1, h2, h3, h4, h5, h6, h7, h8, h9, h10, h11, h12⟩ := HSF.out
  exact ⟨Nat.le_trans HAS.out h1, Nat.le_trans HAS.out h2, h3, h4, h5, h6, h7, h8, h9, h10, h11, h12⟩

section
variable {S pa pb qa qb : Nat} {w3 : World} {X Y : SrvX} {w : World}
theorem LpQ.start2 (ha : Srv w S pa qa (fun _ => False) X) (hb : Srv w3 w.heap.size pb qb (fun z => z = pa ∨ z = qa) Y) (h : Below w.heap.size w w3) (hS : S ≤ w.heap.size) : LpQ S pa pb qa qb w3 qa qb X Y w3 := by
  have hpa := ha.pw
  have hqa := ha.qw
  have hpb := hb.sp
  have hqb := hb.sq
  refine ⟨?_, ?_, .inl rfl, .inl rfl, Kept.refl _ _⟩
  · refine ha.keep ((Kept.of h (Z := fun _ => True)).sub fun _ _ _ => trivial) (fun z hl hz => ?_)
    rcases hz with rfl | rfl <;> omega
  · exact ⟨Nat.le_trans hS hb.sp, Nat.le_trans hS hb.sq, hb.fp, hb.fq, hb.pw, hb.qw, hb.fz, hb.c0, hb.c1, hb.c2, hb.c3, hb.ok⟩
end
end Go.Proofs.YteimdhkajbldjaaGreat
namespace Go.Proofs.YteimdhkajbldjaaGreat
open Go Go.RowKit

section
variable {P : Program} {ops : Array Oper} {Q : Exit → Act → World → Prop} {md : Region.Mode}

theorem count_lt {p q : Nat → Bool} {i : Nat} (h1 : q i = true) (h2 : p i = false) (hle : ∀ j, p j = true → q j = true) : ∀ l : List Nat, i ∈ l → l.countP p < l.countP q
  | [], h => by cases h
  | x :: l, h => by
    have hm : ∀ l : List Nat, l.countP p ≤ l.countP q := fun l => List.countP_mono_left fun j _ hj => hle j hj
    rw [List.countP_cons, List.countP_cons]
    have hl := hm l
    by_cases e : x = i
    · subst e
      rw [h1, h2]
      simp
      omega
    · have h3 : i ∈ l := by
        rcases List.mem_cons.1 h with h | h
        · exact absurd h.symm e
        · exact h
      have ih := count_lt h1 h2 hle l h3
      have : (if p x = true then 1 else 0) ≤ (if q x = true then 1 else 0) := by
        by_cases hp : p x = true
        · rw [if_pos hp, if_pos (hle x hp)]
          exact Nat.le_refl _
        · rw [if_neg hp]
          exact Nat.zero_le _
      omega

/-- operations that have not come up yet -/
def leftN (ops : Array Oper) (listed : Array Bool) : Nat := (List.range ops.size).countP fun i => !listed.getD i true

theorem set_getD (listed : Array Bool) (i j : Nat) (h : (listed.setIfInBounds i true).getD j true = false) : listed.getD j true = false ∧ j ≠ i := by
  by_cases e : j = i
  · subst e
    exfalso
    by_cases hl : j < listed.size
    · simp [hl] at h
    · simp [hl] at h
  · refine ⟨?_, e⟩
    rwa [getD_set_ne true (Ne.symm e)] at h

theorem wpAny_inv (J : Array Bool → Act → World → Prop)
    (hstep : ∀ listed a w i, J listed a w → i ∈ Region.ready md ops listed → wpOp P ops Q i (fun a' w' => J (listed.setIfInBounds i true) a' w') a w)
    (hend : ∀ listed a w, J listed a w → Region.ready md ops listed = [] → Q .normal a w) :
    ∀ (fuel : Nat) (listed : Array Bool) (a : Act) (w : World), J listed a w → leftN ops listed ≤ fuel → wpAny P md ops Q fuel listed a w := by
  intro fuel
  induction fuel with
  | zero =>
    intro listed a w h hl
    have hr : Region.ready md ops listed = [] := by
      cases hr : Region.ready md ops listed with
      | nil => rfl
      | cons x xs =>
        have hx : x ∈ Region.ready md ops listed := by rw [hr]; simp
        obtain ⟨h0, o, ho, _⟩ := mem_ready.1 hx
        have h1 : leftN ops listed = 0 := by omega
        unfold leftN at h1
        have := List.countP_eq_zero.1 h1 x (List.mem_range.2 (Array.getElem?_eq_some_iff.1 ho).1)
        rw [h0] at this
        simp at this
    exact ⟨hr, hend _ _ _ h hr⟩
  | succ fuel ih =>
    intro listed a w h hl
    refine ⟨fun hr => hend _ _ _ h hr, fun i hi => wpOp_mono (fun a' w' h' => ih _ a' w' h' ?_) (hstep _ _ _ i h hi)⟩
    obtain ⟨h0, o, ho, _⟩ := mem_ready.1 hi
    have : leftN ops (listed.setIfInBounds i true) < leftN ops listed := by
      unfold leftN
      refine count_lt (i := i) (by rw [h0]; rfl) ?_ (fun j hj => ?_) _ (List.mem_range.2 (Array.getElem?_eq_some_iff.1 ho).1)
      · have hsz : (listed.setIfInBounds i true).getD i true = true := by
          cases hb : (listed.setIfInBounds i true).getD i true with
          | true => rfl
          | false => exact absurd rfl (set_getD _ _ _ hb).2
        rw [hsz]
        rfl
      · have : (listed.setIfInBounds i true).getD j true = false := by simpa using hj
        rw [(set_getD _ _ _ this).1]
        rfl
    omega

/-- what each operation waits for has a smaller number -/
def upward (md : Region.Mode) (ops : Array Oper) : Bool := (List.range ops.size).all fun i => ((ops[i]?).map fun o => o.after.toList.all fun e => !Region.binds md e || decide (e.on < i)).getD true
/-- each operation leaves its value somewhere else, and none has a guard -/
def simpleOps (ops : Array Oper) : Bool := (ops.toList.all fun o => o.guard.isNone && o.dst.isSome) && decide ((ops.toList.filterMap (·.dst)).Nodup)

theorem all_listed (hup : upward md ops = true) {listed : Array Bool} (hr : Region.ready md ops listed = []) : ∀ i, i < ops.size → listed.getD i true = true := by
  intro i
  induction i using Nat.strongRecOn with
  | ind i ih =>
    intro hi
    cases hb : listed.getD i true with
    | true => rfl
    | false =>
      exfalso
      have hm : i ∈ Region.ready md ops listed := by
        refine mem_ready.2 ⟨hb, ops[i], Array.getElem?_eq_getElem hi, fun e he hbd => ?_⟩
        have h1 := List.all_eq_true.1 hup i (List.mem_range.2 hi)
        rw [Array.getElem?_eq_getElem hi] at h1
        simp only [Option.map_some, Option.getD_some, List.all_eq_true] at h1
        have h2 := h1 e (by simpa using he)
        rw [hbd] at h2
        simp only [Bool.not_true, Bool.false_or, decide_eq_true_eq] at h2
        have h3 := ih e.on h2 (by omega)
        by_cases hs : e.on < listed.size
        · simpa [hs] using h3
        · exfalso
          simp [Array.getElem?_eq_none (Nat.le_of_not_lt hs)] at h3
          have : ¬ i < listed.size := by omega
          simp [Array.getElem?_eq_none (Nat.le_of_not_lt this)] at hb
      rw [hr] at hm
      cases hm

/-- the frame behind the region: operation i left v i -/
def putAll (a : Act) : List Oper → (Nat → Value) → Nat → Act
  | [], _, _ => a
  | o :: r, v, i => putAll (a.put o.dst (v i)) r v (i + 1)
theorem putAll_defers : ∀ (l : List Oper) (a : Act) (v : Nat → Value) (i : Nat), (putAll a l v i).defers = a.defers
  | [], _, _, _ => rfl
  | o :: r, a, v, i => by
    unfold putAll
    rw [putAll_defers r]
    unfold Act.put
    split <;> rfl
theorem putAll_size : ∀ (l : List Oper) (a : Act) (v : Nat → Value) (i : Nat), (putAll a l v i).tmps.size = a.tmps.size
  | [], _, _, _ => rfl
  | o :: r, a, v, i => by
    unfold putAll
    rw [putAll_size r]
    unfold Act.put
    split <;> simp
theorem putAll_off : ∀ (l : List Oper) (a : Act) (v : Nat → Value) (i t : Nat), (∀ o ∈ l, o.dst ≠ some t) → (putAll a l v i).tmps[t]? = a.tmps[t]?
  | [], _, _, _, _, _ => rfl
  | o :: r, a, v, i, t, h => by
    unfold putAll
    rw [putAll_off r _ _ _ _ fun o ho => h o (List.mem_cons_of_mem _ ho)]
    have := h o (by simp)
    unfold Act.put
    split
    · rename_i d hd
      simp only
      rw [Array.getElem?_setIfInBounds_ne]
      intro e
      exact this (by rw [hd, e])
    · rfl
theorem putAll_at : ∀ (l : List Oper) (a : Act) (v : Nat → Value) (i j t : Nat) (o : Oper), (l.filterMap (·.dst)).Nodup → l[j]? = some o → o.dst = some t → t < a.tmps.size → (putAll a l v i).tmps[t]? = some (v (i + j))
  | [], _, _, _, _, _, _, _, h, _, _ => by simp at h
  | x :: r, a, v, i, 0, t, o, hn, h, hd, ht => by
    simp only [List.getElem?_cons_zero, Option.some.injEq] at h
    subst h
    unfold putAll
    rw [putAll_off r]
    · unfold Act.put
      rw [hd]
      simp [ht]
    · intro y hy e
      rw [List.filterMap_cons_some hd, List.nodup_cons] at hn
      exact hn.1 (List.mem_filterMap.2 ⟨y, hy, e⟩)
  | x :: r, a, v, i, j + 1, t, o, hn, h, hd, ht => by
    rw [List.getElem?_cons_succ] at h
    unfold putAll
    have hn' : (r.filterMap (·.dst)).Nodup := by
      cases hx : x.dst with
      | none => rwa [List.filterMap_cons_none hx] at hn
      | some d => rw [List.filterMap_cons_some hx, List.nodup_cons] at hn; exact hn.2
    rw [putAll_at r _ v (i + 1) j t o hn' h hd (by unfold Act.put; split <;> simpa using ht)]
    rw [show i + 1 + j = i + (j + 1) by omega]

/-- the frame a is a0 but for what the operations of the region left -/
structure Fr (ops : Array Oper) (a0 a : Act) : Prop where
  d : a.defers = a0.defers
  s : a.tmps.size = a0.tmps.size
  t : ∀ t, (∀ o ∈ ops.toList, o.dst ≠ some t) → a.tmps[t]? = a0.tmps[t]?
/-- what operation i left -/
def left (ops : Array Oper) (a : Act) (i : Nat) : Value := match (ops[i]?).bind (·.dst) with | some t => a.tmps.getD t undef | none => undef
theorem Fr.all {a0 a : Act} (h : Fr ops a0 a) (hs : simpleOps ops = true) (hd : ∀ o ∈ ops.toList, ∀ t, o.dst = some t → t < a0.tmps.size) : a = putAll a0 ops.toList (left ops a) 0 := by
  unfold simpleOps at hs
  rw [Bool.and_eq_true, decide_eq_true_eq] at hs
  obtain ⟨tm, df⟩ := a
  have e2 : (putAll a0 ops.toList (left ops ⟨tm, df⟩) 0).defers = df := by rw [putAll_defers]; exact h.d.symm
  have e1 : (putAll a0 ops.toList (left ops ⟨tm, df⟩) 0).tmps = tm := by
    apply Array.ext_getElem?
    intro t
    by_cases hx : ∃ o ∈ ops.toList, o.dst = some t
    · obtain ⟨o, ho, hdt⟩ := hx
      obtain ⟨j, hj⟩ := List.getElem?_of_mem ho
      have hlt := hd o ho t hdt
      rw [putAll_at _ _ _ 0 j t o hs.2 hj hdt hlt, Nat.zero_add]
      have hoj : ops[j]? = some o := by simpa using hj
      unfold left
      rw [hoj]
      simp only [Option.bind_some, hdt]
      have hlt2 : t < tm.size := by rw [show tm.size = a0.tmps.size from h.s]; exact hlt
      rw [Array.getD_eq_getD_getElem?, Array.getElem?_eq_getElem hlt2]
      rfl
    · have hno : ∀ o ∈ ops.toList, o.dst ≠ some t := fun o ho e => hx ⟨o, ho, e⟩
      rw [putAll_off _ _ _ _ _ hno]
      exact (h.t t hno).symm
  cases hp : putAll a0 ops.toList (left ops ⟨tm, df⟩) 0 with
  | mk x y =>
    rw [hp] at e1 e2
    simp only at e1 e2
    rw [e1, e2]

theorem nodup_dst : ∀ {l : List Oper} {i j : Nat} {x y : Oper} {t : Nat}, (l.filterMap (·.dst)).Nodup → l[i]? = some x → l[j]? = some y → x.dst = some t → y.dst = some t → i = j
  | [], i, j, x, y, t, _, h, _, _, _ => by simp at h
  | z :: l, 0, 0, x, y, t, _, _, _, _, _ => rfl
  | z :: l, 0, j + 1, x, y, t, hn, hx, hy, dx, dy => by
    simp only [List.getElem?_cons_zero, Option.some.injEq] at hx
    subst hx
    rw [List.getElem?_cons_succ] at hy
    rw [List.filterMap_cons_some dx, List.nodup_cons] at hn
    exact absurd (List.mem_filterMap.2 ⟨y, List.mem_of_getElem? hy, dy⟩) hn.1
  | z :: l, i + 1, 0, x, y, t, hn, hx, hy, dx, dy => by
    simp only [List.getElem?_cons_zero, Option.some.injEq] at hy
    subst hy
    rw [List.getElem?_cons_succ] at hx
    rw [List.filterMap_cons_some dy, List.nodup_cons] at hn
    exact absurd (List.mem_filterMap.2 ⟨x, List.mem_of_getElem? hx, dx⟩) hn.1
  | z :: l, i + 1, j + 1, x, y, t, hn, hx, hy, dx, dy => by
    rw [List.getElem?_cons_succ] at hx hy
    have hn' : (l.filterMap (·.dst)).Nodup := by
      cases hz : z.dst with
      | none => rwa [List.filterMap_cons_none hz] at hn
      | some d => rw [List.filterMap_cons_some hz, List.nodup_cons] at hn; exact hn.2
    rw [nodup_dst hn' hx hy dx dy]

/-- A REGION BY WHAT ITS OPERATIONS LEAVE. Φ i w v: operation i left v; it stays so while memory grows. -/
theorem wp_region_by (hm : P.follows .mixedOrders = true) (hup : upward .any ops = true) (hs : simpleOps ops = true) {id : Nat} {a0 : Act} {w0 : World}
    (hd : (ops.toList.all fun o => (o.dst.map fun t => decide (t < a0.tmps.size)).getD true) = true)
    (Φ : Nat → World → Value → Prop) (hmono : ∀ i w w' v, Φ i w v → Below w.heap.size w w' → Φ i w' v)
    (hop : ∀ (i : Nat) (o : Oper), ops[i]? = some o → ∀ (a : Act) (w : World), Fr ops a0 a → Below w0.heap.size w0 w → (∀ e ∈ o.after, Region.binds .any e = true → Φ e.on w (left ops a e.on)) →
      o.wp P a w (fun a' w' => ∃ v, a' = a.put o.dst v ∧ Below w.heap.size w w' ∧ Φ i w' v) Q)
    (hend : ∀ (v : Nat → Value) w, Below w0.heap.size w0 w → (∀ i, i < ops.size → Φ i w (v i)) → Q .normal (putAll a0 ops.toList v 0) w) :
    (Code.region id ops true).wp P Q a0 w0 := by
  have hs' := hs
  unfold simpleOps at hs
  rw [Bool.and_eq_true, decide_eq_true_eq] at hs
  obtain ⟨hs1, hs2⟩ := hs
  have hg : ∀ (i : Nat) (o : Oper), ops[i]? = some o → o.guard = none ∧ ∃ t, o.dst = some t ∧ t < a0.tmps.size := fun i o ho => by
    have hmem : o ∈ ops.toList := by simpa using Array.mem_of_getElem? ho
    have h1 := List.all_eq_true.1 hs1 o hmem
    rw [Bool.and_eq_true] at h1
    have h2 := List.all_eq_true.1 hd o hmem
    obtain ⟨t, ht⟩ := Option.isSome_iff_exists.1 h1.2
    rw [ht] at h2
    exact ⟨by simpa using h1.1, t, ht, by simpa using h2⟩
  refine wp_region_any hm ?_
  have hdr : Below w0.heap.size w0 { w0 with drawn := w0.drawn + 1 } := (Below.refl _ _).drew
  refine wpAny_inv (fun listed a w => Fr ops a0 a ∧ Below w0.heap.size w0 w ∧ ∀ i, i < ops.size → listed.getD i true = true → Φ i w (left ops a i)) ?_ ?_ ops.size _ _ _ ⟨⟨rfl, rfl, fun _ _ => rfl⟩, hdr, fun i hi hl => ?_⟩ ?_
  · rintro listed a w i ⟨hf, hb, hΦ⟩ hi
    obtain ⟨h0, o, ho, hall⟩ := mem_ready.1 hi
    obtain ⟨hgd, t, hdt, htl⟩ := hg i o ho
    unfold wpOp
    rw [ho]
    simp only
    have hw : Region.wanted o (yielded ops a.tmps) = true := by unfold Region.wanted; rw [hgd]
    rw [if_pos hw]
    refine .inl (Oper.wp_mono ?_ (hop i o ho a w hf hb fun e he hbd => ?_))
    · rintro a' w' ⟨v, rfl, hb', hv⟩
      refine ⟨⟨?_, ?_, fun t' ht' => ?_⟩, hb.trans (hb'.mono hb.size), fun j hj hl => ?_⟩
      · rw [← hf.d]; unfold Act.put; split <;> rfl
      · rw [← hf.s]; unfold Act.put; split <;> simp
      · rw [← hf.t t' ht']
        have : o.dst ≠ some t' := ht' o (by simpa using Array.mem_of_getElem? ho)
        unfold Act.put
        rw [hdt] at this ⊢
        simp only
        rw [Array.getElem?_setIfInBounds_ne]
        intro e
        exact this (by rw [e])
      · by_cases e : j = i
        · subst e
          have : left ops (a.put o.dst v) j = v := by
            unfold left
            rw [ho]
            simp only [Option.bind_some, hdt, Act.put]
            have : t < a.tmps.size := by rw [hf.s]; exact htl
            simp [this]
          rw [this]
          exact hv
        · have hlj : listed.getD j true = true := by rwa [getD_set_ne true (Ne.symm e)] at hl
          have h1 := hmono _ _ _ _ (hΦ j hj hlj) hb'
          have : left ops (a.put o.dst v) j = left ops a j := by
            unfold left
            cases hoj : ops[j]? with
            | none => rfl
            | some oj =>
              obtain ⟨_, tj, hdj, _⟩ := hg j oj hoj
              simp only [Option.bind_some, hdj, hdt, Act.put]
              have hne : t ≠ tj := fun e2 => by
                subst e2
                have hij : i < ops.toList.length := by simpa using (Array.getElem?_eq_some_iff.1 ho).1
                have hjj : j < ops.toList.length := by simpa using hj
                have := nodup_dst hs2 (by simpa using ho) (by simpa using hoj) hdt hdj
                exact e this.symm
              simp [Array.getElem?_setIfInBounds_ne hne]
          rw [this]
          exact h1
    · have hlt := hall e he hbd
      have hsz : e.on < listed.size := by
        by_cases hs : e.on < listed.size
        · exact hs
        · simp [Array.getElem?_eq_none (Nat.le_of_not_lt hs)] at hlt
      have h1 : e.on < ops.size := by
        have h1 := List.all_eq_true.1 hup i (List.mem_range.2 (Array.getElem?_eq_some_iff.1 ho).1)
        rw [ho] at h1
        simp only [Option.map_some, Option.getD_some, List.all_eq_true] at h1
        have h2 := h1 e (by simpa using he)
        rw [hbd] at h2
        simp only [Bool.not_true, Bool.false_or, decide_eq_true_eq] at h2
        have := (Array.getElem?_eq_some_iff.1 ho).1
        omega
      exact hΦ _ h1 (by simpa [hsz] using hlt)
  · rintro listed a w ⟨hf, hb, hΦ⟩ hr
    have hall := all_listed hup hr
    rw [hf.all hs' fun o ho t ht => by
      obtain ⟨j, hj⟩ := List.getElem?_of_mem ho
      obtain ⟨_, t', h1, h2⟩ := hg j o (by simpa using hj)
      rw [h1] at ht
      cases ht
      exact h2]
    exact hend _ _ hb fun i hi => hΦ i hi (hall i hi)
  · exfalso
    have : i < (Array.replicate ops.size false).size := by simpa using hi
    simp [hi] at hl
  · unfold leftN
    exact Nat.le_trans List.countP_le_length (by simp)
end
end Go.Proofs.YteimdhkajbldjaaGreat
namespace Go.Proofs.YteimdhkajbldjaaGreat
open Go Go.RowKit

section
variable {P : Program} {ops : Array Oper} {Q : Exit → Act → World → Prop}

/-- each operation leaves its value somewhere else -/
def apartOps (ops : Array Oper) : Bool := decide ((ops.toList.filterMap (·.dst)).Nodup)
/-- an operation that hangs on another one's value waits for it -/
def guardsOk (ops : Array Oper) : Bool := ops.toList.all fun o => match o.guard with | none => true | some (j, _) => o.after.toList.any fun e => e.on == j && Region.binds .any e
/-- a store waits for what lays its block, leaves no value, and is the only one there -/
def storesOk (ops : Array Oper) (st : Nat → Option Nat) : Bool :=
  ((List.range ops.size).all fun i => match st i with
    | none => true
    | some k => (st k).isNone && ((ops[i]?).map fun o => o.dst.isNone && o.guard.isNone && o.after.toList.any fun e => e.on == k && Region.binds .any e).getD false) &&
  ((List.range ops.size).all fun i => (List.range ops.size).all fun j => (st i).isNone || !(st i == st j) || i == j)

/-- what operation i left, for its reader: nothing where it leaves none -/
theorem left_put {a : Act} {o : Oper} {i : Nat} {v : Value} (ho : ops[i]? = some o) (hd : ∀ t, o.dst = some t → t < a.tmps.size) : left ops (a.put o.dst v) i = if o.dst.isSome then v else undef := by
  unfold left
  rw [ho]
  simp only [Option.bind_some]
  cases hdt : o.dst with
  | none => simp
  | some t =>
    have := hd t hdt
    simp [Act.put, this]
theorem left_put_ne {a : Act} {o oj : Oper} {i j : Nat} {v : Value} (hn : apartOps ops = true) (ho : ops[i]? = some o) (hij : j ≠ i) : left ops (a.put o.dst v) j = left ops a j := by
  unfold apartOps at hn
  rw [decide_eq_true_eq] at hn
  unfold left
  cases hoj : ops[j]? with
  | none => rfl
  | some oj =>
    cases hdj : oj.dst with
    | none => simp [hdj]
    | some tj =>
      simp only [Option.bind_some, hdj]
      cases hdt : o.dst with
      | none => rfl
      | some t =>
        have hne : t ≠ tj := fun e2 => by
          subst e2
          exact hij (nodup_dst hn (by simpa using ho) (by simpa using hoj) hdt hdj).symm
        simp [Act.put, Array.getElem?_setIfInBounds_ne hne]

theorem Fr.put {a0 a : Act} (h : Fr ops a0 a) {o : Oper} {i : Nat} (ho : ops[i]? = some o) (v : Value) : Fr ops a0 (a.put o.dst v) := by
  refine ⟨?_, ?_, fun t' ht' => ?_⟩
  · rw [← h.d]; unfold Act.put; split <;> rfl
  · rw [← h.s]; unfold Act.put; split <;> simp
  · rw [← h.t t' ht']
    have : o.dst ≠ some t' := ht' o (by simpa using Array.mem_of_getElem? ho)
    unfold Act.put
    cases hdt : o.dst with
    | none => rfl
    | some t =>
      rw [hdt] at this
      simp only
      rw [Array.getElem?_setIfInBounds_ne]
      intro e
      exact this (by rw [e])
theorem Fr.all' {a0 a : Act} (h : Fr ops a0 a) (hs : apartOps ops = true) (hd : ∀ o ∈ ops.toList, ∀ t, o.dst = some t → t < a0.tmps.size) : a = putAll a0 ops.toList (left ops a) 0 := by
  unfold apartOps at hs
  rw [decide_eq_true_eq] at hs
  obtain ⟨tm, df⟩ := a
  have e2 : (putAll a0 ops.toList (left ops ⟨tm, df⟩) 0).defers = df := by rw [putAll_defers]; exact h.d.symm
  have e1 : (putAll a0 ops.toList (left ops ⟨tm, df⟩) 0).tmps = tm := by
    apply Array.ext_getElem?
    intro t
    by_cases hx : ∃ o ∈ ops.toList, o.dst = some t
    · obtain ⟨o, ho, hdt⟩ := hx
      obtain ⟨j, hj⟩ := List.getElem?_of_mem ho
      have hlt := hd o ho t hdt
      rw [putAll_at _ _ _ 0 j t o hs hj hdt hlt, Nat.zero_add]
      have hoj : ops[j]? = some o := by simpa using hj
      unfold left
      rw [hoj]
      simp only [Option.bind_some, hdt]
      have hlt2 : t < tm.size := by rw [show tm.size = a0.tmps.size from h.s]; exact hlt
      rw [Array.getD_eq_getD_getElem?, Array.getElem?_eq_getElem hlt2]
      rfl
    · have hno : ∀ o ∈ ops.toList, o.dst ≠ some t := fun o ho e => hx ⟨o, ho, e⟩
      rw [putAll_off _ _ _ _ _ hno]
      exact (h.t t hno).symm
  cases hp : putAll a0 ops.toList (left ops ⟨tm, df⟩) 0 with
  | mk x y =>
    rw [hp] at e1 e2
    simp only at e1 e2
    rw [e1, e2]

/-- what is so of each operation that is listed -/
structure RegI (ops : Array Oper) (st : Nat → Option Nat) (S0 : Nat) (Φ : Nat → Nat → Nat → (Nat → Value) → World → Prop) (lo hi : Nat → Nat) (listed : Array Bool) (a : Act) (w : World) : Prop where
  at_ : ∀ i, i < ops.size → listed.getD i false = true → S0 ≤ lo i ∧ lo i ≤ hi i ∧ hi i ≤ w.heap.size ∧ Φ i (lo i) (hi i) (left ops a) w
  apart : ∀ i j, i < ops.size → j < ops.size → listed.getD i false = true → listed.getD j false = true → i ≠ j → st i = none → st j = none → hi i ≤ lo j ∨ hi j ≤ lo i
  deps : ∀ i o, listed.getD i false = true → ops[i]? = some o → ∀ e ∈ o.after, Region.binds .any e = true → listed.getD e.on false = true
  root : ∀ i k, i < ops.size → listed.getD i false = true → st i = some k → k < ops.size ∧ listed.getD k false = true ∧ lo i = lo k ∧ hi i = hi k

theorem listed_set {listed : Array Bool} {i j : Nat} (h : (listed.setIfInBounds i true).getD j false = true) : j = i ∨ listed.getD j false = true := by
  by_cases e : j = i
  · exact .inl e
  · refine .inr ?_
    simp only [Array.getD_eq_getD_getElem?] at h ⊢
    rwa [Array.getElem?_setIfInBounds_ne (Ne.symm e)] at h

theorem listed_mono {listed : Array Bool} {i j : Nat} (h : listed.getD j false = true) : (listed.setIfInBounds i true).getD j false = true := by
  simp only [Array.getD_eq_getD_getElem?] at h ⊢
  by_cases e : i = j
  · subst e
    by_cases hl : i < listed.size
    · simp [hl]
    · simp [hl] at h
  · rwa [Array.getElem?_setIfInBounds_ne e]

/-- what must have come ahead -/
inductive Anc (ops : Array Oper) : Nat → Nat → Prop
  | one {i : Nat} {o : Oper} {e : Edge} : ops[i]? = some o → e ∈ o.after → Region.binds .any e = true → Anc ops i e.on
  | more {i j k : Nat} : Anc ops i j → Anc ops j k → Anc ops i k
/-- A REGION BY WHAT ITS OPERATIONS LEAVE. Φ i lo hi w v: operation i left v, and laid the blocks from lo to hi; it stays so as long as these, and all that was there ahead of the region, stay as they are. st i = some k: operation i stores into what k laid. G i: operation i is wanted. -/
theorem wp_region_anc (hm : P.follows .mixedOrders = true) (hup : upward .any ops = true) (hs : apartOps ops = true) (hgo : guardsOk ops = true) (st : Nat → Option Nat) (hst : storesOk ops st = true) {id : Nat} {a0 : Act} {w0 : World}
    (hd : (ops.toList.all fun o => (o.dst.map fun t => decide (t < a0.tmps.size)).getD true) = true)
    (G : Nat → Bool) (Φ : Nat → Nat → Nat → (Nat → Value) → World → Prop)
    (hmono : ∀ i lo hi w w' v, Φ i lo hi v w → w0.heap.size ≤ lo → hi ≤ w.heap.size → Kept (fun z => z < w0.heap.size ∨ (lo ≤ z ∧ z < hi)) w w' → Φ i lo hi v w')
    (hdep : ∀ i o lo hi w v v', ops[i]? = some o → Φ i lo hi v w → v i = v' i → (∀ j, Anc ops i j → v j = v' j) → Φ i lo hi v' w)
    (hno : ∀ i lo w v, G i = false → v i = undef → Φ i lo lo v w)
    (hgd : ∀ i o j b, ops[i]? = some o → o.guard = some (j, b) → ∀ lo hi w v, Φ j lo hi v w → (v j = .bool b ∧ G i = true) ∨ (v j = .bool (!b) ∧ G i = false) ∨ (v j = undef ∧ G i = false))
    (hgn : ∀ i o, ops[i]? = some o → o.guard = none → G i = true)
    (hop : ∀ (i : Nat) (o : Oper), ops[i]? = some o → st i = none → G i = true → ∀ (a : Act) (w : World), Fr ops a0 a → Below w0.heap.size w0 w → (∀ j, Anc ops i j → ∃ lo hi, w0.heap.size ≤ lo ∧ hi ≤ w.heap.size ∧ Φ j lo hi (left ops a) w) →
      o.wp P a w (fun a' w' => ∃ v, a' = a.put o.dst v ∧ Below w.heap.size w w' ∧ ∀ vs : Nat → Value, vs i = (if o.dst.isSome then v else undef) → (∀ j, Anc ops i j → vs j = left ops a j) → Φ i w.heap.size w'.heap.size vs w') Q)
    (hsto : ∀ (i k : Nat) (o : Oper), ops[i]? = some o → st i = some k → ∀ (a : Act) (w : World) (lo hi : Nat), Fr ops a0 a → Below w0.heap.size w0 w → w0.heap.size ≤ lo → hi ≤ w.heap.size → Φ k lo hi (left ops a) w → (∀ j, Anc ops i j → ∃ lo hi, w0.heap.size ≤ lo ∧ hi ≤ w.heap.size ∧ Φ j lo hi (left ops a) w) →
      o.wp P a w (fun a' w' => a' = a ∧ Kept (fun z => ¬ (lo ≤ z ∧ z < hi)) w w' ∧ Φ k lo hi (left ops a) w' ∧ Φ i lo hi (left ops a) w') Q)
    (hend : ∀ (v : Nat → Value) (lo hi : Nat → Nat) w, Below w0.heap.size w0 w → (∀ i, i < ops.size → w0.heap.size ≤ lo i ∧ hi i ≤ w.heap.size ∧ Φ i (lo i) (hi i) v w) → Q .normal (putAll a0 ops.toList v 0) w) :
    (Code.region id ops true).wp P Q a0 w0 := by
  have hdl : ∀ o ∈ ops.toList, ∀ t, o.dst = some t → t < a0.tmps.size := fun o ho t ht => by
    have h2 := List.all_eq_true.1 hd o ho
    rw [ht] at h2
    simpa using h2
  have hgl : ∀ (i : Nat) (o : Oper) (j : Nat) (b : Bool), ops[i]? = some o → o.guard = some (j, b) → ∃ e ∈ o.after, e.on = j ∧ Region.binds .any e = true := fun i o j b ho hg => by
    unfold guardsOk at hgo
    have h2 := List.all_eq_true.1 hgo o (by simpa using Array.mem_of_getElem? ho)
    rw [hg] at h2
    obtain ⟨e, he, h3⟩ := List.any_eq_true.1 h2
    rw [Bool.and_eq_true, beq_iff_eq] at h3
    exact ⟨e, by simpa using he, h3.1, h3.2⟩
  unfold storesOk at hst
  rw [Bool.and_eq_true] at hst
  have hst1 : ∀ (i k : Nat) (o : Oper), ops[i]? = some o → st i = some k → st k = none ∧ o.dst = none ∧ o.guard = none ∧ ∃ e ∈ o.after, e.on = k ∧ Region.binds .any e = true := fun i k o ho hk => by
    have h2 := List.all_eq_true.1 hst.1 i (List.mem_range.2 (Array.getElem?_eq_some_iff.1 ho).1)
    rw [hk] at h2
    simp only [ho, Option.map_some, Option.getD_some, Bool.and_eq_true] at h2
    obtain ⟨h3, ⟨h4, h5⟩, h6⟩ := h2
    obtain ⟨e, he, h7⟩ := List.any_eq_true.1 h6
    rw [Bool.and_eq_true, beq_iff_eq] at h7
    exact ⟨by simpa using h3, by simpa using h4, by simpa using h5, e, by simpa using he, h7.1, h7.2⟩
  have hst2 : ∀ (i j k : Nat), i < ops.size → j < ops.size → st i = some k → st j = some k → i = j := fun i j k hi hj h1 h2 => by
    have h3 := List.all_eq_true.1 (List.all_eq_true.1 hst.2 i (List.mem_range.2 hi)) j (List.mem_range.2 hj)
    rw [h1, h2] at h3
    simpa using h3
  refine wp_region_any hm ?_
  have hdr : Below w0.heap.size w0 { w0 with drawn := w0.drawn + 1 } := (Below.refl _ _).drew
  refine wpAny_inv (fun listed a w => listed.size = ops.size ∧ Fr ops a0 a ∧ Below w0.heap.size w0 w ∧ ∃ lo hi, RegI ops st w0.heap.size Φ lo hi listed a w) ?_ ?_ ops.size _ _ _ ⟨by simp, ⟨rfl, rfl, fun _ _ => rfl⟩, hdr, fun _ => w0.heap.size, fun _ => w0.heap.size, ⟨fun i hi hl => ?_, fun i j hi _ hl => ?_, fun i o hl ho => ?_, fun i k hi hl => ?_⟩⟩ ?_
  · rintro listed a w i ⟨hlz, hf, hb, lo, hi, hI⟩ hir
    obtain ⟨h0, o, ho, hall⟩ := mem_ready.1 hir
    have hio : i < ops.size := (Array.getElem?_eq_some_iff.1 ho).1
    have hnl : listed.getD i false = false := by
      have : i < listed.size := by omega
      simpa [this] using h0
    have hdo : ∀ t, o.dst = some t → t < a.tmps.size := fun t ht => by rw [hf.s]; exact hdl o (by simpa using Array.mem_of_getElem? ho) t ht
    have hanc : ∀ {x y : Nat}, Anc ops x y → (∀ o e, ops[x]? = some o → e ∈ o.after → Region.binds .any e = true → listed.getD e.on false = true) → listed.getD y false = true := fun h => by
      induction h with
      | one h1 h2 h3 => exact fun k => k _ _ h1 h2 h3
      | more _ _ ih1 ih2 => exact fun k => ih2 fun o e ho he hb => hI.deps _ o (ih1 k) ho e he hb
    have hldep : ∀ j, Anc ops i j → listed.getD j false = true := fun j hj => hanc hj fun o' e ho' he hb => by
      rw [ho] at ho'
      cases ho'
      exact hall e he hb
    have hlt : ∀ j, listed.getD j false = true → j < ops.size := fun j hj => by
      rw [← hlz]
      refine Nat.lt_of_not_le fun hle => ?_
      rw [Array.getD_eq_getD_getElem?, Array.getElem?_eq_none hle] at hj
      cases hj
    have hdeps : ∀ e ∈ o.after, Region.binds .any e = true → e.on < ops.size ∧ listed.getD e.on false = true ∧ w0.heap.size ≤ lo e.on ∧ hi e.on ≤ w.heap.size ∧ Φ e.on (lo e.on) (hi e.on) (left ops a) w := fun e he hbd => by
      have h3 := hI.at_ e.on (hlt _ (hall e he hbd)) (hall e he hbd)
      exact ⟨hlt _ (hall e he hbd), hall e he hbd, h3.1, h3.2.2.1, h3.2.2.2⟩
    have hdeps' : ∀ j, Anc ops i j → ∃ lo hi, w0.heap.size ≤ lo ∧ hi ≤ w.heap.size ∧ Φ j lo hi (left ops a) w := fun j hj => by
      have h3 := hI.at_ j (hlt _ (hldep j hj)) (hldep j hj)
      exact ⟨_, _, h3.1, h3.2.2.1, h3.2.2.2⟩
    -- a step that lays blocks of its own
    have hstep : ∀ (v : Value) (w' : World), st i = none → Below w.heap.size w w' → (∀ vs : Nat → Value, vs i = (if o.dst.isSome then v else undef) → (∀ j, Anc ops i j → vs j = left ops a j) → Φ i w.heap.size w'.heap.size vs w') →
        (listed.setIfInBounds i true).size = ops.size ∧ Fr ops a0 (a.put o.dst v) ∧ Below w0.heap.size w0 w' ∧ ∃ lo hi, RegI ops st w0.heap.size Φ lo hi (listed.setIfInBounds i true) (a.put o.dst v) w' := fun v w' hsi hb' hv => by
      have hbs := hb.size
      have hbs' := hb'.size
      have hne : ∀ k, listed.getD k false = true → left ops (a.put o.dst v) k = left ops a k := fun k hk => left_put_ne (oj := o) hs ho fun e => by rw [e, hnl] at hk; cases hk
      refine ⟨by simpa using hlz, hf.put ho v, hb.trans (hb'.mono hb.size), fun j => if j = i then w.heap.size else lo j, fun j => if j = i then w'.heap.size else hi j, ?_, ?_, ?_, ?_⟩
      · intro j hj hl
        by_cases e : j = i
        · subst e
          rw [if_pos rfl, if_pos rfl]
          exact ⟨hbs, hbs', Nat.le_refl _, hv _ (left_put ho hdo) fun j hj => hne _ (hldep j hj)⟩
        · rw [if_neg e, if_neg e]
          have hlj := (listed_set hl).resolve_left e
          obtain ⟨h1, h2, h3, h4⟩ := hI.at_ j hj hlj
          refine ⟨h1, h2, by omega, hdep _ _ _ _ _ _ _ (Array.getElem?_eq_getElem hj) (hmono _ _ _ _ _ _ h4 h1 h3 ((Kept.of hb').sub fun z hz _ => trivial)) (hne j hlj).symm fun j' hj' => (hne _ (hanc hj' fun o' e' ho' he' hb' => hI.deps j o' hlj ho' e' he' hb')).symm⟩
      · intro j k hj hk hlj hlk hne hsj hsk
        by_cases ej : j = i
        · have ek : k ≠ i := fun e => hne (ej.trans e.symm)
          rw [if_pos ej, if_pos ej, if_neg ek, if_neg ek]
          have := (hI.at_ k hk ((listed_set hlk).resolve_left ek)).2.2.1
          exact .inr this
        · by_cases ek : k = i
          · rw [if_neg ej, if_neg ej, if_pos ek, if_pos ek]
            have := (hI.at_ j hj ((listed_set hlj).resolve_left ej)).2.2.1
            exact .inl this
          · rw [if_neg ej, if_neg ej, if_neg ek, if_neg ek]
            exact hI.apart j k hj hk ((listed_set hlj).resolve_left ej) ((listed_set hlk).resolve_left ek) hne hsj hsk
      · intro j oj hlj hoj e' he' hbd'
        by_cases ej : j = i
        · subst ej
          rw [ho] at hoj
          cases hoj
          exact listed_mono (hall e' he' hbd')
        · exact listed_mono (hI.deps j oj ((listed_set hlj).resolve_left ej) hoj e' he' hbd')
      · intro j k hj hlj hsj
        have ej : j ≠ i := fun e => by rw [e, hsi] at hsj; cases hsj
        obtain ⟨h1, h2, h3, h4⟩ := hI.root j k hj ((listed_set hlj).resolve_left ej) hsj
        have ek : k ≠ i := fun e => by rw [e, hnl] at h2; cases h2
        rw [if_neg ej, if_neg ej, if_neg ek, if_neg ek]
        refine ⟨h1, ?_, h3, h4⟩
        simp only [Array.getD_eq_getD_getElem?] at h2 ⊢
        rwa [Array.getElem?_setIfInBounds_ne (Ne.symm ek)]
    unfold wpOp
    rw [ho]
    simp only
    by_cases hG : G i = true
    · -- wanted
      have hw : Region.wanted o (yielded ops a.tmps) = true := by
        unfold Region.wanted
        cases hgu : o.guard with
        | none => rfl
        | some jb =>
          obtain ⟨j, b⟩ := jb
          obtain ⟨e, he, rfl, hbd⟩ := hgl i o j b ho hgu
          obtain ⟨h1, h2, h3, h4, h5⟩ := hdeps e he hbd
          rcases hgd i o _ b ho hgu _ _ _ _ h5 with ⟨h6, _⟩ | ⟨_, h6⟩ | ⟨_, h6⟩
          · simp only [beq_iff_eq]
            unfold yielded
            unfold left at h6
            cases hx : (ops[e.on]?).bind (·.dst) with
            | none => rw [hx] at h6; simp [undef] at h6
            | some t =>
              rw [hx] at h6
              simp only at h6
              rw [Array.getD_eq_getD_getElem?] at h6
              cases hy : a.tmps[t]? with
              | none => rw [hy] at h6; simp [undef] at h6
              | some u =>
                rw [hy] at h6
                simp only [Option.getD_some] at h6
                simp [hy, h6]
          · rw [hG] at h6; cases h6
          · rw [hG] at h6; cases h6
      rw [if_pos hw]
      cases hsi : st i with
      | none =>
        refine .inl (Oper.wp_mono ?_ (hop i o ho hsi hG a w hf hb hdeps'))
        rintro a' w' ⟨v, rfl, hb', hv⟩
        exact hstep v w' hsi hb' hv
      | some k =>
        obtain ⟨hsk, hdn, hgn', e, he, rfl, hbd⟩ := hst1 i k o ho hsi
        obtain ⟨k1, k2, k3, k4, k5⟩ := hdeps e he hbd
        have k6 := (hI.at_ e.on k1 k2).2.1
        refine .inl (Oper.wp_mono ?_ (hsto i e.on o ho hsi a w _ _ hf hb k3 k4 k5 hdeps'))
        rintro a' w' ⟨rfl, hk', hΦk, hΦi⟩
        have hsz := hk'.size
        have hki : e.on ≠ i := fun e2 => by rw [e2, hsi] at hsk; cases hsk
        refine ⟨by simpa using hlz, hf, hb.trans (hk'.to (fun z hz h => by omega) hb.size), fun j => if j = i then lo e.on else lo j, fun j => if j = i then hi e.on else hi j, ?_, ?_, ?_, ?_⟩
        · intro j hj hl
          by_cases ej : j = i
          · subst ej
            rw [if_pos rfl, if_pos rfl]
            exact ⟨k3, k6, by omega, hΦi⟩
          · rw [if_neg ej, if_neg ej]
            have hlj := (listed_set hl).resolve_left ej
            obtain ⟨h1, h2, h3, h4⟩ := hI.at_ j hj hlj
            by_cases ek : j = e.on
            · subst ek
              exact ⟨h1, h2, by omega, hΦk⟩
            · refine ⟨h1, h2, by omega, hmono _ _ _ _ _ _ h4 h1 h3 (hk'.sub fun z hz hzz => ?_)⟩
              intro hz2
              rcases hzz with hzz | hzz
              · omega
              · cases hsj : st j with
                | none =>
                  rcases hI.apart j e.on hj k1 hlj k2 ek hsj hsk with h5 | h5 <;> omega
                | some k' =>
                  obtain ⟨r1, r2, r3, r4⟩ := hI.root j k' hj hlj hsj
                  have hk'e : k' ≠ e.on := fun e2 => by
                    subst e2
                    exact ej (hst2 j i _ hj hio hsj hsi)
                  obtain ⟨hsk', _⟩ := hst1 j k' _ (Array.getElem?_eq_getElem hj) hsj
                  rcases hI.apart k' e.on r1 k1 r2 k2 hk'e hsk' hsk with h5 | h5 <;> omega
        · intro j k hj hk hlj hlk hne hsj hsk2
          have ej : j ≠ i := fun e2 => by rw [e2, hsi] at hsj; cases hsj
          have ek : k ≠ i := fun e2 => by rw [e2, hsi] at hsk2; cases hsk2
          rw [if_neg ej, if_neg ej, if_neg ek, if_neg ek]
          exact hI.apart j k hj hk ((listed_set hlj).resolve_left ej) ((listed_set hlk).resolve_left ek) hne hsj hsk2
        · intro j oj hlj hoj e' he' hbd'
          by_cases ej : j = i
          · subst ej
            rw [ho] at hoj
            cases hoj
            exact listed_mono (hall e' he' hbd')
          · exact listed_mono (hI.deps j oj ((listed_set hlj).resolve_left ej) hoj e' he' hbd')
        · intro j k hj hlj hsj
          by_cases ej : j = i
          · subst ej
            rw [hsi] at hsj
            cases hsj
            rw [if_pos rfl, if_pos rfl, if_neg hki, if_neg hki]
            refine ⟨k1, ?_, rfl, rfl⟩
            simp only [Array.getD_eq_getD_getElem?] at k2 ⊢
            rwa [Array.getElem?_setIfInBounds_ne (Ne.symm hki)]
          · obtain ⟨h1, h2, h3, h4⟩ := hI.root j k hj ((listed_set hlj).resolve_left ej) hsj
            have ek : k ≠ i := fun e2 => by rw [e2, hnl] at h2; cases h2
            rw [if_neg ej, if_neg ej, if_neg ek, if_neg ek]
            refine ⟨h1, ?_, h3, h4⟩
            simp only [Array.getD_eq_getD_getElem?] at h2 ⊢
            rwa [Array.getElem?_setIfInBounds_ne (Ne.symm ek)]
    · -- unwanted
      have hG' : G i = false := by simpa using hG
      have hw : Region.wanted o (yielded ops a.tmps) = false := by
        cases hgu : o.guard with
        | none => exact absurd (hgn i o ho hgu) hG
        | some jb =>
          obtain ⟨j, b⟩ := jb
          obtain ⟨e, he, rfl, hbd⟩ := hgl i o j b ho hgu
          obtain ⟨h1, h2, h3, h4, h5⟩ := hdeps e he hbd
          unfold Region.wanted
          rw [hgu]
          simp only
          rw [beq_eq_false_iff_ne]
          intro hy
          unfold yielded at hy
          have hval : left ops a e.on = .bool b := by
            unfold left
            cases hx : (ops[e.on]?).bind (·.dst) with
            | none => rw [hx] at hy; simp at hy
            | some t =>
              rw [hx] at hy
              simp only [Option.bind_some] at hy
              simp only
              rw [Array.getD_eq_getD_getElem?]
              cases hz : a.tmps[t]? with
              | none => rw [hz] at hy; simp at hy
              | some u =>
                rw [hz] at hy
                split at hy
                · rename_i bb hbb
                  cases hbb
                  cases hy
                  rfl
                · cases hy
          rcases hgd i o _ b ho hgu _ _ _ _ h5 with ⟨_, h6⟩ | ⟨h6, _⟩ | ⟨h6, _⟩
          · exact hG h6
          · rw [hval] at h6
            simp at h6
          · rw [hval] at h6
            simp [undef] at h6
      rw [if_neg (by rw [hw]; decide)]
      have hsi : st i = none := by
        cases hsi : st i with
        | none => rfl
        | some k =>
          obtain ⟨_, _, hgn', _⟩ := hst1 i k o ho hsi
          exact absurd (hgn i o ho hgn') hG
      refine hstep undef w hsi (Below.refl _ _) fun vs hvs _ => ?_
      exact hno i w.heap.size w vs hG' (by rw [hvs]; split <;> rfl)
  · rintro listed a w ⟨hlz, hf, hb, lo, hi, hI⟩ hr
    have hall := all_listed hup hr
    rw [hf.all' hs hdl]
    refine hend _ lo hi _ hb fun i hi' => ?_
    have h1 := hI.at_ i hi' (by
      have h2 := hall i hi'
      have : i < listed.size := by omega
      simpa [this] using h2)
    exact ⟨h1.1, h1.2.2.1, h1.2.2.2⟩
  · exfalso
    have : i < (Array.replicate ops.size false).size := by simpa using hi
    simp [hi] at hl
  · exfalso
    have : i < (Array.replicate ops.size false).size := by simpa using hi
    simp [hi] at hl
  · exfalso
    have : i < (Array.replicate ops.size false).size := by simpa using (Array.getElem?_eq_some_iff.1 ho).1
    simp [(Array.getElem?_eq_some_iff.1 ho).1] at hl
  · exfalso
    have : i < (Array.replicate ops.size false).size := by simpa using hi
    simp [hi] at hl
  · unfold leftN
    exact Nat.le_trans List.countP_le_length (by simp)

/-- A REGION BY WHAT ITS OPERATIONS LEAVE. Φ i lo hi w v: operation i left v, and laid the blocks from lo to hi; it stays so as long as these, and all that was there ahead of the region, stay as they are. st i = some k: operation i stores into what k laid. G i: operation i is wanted. -/
theorem wp_region_inv (hm : P.follows .mixedOrders = true) (hup : upward .any ops = true) (hs : apartOps ops = true) (hgo : guardsOk ops = true) (st : Nat → Option Nat) (hst : storesOk ops st = true) {id : Nat} {a0 : Act} {w0 : World}
    (hd : (ops.toList.all fun o => (o.dst.map fun t => decide (t < a0.tmps.size)).getD true) = true)
    (G : Nat → Bool) (Φ : Nat → Nat → Nat → (Nat → Value) → World → Prop)
    (hmono : ∀ i lo hi w w' v, Φ i lo hi v w → w0.heap.size ≤ lo → hi ≤ w.heap.size → Kept (fun z => z < w0.heap.size ∨ (lo ≤ z ∧ z < hi)) w w' → Φ i lo hi v w')
    (hdep : ∀ i o lo hi w v v', ops[i]? = some o → Φ i lo hi v w → v i = v' i → (∀ e ∈ o.after, Region.binds .any e = true → v e.on = v' e.on) → Φ i lo hi v' w)
    (hno : ∀ i lo w v, G i = false → v i = undef → Φ i lo lo v w)
    (hgd : ∀ i o j b, ops[i]? = some o → o.guard = some (j, b) → ∀ lo hi w v, Φ j lo hi v w → (v j = .bool b ∧ G i = true) ∨ (v j = .bool (!b) ∧ G i = false) ∨ (v j = undef ∧ G i = false))
    (hgn : ∀ i o, ops[i]? = some o → o.guard = none → G i = true)
    (hop : ∀ (i : Nat) (o : Oper), ops[i]? = some o → st i = none → G i = true → ∀ (a : Act) (w : World), Fr ops a0 a → Below w0.heap.size w0 w → (∀ e ∈ o.after, Region.binds .any e = true → ∃ lo hi, w0.heap.size ≤ lo ∧ hi ≤ w.heap.size ∧ Φ e.on lo hi (left ops a) w) →
      o.wp P a w (fun a' w' => ∃ v, a' = a.put o.dst v ∧ Below w.heap.size w w' ∧ ∀ vs : Nat → Value, vs i = (if o.dst.isSome then v else undef) → (∀ e ∈ o.after, Region.binds .any e = true → vs e.on = left ops a e.on) → Φ i w.heap.size w'.heap.size vs w') Q)
    (hsto : ∀ (i k : Nat) (o : Oper), ops[i]? = some o → st i = some k → ∀ (a : Act) (w : World) (lo hi : Nat), Fr ops a0 a → Below w0.heap.size w0 w → w0.heap.size ≤ lo → hi ≤ w.heap.size → Φ k lo hi (left ops a) w → (∀ e ∈ o.after, Region.binds .any e = true → ∃ lo hi, w0.heap.size ≤ lo ∧ hi ≤ w.heap.size ∧ Φ e.on lo hi (left ops a) w) →
      o.wp P a w (fun a' w' => a' = a ∧ Kept (fun z => ¬ (lo ≤ z ∧ z < hi)) w w' ∧ Φ k lo hi (left ops a) w' ∧ Φ i lo hi (left ops a) w') Q)
    (hend : ∀ (v : Nat → Value) (lo hi : Nat → Nat) w, Below w0.heap.size w0 w → (∀ i, i < ops.size → w0.heap.size ≤ lo i ∧ hi i ≤ w.heap.size ∧ Φ i (lo i) (hi i) v w) → Q .normal (putAll a0 ops.toList v 0) w) :
    (Code.region id ops true).wp P Q a0 w0 :=
  wp_region_anc hm hup hs hgo st hst hd G Φ hmono (fun i o lo hi w v v' ho h hi' hv => hdep i o lo hi w v v' ho h hi' fun e he hb => hv _ (.one ho he hb)) hno hgd hgn
    (fun i o ho h1 h2 a w hf hb hv => Oper.wp_mono (fun a' w' ⟨v, e, hb', h⟩ => ⟨v, e, hb', fun vs hi' hvs => h vs hi' fun e he hb => hvs _ (.one ho he hb)⟩) (hop i o ho h1 h2 a w hf hb fun e he hbd => hv _ (.one ho he hbd)))
    (fun i k o ho h1 a w lo hi hf hb h2 h3 h4 hv => hsto i k o ho h1 a w lo hi hf hb h2 h3 h4 fun e he hbd => hv _ (.one ho he hbd)) hend

/-- .. of each of a list of operations, from number i on -/
def Each (R : Nat → Oper → Prop) : Nat → List Oper → Prop
  | _, [] => True
  | i, o :: l => R i o ∧ Each R (i + 1) l
theorem Each.at_ {R : Nat → Oper → Prop} : ∀ {l : List Oper} {n i : Nat} {o : Oper}, Each R n l → l[i]? = some o → R (n + i) o
  | [], n, i, o, _, h => by simp at h
  | x :: l, n, 0, o, h, h2 => by
    simp only [List.getElem?_cons_zero, Option.some.injEq] at h2
    subst h2
    exact h.1
  | x :: l, n, i + 1, o, h, h2 => by
    rw [List.getElem?_cons_succ] at h2
    have := Each.at_ h.2 h2
    rwa [show n + 1 + i = n + (i + 1) by omega] at this
theorem Each.all {R : Nat → Oper → Prop} (h : Each R 0 ops.toList) {i : Nat} {o : Oper} (ho : ops[i]? = some o) : R i o := by
  have := Each.at_ h (i := i) (o := o) (by simpa using ho)
  rwa [Nat.zero_add] at this

theorem each_of {R : Nat → Oper → Prop} (h : Each R 0 ops.toList) : ∀ i o, ops[i]? = some o → R i o := fun _ _ ho => Each.all h ho
theorem no_guard (h : (ops.toList.all fun o => o.guard.isNone) = true) {i : Nat} {o : Oper} (ho : ops[i]? = some o) : o.guard = none := by
  have := List.all_eq_true.1 h o (by simpa using Array.mem_of_getElem? ho)
  simpa using this
/-! ## one operation -/
theorem Fr.old {a0 a : Act} (h : Fr ops a0 a) {v : Value} (t : Tmp) (hn : (ops.toList.all fun o => !(o.dst == some t)) = true) (hv : a0.tmps[t]? = some v) : a.eval (.tmp t) = v := by
  have h1 := h.t t fun o ho e => by
    have := List.all_eq_true.1 hn o ho
    rw [e] at this
    simp at this
  show a.tmps.getD t undef = v
  rw [Array.getD_eq_getD_getElem?, h1, hv]
  rfl
theorem Fr.new {a0 a : Act} (h : Fr ops a0 a) (j : Nat) (t : Tmp) (hj : (ops[j]?).bind (·.dst) = some t) : a.eval (.tmp t) = left ops a j := by
  unfold left
  rw [hj]
  rfl
/-- what an operand is that is no slot -/
structure Rho (ρ : Operand → Value) : Prop where
  c : ∀ v, ρ (.const v) = v
  f : ∀ f, ρ (.func f) = .func (.func f) #[] #[]
theorem Act.rho (a : Act) : Rho a.eval := ⟨fun _ => rfl, fun _ => rfl⟩
theorem wp_val {o : Oper} {a : Act} {w w' : World} {v : Value} {K : Act → World → Prop} {ρ : Operand → Value} (hρ : a.eval = ρ) (h : (execOp ρ o).run P w = .ok (.value v) w') (hK : K (a.put o.dst v) w') : o.wp P a w K Q := by
  subst hρ
  unfold Oper.wp
  rw [h]
  exact hK
theorem wp_skip {o : Oper} {a : Act} {w w' : World} {K : Act → World → Prop} {ρ : Operand → Value} (hρ : a.eval = ρ) (h : (execOp ρ o).run P w = .ok .skip w') (hK : K (a.put o.dst undef) w') : o.wp P a w K Q := by
  subst hρ
  unfold Oper.wp
  rw [h]
  exact hK
theorem wp_call {o : Oper} {a : Act} {w : World} {f : FuncId} {args : Array Value} {K : Act → World → Prop} {ρ : Operand → Value} (hρ : a.eval = ρ) (h : (execOp ρ o).run P w = .ok (.enter f args) w) (hc : Calls P f args w fun e w' => ∃ v, e = .returned v ∧ K (a.put o.dst v) w') : o.wp P a w K Q := by
  subst hρ
  unfold Oper.wp
  rw [h, Oper.upon_enter]
  refine hc.mono ?_
  rintro e w' ⟨v, rfl, k⟩
  exact k
end

/-- four cells of a block of its own, that may be written -/
structure QB (w : World) (b : Nat) (v0 v1 v2 v3 : Value) : Prop where
  c0 : w.cell? ⟨b, 0, none⟩ = some v0
  c1 : w.cell? ⟨b, 1, none⟩ = some v1
  c2 : w.cell? ⟨b, 2, none⟩ = some v2
  c3 : w.cell? ⟨b, 3, none⟩ = some v3
  z0 : w.frozen? ⟨b, 0, none⟩ = false
  z1 : w.frozen? ⟨b, 1, none⟩ = false
  z2 : w.frozen? ⟨b, 2, none⟩ = false
  z3 : w.frozen? ⟨b, 3, none⟩ = false
theorem QB.kept {Z : Nat → Prop} {w w' : World} {b : Nat} {v0 v1 v2 v3 : Value} (h : QB w b v0 v1 v2 v3) (k : Kept Z w w') (hz : Z b) : QB w' b v0 v1 v2 v3 :=
  ⟨k.cell hz h.c0, k.cell hz h.c1, k.cell hz h.c2, k.cell hz h.c3, (k.frozen hz (cell_lt h.c0)).trans h.z0, (k.frozen hz (cell_lt h.c0)).trans h.z1, (k.frozen hz (cell_lt h.c0)).trans h.z2, (k.frozen hz (cell_lt h.c0)).trans h.z3⟩
theorem QB.set {w : World} {b : Nat} {v0 v1 v2 v3 : Value} (h : QB w b v0 v1 v2 v3) (u0 u1 u2 u3 : Value) : QB ((((w.setCell ⟨b, 0, none⟩ u0).setCell ⟨b, 1, none⟩ u1).setCell ⟨b, 2, none⟩ u2).setCell ⟨b, 3, none⟩ u3) b u0 u1 u2 u3 := by
  obtain ⟨c0, c1, c2, c3, z0, z1, z2, z3⟩ := h
  constructor <;> simp [go_sem, c0, c1, c2, c3, z0, z1, z2, z3]
/-- what is told lies in the blocks from lo to hi -/
def RegTold (lo hi : Nat) (w : World) (T : ToldL) (P : ToldP) : Prop := ∃ w1, NewTold lo w1 T P ∧ w1.heap.size ≤ hi ∧ Kept (fun z => lo ≤ z ∧ z < hi) w1 w
theorem RegTold.now {lo : Nat} {w : World} {T : ToldL} {P : ToldP} (h : NewTold lo w T P) : RegTold lo w.heap.size w T P := ⟨w, h, Nat.le_refl _, Kept.refl _ _⟩
theorem RegTold.kept {Z : Nat → Prop} {lo hi : Nat} {w w' : World} {T : ToldL} {P : ToldP} (h : RegTold lo hi w T P) (k : Kept Z w w') (hz : ∀ z, lo ≤ z → z < hi → Z z) : RegTold lo hi w' T P := by
  obtain ⟨w1, h1, h2, h3⟩ := h
  exact ⟨w1, h1, h2, h3.trans (k.sub fun z _ h => hz z h.1 h.2)⟩
theorem RegTold.new {lo hi : Nat} {w : World} {T : ToldL} {P : ToldP} (h : RegTold lo hi w T P) : NewTold lo w T P := by
  obtain ⟨w1, h1, h2, h3⟩ := h
  exact h1.kept h3 fun b hb hl => ⟨hb, Nat.lt_of_lt_of_le hl h2⟩
theorem toldv_inj {T : ToldL} {P P' : ToldP} (h : T.v P = T.v P') : P = P' := by
  obtain ⟨a, b, c, d, e, f⟩ := P
  obtain ⟨a', b', c', d', e', f'⟩ := P'
  simp only [ToldL.v, Value.agg.injEq, Array.mk.injEq, List.cons.injEq, Value.slice.injEq] at h
  obtain ⟨_, ⟨h1, _, h2⟩, ⟨h3, _, h4⟩, ⟨h5, _, h6⟩, _⟩ := h
  subst h1 h2 h3 h4 h5 h6
  rfl
end Go.Proofs.YteimdhkajbldjaaGreat
namespace Go.Proofs.YteimdhkajbldjaaGreat
open Go.RowKit Go.Sort

def idC : Nat → ByteArray
  | 0 => ⟨#[97]⟩
  | 1 => ⟨#[98]⟩
  | _ => ⟨#[99]⟩
theorem idC_list {i : Nat} (h : i < [Value.string ⟨#[97]⟩, .string ⟨#[98]⟩, .string ⟨#[99]⟩].length) : [Value.string ⟨#[97]⟩, .string ⟨#[98]⟩, .string ⟨#[99]⟩][i] = .string (idC i) := by
  match i, h with
  | 0, _ => rfl
  | 1, _ => rfl
  | 2, _ => rfl
theorem idC_nm (i : Nat) : isNm (idC i) = true := by
  match i with
  | 0 => decide
  | 1 => decide
  | i + 2 => show isNm ⟨#[99]⟩ = true; decide
def kdC : Nat → Int
  | 0 => 2 | 1 => 2 | 2 => 2 | 3 => 3 | 4 => 4 | 5 => 5 | 6 => 6 | _ => 1
theorem kdC_in (i : Nat) : 1 ≤ kdC i ∧ kdC i ≤ 6 := by
  match i with
  | 0 => decide
  | 1 => decide
  | 2 => decide
  | 3 => decide
  | 4 => decide
  | 5 => decide
  | 6 => decide
  | i + 7 => show (1 : Int) ≤ 1 ∧ (1 : Int) ≤ 6; omega
theorem kdC_cell {i : Nat} (w : World) (h : i < 8) (t : TypeId) : (w.alloc (.cells #[.int .i64 2, .int .i64 2, .int .i64 2, .int .i64 3, .int .i64 4, .int .i64 5, .int .i64 6, .int .i64 1] t)).cell? ⟨w.heap.size, i, none⟩ = some (.int .i64 (kdC i)) := by
  match i, h with
  | 0, _ => simp [go_sem, kdC]
  | 1, _ => simp [go_sem, kdC]
  | 2, _ => simp [go_sem, kdC]
  | 3, _ => simp [go_sem, kdC]
  | 4, _ => simp [go_sem, kdC]
  | 5, _ => simp [go_sem, kdC]
  | 6, _ => simp [go_sem, kdC]
  | 7, _ => simp [go_sem, kdC]
theorem xyS_cell {i : Nat} (w : World) (h : i < 2) (t : TypeId) : (w.alloc (.cells #[.string ⟨#[120]⟩, .string ⟨#[121]⟩] t)).cell? ⟨w.heap.size, i, none⟩ = some (.string (xyS i)) := by
  match i, h with
  | 0, _ => simp [go_sem, xyS]
  | 1, _ => simp [go_sem, xyS]
theorem ops_rec (i m : Nat) {ct : Int} (h0 : 0 ≤ ct) (h8 : ct < 8) : RecL.Ok ⟨idC i, ct, [⟨⟨#[107]⟩, xyS m⟩], []⟩ :=
  ⟨idC_nm i, h0, (by show ct ≤ 255; omega), (by show 1 ≤ 6; decide), (by show _ ≤ 4; simp), fun i f hi hf => by
    have hi : i < 1 := hi
    obtain rfl : i = 0 := by omega
    cases hf
    exact ⟨xyS_fd m, fun j g e _ => by omega⟩, fun i f hi => absurd hi (Nat.not_lt_zero i)⟩
def opsR : Nat → RuleL
  | 0 => ⟨0, -1, 0, 40, 1, true⟩
  | 1 => ⟨1, -1, 0, 20, 3, true⟩
  | 2 => ⟨2, 0, 0, 40, 7, true⟩
  | _ => ⟨-1, -1, 10, 12, 2, false⟩
theorem opsR_ok : rulesErr 4 opsR = 0 := by
  refine rulesErr_ok (by omega) fun k hk => ?_
  match k, hk with
  | 0, _ => exact ⟨⟨by show (-1 : Int) ≤ 0 ∧ (0 : Int) ≤ 7; omega, by show (-1 : Int) ≤ -1 ∧ (-1 : Int) ≤ 3; omega, by show (0 : Int) ≤ 0; omega, by show (40 : Int) ≤ 1000; omega, by show (0 : Int) ≤ 1 ∧ (1 : Int) ≤ 255; omega⟩, by show (0 : Int) < 40; omega⟩
  | 1, _ => exact ⟨⟨by show (-1 : Int) ≤ 1 ∧ (1 : Int) ≤ 7; omega, by show (-1 : Int) ≤ -1 ∧ (-1 : Int) ≤ 3; omega, by show (0 : Int) ≤ 0; omega, by show (20 : Int) ≤ 1000; omega, by show (0 : Int) ≤ 3 ∧ (3 : Int) ≤ 255; omega⟩, by show (0 : Int) < 20; omega⟩
  | 2, _ => exact ⟨⟨by show (-1 : Int) ≤ 2 ∧ (2 : Int) ≤ 7; omega, by show (-1 : Int) ≤ 0 ∧ (0 : Int) ≤ 3; omega, by show (0 : Int) ≤ 0; omega, by show (40 : Int) ≤ 1000; omega, by show (0 : Int) ≤ 7 ∧ (7 : Int) ≤ 255; omega⟩, by show (0 : Int) < 40; omega⟩
  | 3, _ => exact ⟨⟨by show (-1 : Int) ≤ -1 ∧ (-1 : Int) ≤ 7; omega, by show (-1 : Int) ≤ -1 ∧ (-1 : Int) ≤ 3; omega, by show (0 : Int) ≤ 10; omega, by show (12 : Int) ≤ 1000; omega, by show (0 : Int) ≤ 2 ∧ (2 : Int) ≤ 255; omega⟩, by show (10 : Int) < 12; omega⟩
/-- the operation that lies in the box, its fields in block bf -/
def opsO (K j m : Nat) (xr xy xt ct : Int) (bf : Nat) : OO := ⟨⟨kdC K, ⟨xr, xy, xt⟩, 0, noR, ⟨idC j, ct, [⟨⟨#[107]⟩, xyS m⟩], []⟩, idC j, ⟨⟨#[107]⟩, ⟨#[120]⟩⟩⟩, ⟨none, 0, ⟨some ⟨bf, 0, none⟩, 1, none, 0⟩⟩⟩
theorem OpBox.kept {Z : Nat → Prop} {w w' : World} {b : Nat} {x : OO} (h : OpBox w b x) (k : Kept Z w w') (hz : Z b) : OpBox w' b x := ⟨h.at_.kept k hz, fun o => (k.frozen hz (cell_lt h.at_.c0)).trans (h.z o)⟩

/-- what the operations of the great region leave -/
def PhiO (rb ro rn rc K m j : Nat) (z0 z1 xr xy xt ct : Int) (i lo hi : Nat) (v : Nat → Value) (w : World) : Prop :=
  match i with
  | 0 => hi = lo + 1 ∧ v 0 = .slice (some ⟨lo, 0, none⟩) 8 8 ∧ w.cell? ⟨lo, K, none⟩ = some (.int .i64 (kdC K))
  | 1 => v 1 = .slice (some ⟨rb, ro, none⟩) rn rc
  | 2 => v 2 = .pointer (some ⟨rb, ro, none⟩)
  | 3 => v 3 = .int .i64 z0
  | 4 => v 4 = .int .i64 (wrap64 (z0.tdiv 3))
  | 5 => v 5 = .int .i64 (K : Int)
  | 6 => ∃ b, v 0 = .slice (some ⟨b, 0, none⟩) 8 8 ∧ v 6 = .pointer (some ⟨b, K, none⟩)
  | 7 => v 7 = .int .i64 (kdC K)
  | 8 => v 8 = .agg #[.int .i64 xr, .int .i64 xy, .int .i64 xt]
  | 9 => v 9 = .string (idC j)
  | 10 => v 10 = .string (idC j)
  | 11 => v 11 = .slice (some ⟨rb, ro, none⟩) rn rc
  | 12 => v 12 = .pointer (some ⟨rb, ro + 1, none⟩)
  | 13 => v 13 = .int .i64 z1
  | 14 => v 14 = .int .i64 ct
  | 15 => hi = lo + 1 ∧ v 15 = .slice (some ⟨lo, 0, none⟩) 2 2 ∧ w.cell? ⟨lo, m, none⟩ = some (.string (xyS m))
  | 16 => v 16 = .slice (some ⟨rb, ro, none⟩) rn rc
  | 17 => v 17 = .pointer (some ⟨rb, ro + 1, none⟩)
  | 18 => v 18 = .int .i64 z1
  | 19 => v 19 = .int .i64 (m : Int)
  | 20 => ∃ b, v 15 = .slice (some ⟨b, 0, none⟩) 2 2 ∧ v 20 = .pointer (some ⟨b, m, none⟩)
  | 21 => v 21 = .string (xyS m)
  | 22 => v 22 = .agg #[.string ⟨#[107]⟩, .string (xyS m)]
  | 23 => hi = lo + 1 ∧ v 23 = .slice (some ⟨lo, 0, none⟩) 1 1 ∧ w.ownsRow lo 37 2 (.slice (some ⟨lo, 0, none⟩) 1 1) 1 [.string ⟨#[107]⟩, .string (xyS m)]
  | 24 => ∃ b, v 23 = .slice (some ⟨b, 0, none⟩) 1 1 ∧ v 24 = .agg #[.string (idC j), .int .i64 ct, .slice (some ⟨b, 0, none⟩) 1 1, .slice none 0 0]
  | 25 => v 25 = .agg #[.string ⟨#[107]⟩, .string ⟨#[120]⟩]
  | 26 => ∃ b, v 23 = .slice (some ⟨b, 0, none⟩) 1 1 ∧ v 26 = .agg #[.int .i64 (kdC K), .int .i64 xr, .int .i64 xy, .int .i64 xt, .slice none 0 0, .string (idC j), .int .i64 ct, .slice (some ⟨b, 0, none⟩) 1 1, .slice none 0 0, .string (idC j), .string ⟨#[107]⟩, .string ⟨#[120]⟩]
  | 27 => hi = lo + 1 ∧ v 27 = .pointer (some ⟨lo, 0, none⟩) ∧ ∃ y, OpBox w lo y
  | 28 => hi = lo + 1 ∧ v 27 = .pointer (some ⟨lo, 0, none⟩) ∧ ∃ b, v 23 = .slice (some ⟨b, 0, none⟩) 1 1 ∧ OpBox w lo (opsO K j m xr xy xt ct b)
  | _ => True
theorem PhiO.mono {rb ro rn rc K m j : Nat} {z0 z1 xr xy xt ct : Int} {S : Nat} (i lo hi : Nat) (w w' : World) (v : Nat → Value) (h : PhiO rb ro rn rc K m j z0 z1 xr xy xt ct i lo hi v w) (k : Kept (fun z => z < S ∨ (lo ≤ z ∧ z < hi)) w w') : PhiO rb ro rn rc K m j z0 z1 xr xy xt ct i lo hi v w' := by
  match i, h with
  | 0, h => exact ⟨h.1, h.2.1, k.cell (.inr ⟨Nat.le_refl _, by have := h.1; omega⟩) h.2.2⟩
  | 1, h => exact h
  | 2, h => exact h
  | 3, h => exact h
  | 4, h => exact h
  | 5, h => exact h
  | 6, h => exact h
  | 7, h => exact h
  | 8, h => exact h
  | 9, h => exact h
  | 10, h => exact h
  | 11, h => exact h
  | 12, h => exact h
  | 13, h => exact h
  | 14, h => exact h
  | 15, h => exact ⟨h.1, h.2.1, k.cell (.inr ⟨Nat.le_refl _, by have := h.1; omega⟩) h.2.2⟩
  | 16, h => exact h
  | 17, h => exact h
  | 18, h => exact h
  | 19, h => exact h
  | 20, h => exact h
  | 21, h => exact h
  | 22, h => exact h
  | 23, h => exact ⟨h.1, h.2.1, own_kept h.2.2 k (fun b hb => by cases hb; exact .inr (show lo ≤ lo ∧ lo < hi from ⟨Nat.le_refl _, by have := h.1; omega⟩))⟩
  | 24, h => exact h
  | 25, h => exact h
  | 26, h => exact h
  | 27, h => obtain ⟨h1, h2, y, h3⟩ := h; exact ⟨h1, h2, y, h3.kept k (.inr ⟨Nat.le_refl _, by omega⟩)⟩
  | 28, h => obtain ⟨h1, h2, b, h3, h4⟩ := h; exact ⟨h1, h2, b, h3, h4.kept k (.inr ⟨Nat.le_refl _, by omega⟩)⟩
  | n + 29, _ => exact trivial
theorem PhiO.dep {rb ro rn rc K m j : Nat} {z0 z1 xr xy xt ct : Int} (i lo hi : Nat) (w : World) (v v' : Nat → Value) (h : PhiO rb ro rn rc K m j z0 z1 xr xy xt ct i lo hi v w) (e : v i = v' i) (e0 : i = 6 → v 0 = v' 0) (e15 : i = 20 → v 15 = v' 15) (e23 : i = 24 ∨ i = 26 ∨ i = 28 → v 23 = v' 23) (e27 : i = 28 → v 27 = v' 27) : PhiO rb ro rn rc K m j z0 z1 xr xy xt ct i lo hi v' w := by
  match i, h, e, e0, e15, e23, e27 with
  | 0, h, e, e0, e15, e23, e27 => exact ⟨h.1, e.symm.trans h.2.1, h.2.2⟩
  | 1, h, e, e0, e15, e23, e27 => exact e.symm.trans h
  | 2, h, e, e0, e15, e23, e27 => exact e.symm.trans h
  | 3, h, e, e0, e15, e23, e27 => exact e.symm.trans h
  | 4, h, e, e0, e15, e23, e27 => exact e.symm.trans h
  | 5, h, e, e0, e15, e23, e27 => exact e.symm.trans h
  | 6, h, e, e0, e15, e23, e27 => obtain ⟨b, h1, h2⟩ := h; exact ⟨b, (e0 rfl).symm.trans h1, e.symm.trans h2⟩
  | 7, h, e, e0, e15, e23, e27 => exact e.symm.trans h
  | 8, h, e, e0, e15, e23, e27 => exact e.symm.trans h
  | 9, h, e, e0, e15, e23, e27 => exact e.symm.trans h
  | 10, h, e, e0, e15, e23, e27 => exact e.symm.trans h
  | 11, h, e, e0, e15, e23, e27 => exact e.symm.trans h
  | 12, h, e, e0, e15, e23, e27 => exact e.symm.trans h
  | 13, h, e, e0, e15, e23, e27 => exact e.symm.trans h
  | 14, h, e, e0, e15, e23, e27 => exact e.symm.trans h
  | 15, h, e, e0, e15, e23, e27 => exact ⟨h.1, e.symm.trans h.2.1, h.2.2⟩
  | 16, h, e, e0, e15, e23, e27 => exact e.symm.trans h
  | 17, h, e, e0, e15, e23, e27 => exact e.symm.trans h
  | 18, h, e, e0, e15, e23, e27 => exact e.symm.trans h
  | 19, h, e, e0, e15, e23, e27 => exact e.symm.trans h
  | 20, h, e, e0, e15, e23, e27 => obtain ⟨b, h1, h2⟩ := h; exact ⟨b, (e15 rfl).symm.trans h1, e.symm.trans h2⟩
  | 21, h, e, e0, e15, e23, e27 => exact e.symm.trans h
  | 22, h, e, e0, e15, e23, e27 => exact e.symm.trans h
  | 23, h, e, e0, e15, e23, e27 => exact ⟨h.1, e.symm.trans h.2.1, h.2.2⟩
  | 24, h, e, e0, e15, e23, e27 => obtain ⟨b, h1, h2⟩ := h; exact ⟨b, (e23 (.inl rfl)).symm.trans h1, e.symm.trans h2⟩
  | 25, h, e, e0, e15, e23, e27 => exact e.symm.trans h
  | 26, h, e, e0, e15, e23, e27 => obtain ⟨b, h1, h2⟩ := h; exact ⟨b, (e23 (.inr (.inl rfl))).symm.trans h1, e.symm.trans h2⟩
  | 27, h, e, e0, e15, e23, e27 => exact ⟨h.1, e.symm.trans h.2.1, h.2.2⟩
  | 28, h, e, e0, e15, e23, e27 => obtain ⟨h1, h2, b, h3, h4⟩ := h; exact ⟨h1, (e27 rfl).symm.trans h2, b, (e23 (.inr (.inr rfl))).symm.trans h3, h4⟩
  | n + 29, _, _, _, _, _, _ => exact trivial
def StO (i : Nat) : Option Nat := if i = 28 then some 27 else none
/-- what is asked, in a box of its own, behind the great region -/
def BoxO (K j m : Nat) (xr xy xt ct : Int) (W : World) (s : Value) (w : World) : Prop := ∃ b bf, s = .pointer (some ⟨b, 0, none⟩) ∧ Hid (OpBox w b (opsO K j m xr xy xt ct bf)) ∧ Hid (w.ownsRow W.heap.size 37 2 (.slice (some ⟨bf, 0, none⟩) 1 1) 1 [.string ⟨#[107]⟩, .string (xyS m)]) ∧ W.heap.size ≤ b ∧ Below W.heap.size W w
/-- .. behind the rules -/
def BoxdO (B b : Nat) (W w : World) : Prop := ∃ x : OO, OpBox w b x ∧ NewOp B w x ∧ AskOk x.o ∧ x.o.kind ≤ 6 ∧ Below W.heap.size W w
def OpsTo (w : World) (e : Ending) (w' : World) : Prop := ∃ A n c l, e = .returned (.slice A n c) ∧ n ≤ 25 ∧ AskRow w.heap.size w' A n c l ∧ (∀ x ∈ l, x.o.kind ≤ 6) ∧ Below w.heap.size w w'
set_option maxHeartbeats 16000000 in
theorem ops_is (a : Option Addr) (g : List RowI) (cap : Nat) (w : World) (hs : SlG w a g) (hl : g.length ≤ cap) (hm : cap ≤ maxLen) :
    Calls Tryz.prog 48 #[.slice a g.length cap] w (OpsTo w) := by
  obtain ⟨i0, hi0, hz0, hz1, hz2⟩ := info_parts Tryz.infoOp
  have HS := Lib.hid hs
  obtain ⟨n, hn⟩ : ∃ n, n = g.length := ⟨_, rfl⟩
  have HN := Lib.hid hn
  rw [← hn] at hl ⊢
  unfold maxLen at hm
  obtain ⟨N, hN⟩ : ∃ N, N = min n 25 := ⟨_, rfl⟩
  have hN1 : N ≤ n := by omega
  have hN2 : N ≤ 25 := by omega
  have hmin : min (n : Int) 25 = (N : Int) := by omega
  clear hs hn hN
  go_enter Tryz.func48, Tryz.ntmps48
  go_wp2_with fail
  go_loopw [3, 15] (fun v i wr => ∃ (k : Nat) (q : List OO), k ≤ N ∧ i = .int .i64 k ∧ Hid (AskR w.heap.size k v wr q) ∧ Hid (∀ x ∈ q, x.o.kind ≤ 6) ∧ Hid (Below w.heap.size w wr)) (fun _ i _ => N - (intOf i).toNat)
  case atStart => exact ⟨0, [], Nat.zero_le _, rfl, ⟨Nat.le_refl _, (fun x h => absurd h (by simp)), World.ownsRow_nil _ _ _ _, (fun x h => absurd h (by simp))⟩, (fun x h => absurd h (by simp)), Below.refl _ _⟩
  case round =>
    obtain ⟨k, q, hk, rfl, HR, HK6, HB⟩ := hrel
    obtain ⟨A, c, hv⟩ := OwnO.form HR.out.2.2.1
    subst hv
    obtain ⟨nq, hnq⟩ : ∃ nq, q.length = nq := ⟨_, rfl⟩
    rw [hnq] at HR ⊢
    have HNQ := Lib.hid hnq
    clear hnq
    by_cases hlt : k < N
    · obtain ⟨r, hr⟩ : ∃ r, g[k]? = some r := ⟨_, List.getElem?_eq_getElem (by rw [← HN.out]; omega)⟩
      obtain ⟨hri, b, off, rfl, hc0⟩ := (HS.out.below HB.out) k r hr
      have HRI := Lib.hid hri
      have hrl := hri.le
      have hrm := hri.max
      unfold maxLen at hrm
      have i1 : (0 : Int) ≤ (k : Int) := by omega
      have i2 : (k : Int) < (N : Int) := by omega
      obtain ⟨ra, rz, cp⟩ := r
      simp only at hrl hrm hc0
      obtain ⟨rn, hrn⟩ : ∃ rn, rz.length = rn := ⟨_, rfl⟩
      rw [hrn] at hrl hc0
      have HRN := Lib.hid hrn
      clear hr hri hrn
      by_cases h3 : rn < 3
      · have h3' : (rn : Int) < 3 := by omega
        go_wp2_with fail
        go_roundw
        case rel => exact ⟨k + 1, q, by omega, by go_num, ⟨Nat.le_trans HR.out.1 (by omega), HR.out.2⟩, HK6.out, HB.out⟩
        case measure => simp [intOf]; omega
      · obtain ⟨z0, hz0'⟩ : ∃ z, rz[0]? = some z := ⟨_, List.getElem?_eq_getElem (by rw [HRN.out]; omega)⟩
        obtain ⟨z1, hz1'⟩ : ∃ z, rz[1]? = some z := ⟨_, List.getElem?_eq_getElem (by rw [HRN.out]; omega)⟩
        obtain ⟨z2, hz2'⟩ : ∃ z, rz[2]? = some z := ⟨_, List.getElem?_eq_getElem (by rw [HRN.out]; omega)⟩
        obtain ⟨rb, ro, hra, e0⟩ := HRI.out.at_ 0 z0 hz0'
        obtain ⟨_, _, hra1, e1⟩ := HRI.out.at_ 1 z1 hz1'
        obtain ⟨_, _, hra2, e2⟩ := HRI.out.at_ 2 z2 hz2'
        simp only at hra hra1 hra2
        subst hra
        cases hra1
        cases hra2
        rw [Nat.add_zero] at e0
        have r1 : ¬ (rn : Int) < 3 := by omega
        have r2 : (2 : Int) < (rn : Int) := by omega
        have r3 : (1 : Int) < (rn : Int) := by omega
        have r4 : (0 : Int) < (rn : Int) := by omega
        have r5 : 0 < rn := by omega
        have hrb := cell_lt e0
        have HSS : Hid (∀ W, Below wr.heap.size wr W → W.cell? ⟨rb, ro, none⟩ = some (.int .i64 z0) ∧ W.cell? ⟨rb, ro + 1, none⟩ = some (.int .i64 z1) ∧ W.cell? ⟨rb, ro + 2, none⟩ = some (.int .i64 z2)) := fun W h => ⟨(h.cell (p := ⟨rb, ro, none⟩) hrb).trans e0, (h.cell (p := ⟨rb, ro + 1, none⟩) hrb).trans e1, (h.cell (p := ⟨rb, ro + 2, none⟩) hrb).trans e2⟩
        clear hz0' hz1' hz2'
        go_wp2_with fail
        go_cut [6] from 22 to 34 (fun s6 wc => Box6 ⟨(wit z0 3 : Nat), (wit z1 2 : Nat), (wit z2 30 : Nat)⟩ wr s6 wc)
        case first =>
          clear HS HN hi0 hz0 hz1 hz2 hN1 hN2 hmin hm hl HR HK6 HNQ HB HRI HRN hrm hrl r1 i1 i2 hlt hk h3 hc0
          go_region_held3 (fun w' => w'.cell? ⟨rb, ro, none⟩ = some (.int .i64 z0) ∧ w'.cell? ⟨rb, ro + 1, none⟩ = some (.int .i64 z1) ∧ w'.cell? ⟨rb, ro + 2, none⟩ = some (.int .i64 z2)) (first | assumption | exact HSS.out _ ((Below.refl _ _).alloc (Nat.le_refl _) _).drew | exact HSS.out _ (by go_grown))
            (first | (go_at_call 50; refine (wit_any _ _ _ (by decide) (by decide)).mono ?_; rintro e w' ⟨rfl, rfl⟩))
          all_goals (go_wp2_with fail; go_meet)
          all_goals
            case rel => exact ⟨wr.heap.size, rfl, ⟨by simp [go_sem], by simp [go_sem], by simp [go_sem]⟩, Nat.le_refl _, by go_grown⟩
        case rest =>
          obtain ⟨w6, hw6e⟩ : ∃ w6, w6 = wc := ⟨_, rfl⟩
          subst hw6e
          obtain ⟨b6, rfl, hw6, hb6, hBc⟩ := hcut
          obtain ⟨xr, hxr, xr0, xr3⟩ : ∃ xr : Int, ((wit z0 3 : Nat) : Int) = xr ∧ 0 ≤ xr ∧ xr < 3 := ⟨_, rfl, by omega, wit_lt z0 3 (by omega)⟩
          obtain ⟨xy, hxy, xy0, xy2⟩ : ∃ xy : Int, ((wit z1 2 : Nat) : Int) = xy ∧ 0 ≤ xy ∧ xy < 2 := ⟨_, rfl, by omega, wit_lt z1 2 (by omega)⟩
          obtain ⟨xt, hxt, xt0, xt4⟩ : ∃ xt : Int, ((wit z2 30 : Nat) : Int) = xt ∧ 0 ≤ xt ∧ xt < 30 := ⟨_, rfl, by omega, wit_lt z2 30 (by omega)⟩
          rw [hxr, hxy, hxt] at hw6
          have HWX : Hid (0 ≤ xr ∧ xr < 3 ∧ 0 ≤ xy ∧ xy < 2 ∧ 0 ≤ xt ∧ xt < 40) := ⟨xr0, xr3, xy0, xy2, xt0, by omega⟩
          obtain ⟨f0, f1, f2⟩ := hw6
          simp only at f0 f1 f2
          obtain ⟨g0, g1, g2⟩ := HSS.out w6 hBc
          have hb6l := cell_lt f0
          have hrbc := cell_lt g0
          obtain ⟨j, hj⟩ : ∃ j, wit z2 3 = j := ⟨_, rfl⟩
          have hj2 : j < 3 := by rw [← hj]; exact_mod_cast wit_lt z2 3 (by omega)
          have hj0 : (0 : Int) ≤ (j : Int) := by omega
          have hj2' : (j : Int) < 3 := by omega
          have hs7 : ∀ h, [Value.string ⟨#[97]⟩, .string ⟨#[98]⟩, .string ⟨#[99]⟩][j]'h = .string (idC j) := fun h => idC_list h
          have HJ := Lib.hid hj
          have hrb1 : rb < w6.heap.size + 1 := by omega
          have HB6 := Lib.hid hBc
          clear hj hxr hxy hxt xr0 xr3 xy0 xy2 xt0 xt4 e0 e1 e2 hBc
          go_wp2_with fail
          refine (wit_to HJ.out _ (by decide) (by decide)).mono ?_
          rintro e w' ⟨rfl, rfl⟩
          go_upto_region 8 with fail
          obtain ⟨W, hW⟩ : ∃ W, W = w6.alloc (.cells #[.string ⟨#[97]⟩, .string ⟨#[98]⟩, .string ⟨#[99]⟩] 9) := ⟨_, rfl⟩
          have hA : Below w6.heap.size w6 W := by rw [hW]; exact (Below.refl _ _).alloc (Nat.le_refl _) _
          have HBW := Lib.hid (HB6.out.trans (hA.mono HB6.out.size))
          have HS8 : Hid (∀ V, Below W.heap.size W V → V.cell? ⟨b6, 0, none⟩ = some (.int .i64 xr) ∧ V.cell? ⟨b6, 1, none⟩ = some (.int .i64 xy) ∧ V.cell? ⟨b6, 2, none⟩ = some (.int .i64 xt) ∧ V.cell? ⟨rb, ro, none⟩ = some (.int .i64 z0) ∧ V.cell? ⟨rb, ro + 1, none⟩ = some (.int .i64 z1)) := fun V h => by
            have h6 := hA.trans (h.mono hA.size)
            exact ⟨(h6.cell (p := ⟨b6, 0, none⟩) hb6l).trans f0, (h6.cell (p := ⟨b6, 1, none⟩) hb6l).trans f1, (h6.cell (p := ⟨b6, 2, none⟩) hb6l).trans f2, (h6.cell (p := ⟨rb, ro, none⟩) hrbc).trans g0, (h6.cell (p := ⟨rb, ro + 1, none⟩) hrbc).trans g1⟩
          rw [← hW]
          clear hW hA f0 f1 f2 g0 g1 g2 hs7 hrb1 hj0 hj2' HB6 hb6l hrbc
          obtain ⟨K, hK⟩ : ∃ K, wit (wrap64 (z0.tdiv 3)) 8 = K := ⟨_, rfl⟩
          obtain ⟨m, hm'⟩ : ∃ m, wit z1 2 = m := ⟨_, rfl⟩
          obtain ⟨ct, hct⟩ : ∃ ct : Int, ((wit z1 8 : Nat) : Int) = ct := ⟨_, rfl⟩
          have hK8 : K < 8 := by rw [← hK]; exact_mod_cast wit_lt (wrap64 (z0.tdiv 3)) 8 (by omega)
          have hm2 : m < 2 := by rw [← hm']; exact_mod_cast wit_lt z1 2 (by omega)
          have hct8 : 0 ≤ ct ∧ ct < 8 := by rw [← hct]; exact ⟨by omega, wit_lt z1 8 (by omega)⟩
          have HKM := Lib.hid (And.intro hK8 (And.intro hm2 hct8))
          have HK := Lib.hid hK
          have HMM := Lib.hid hm'
          have HCT := Lib.hid hct
          clear hK hm' hct hK8 hm2 hct8
          go_cut [8] from 42 to 68 (fun s8 wx => BoxO K j m xr xy xt ct W s8 wx)
          case first =>
            clear HS HN hi0 hz0 hz1 hz2 hN1 hN2 hmin hm hl HR HK6 HNQ HB HRI HRN hrm hrl r1 i1 i2 hlt hk h3 hc0 HSS HWX HBW HJ hj2 hb6
            refine wp_region_anc (P := Tryz.prog) (by kernel_rfl) (by kernel_rfl) (by kernel_rfl) (by kernel_rfl) StO (by kernel_rfl) (by rfl) (fun _ => true) (PhiO rb ro rn cp K m j z0 z1 xr xy xt ct) (fun i lo hi w w' v h _ _ k => PhiO.mono i lo hi w w' v h k) ?_ (fun _ _ _ _ h _ => by cases h) ?_ (fun _ _ _ _ => rfl) ?_ ?_ ?_
            · -- what hangs on what
              intro i o' lo hi w1 v v' ho h e hd
              exact PhiO.dep i lo hi w1 v v' h e (fun k => by subst k; exact hd 0 (.one (e := ⟨0, .data⟩) rfl (by simp) rfl)) (fun k => by subst k; exact hd 15 (.one (e := ⟨15, .data⟩) rfl (by simp) rfl)) (fun k => by rcases k with k | k | k <;> subst k; exact hd 23 (.one (e := ⟨23, .data⟩) rfl (by simp) rfl); exact hd 23 (.more (.one (e := ⟨24, .data⟩) rfl (by simp) rfl) (.one (e := ⟨23, .data⟩) rfl (by simp) rfl)); exact hd 23 (.more (.one (e := ⟨26, .data⟩) rfl (by simp) rfl) (.more (.one (e := ⟨24, .data⟩) rfl (by simp) rfl) (.one (e := ⟨23, .data⟩) rfl (by simp) rfl)))) (fun k => by subst k; exact hd 27 (.one (e := ⟨27, .data⟩) rfl (by simp) rfl))
            · -- no guards
              intro i o' j b ho hg
              rw [no_guard (by kernel_rfl) ho] at hg
              cases hg
            refine each_of ?_
            refine (And.intro ?_ (And.intro ?_ (And.intro ?_ (And.intro ?_ (And.intro ?_ (And.intro ?_ (And.intro ?_ (And.intro ?_ (And.intro ?_ (And.intro ?_ (And.intro ?_ (And.intro ?_ (And.intro ?_ (And.intro ?_ (And.intro ?_ (And.intro ?_ (And.intro ?_ (And.intro ?_ (And.intro ?_ (And.intro ?_ (And.intro ?_ (And.intro ?_ (And.intro ?_ (And.intro ?_ (And.intro ?_ (And.intro ?_ (And.intro ?_ (And.intro ?_ (And.intro (fun h => by cases h) trivial)))))))))))))))))))))))))))))
            · intro _ _ a w1 hf hb hd
              obtain ⟨ρ, hρ⟩ : ∃ ρ, a.eval = ρ := ⟨_, rfl⟩
              have rc := Act.rho a
              rw [hρ] at rc
              exact wp_val hρ (v := .slice (some ⟨w1.heap.size, 0, none⟩) 8 8) (w' := w1.alloc (.cells #[.int .i64 2, .int .i64 2, .int .i64 2, .int .i64 3, .int .i64 4, .int .i64 5, .int .i64 6, .int .i64 1] 3)) (by simp [execOp, go_sem, rc.c, rc.f]) ⟨_, rfl, (Below.refl _ _).alloc (Nat.le_refl _) _, fun vs hv _ => ⟨by simp, hv, kdC_cell w1 HKM.out.1 _⟩⟩
            · intro _ _ a w1 hf hb hd
              obtain ⟨ρ, hρ⟩ : ∃ ρ, a.eval = ρ := ⟨_, rfl⟩
              have rc := Act.rho a
              rw [hρ] at rc
              have e := hf.old (v := .slice (some ⟨rb, ro, none⟩) rn cp) 5 (by kernel_rfl) rfl
              rw [hρ] at e
              exact wp_val hρ (v := .slice (some ⟨rb, ro, none⟩) rn cp) (w' := w1) (by simp [execOp, go_sem, rc.c, rc.f, e]) ⟨_, rfl, Below.refl _ _, fun vs hv _ => hv⟩
            · intro _ _ a w1 hf hb hd
              obtain ⟨ρ, hρ⟩ : ∃ ρ, a.eval = ρ := ⟨_, rfl⟩
              have rc := Act.rho a
              rw [hρ] at rc
              obtain ⟨_, _, _, _, d0⟩ := hd 1 (.one (e := ⟨1, .data⟩) rfl (by simp) rfl)
              have f0 := hf.new 1 43 rfl
              rw [hρ] at f0
              have g0 := f0.trans d0
              exact wp_val hρ (v := .pointer (some ⟨rb, ro, none⟩)) (w' := w1) (by simp [execOp, go_sem, rc.c, rc.f, g0, r3, r4, r5]) ⟨_, rfl, Below.refl _ _, fun vs hv _ => hv⟩
            · intro _ _ a w1 hf hb hd
              obtain ⟨ρ, hρ⟩ : ∃ ρ, a.eval = ρ := ⟨_, rfl⟩
              have rc := Act.rho a
              rw [hρ] at rc
              obtain ⟨_, _, _, _, d0⟩ := hd 2 (.one (e := ⟨2, .data⟩) rfl (by simp) rfl)
              have f0 := hf.new 2 44 rfl
              rw [hρ] at f0
              have g0 := f0.trans d0
              obtain ⟨_, _, _, k0, k1⟩ := HS8.out w1 hb
              exact wp_val hρ (v := .int .i64 z0) (w' := w1) (by simp [execOp, go_sem, rc.c, rc.f, g0, k0, k1]) ⟨_, rfl, Below.refl _ _, fun vs hv _ => hv⟩
            · intro _ _ a w1 hf hb hd
              obtain ⟨ρ, hρ⟩ : ∃ ρ, a.eval = ρ := ⟨_, rfl⟩
              have rc := Act.rho a
              rw [hρ] at rc
              obtain ⟨_, _, _, _, d0⟩ := hd 3 (.one (e := ⟨3, .data⟩) rfl (by simp) rfl)
              have f0 := hf.new 3 45 rfl
              rw [hρ] at f0
              have g0 := f0.trans d0
              exact wp_val hρ (v := .int .i64 (wrap64 (z0.tdiv 3))) (w' := w1) (by simp [execOp, go_sem, rc.c, rc.f, g0, binOp]; rw [IntKind.wrap_i64]; unfold wrap64; rfl) ⟨_, rfl, Below.refl _ _, fun vs hv _ => hv⟩
            · intro _ _ a w1 hf hb hd
              obtain ⟨ρ, hρ⟩ : ∃ ρ, a.eval = ρ := ⟨_, rfl⟩
              have rc := Act.rho a
              rw [hρ] at rc
              obtain ⟨_, _, _, _, d0⟩ := hd 4 (.one (e := ⟨4, .data⟩) rfl (by simp) rfl)
              have f0 := hf.new 4 46 rfl
              rw [hρ] at f0
              have g0 := f0.trans d0
              refine wp_call hρ (f := 50) (args := #[.int .i64 (wrap64 (z0.tdiv 3)), .int .i64 8]) (by simp [execOp, go_sem, rc.c, rc.f, g0]) ((wit_any (wrap64 (z0.tdiv 3)) 8 w1 (by decide) (by decide)).mono ?_)
              rintro e w2 ⟨rfl, rfl⟩
              exact ⟨_, rfl, _, rfl, Below.refl _ _, fun vs hv _ => hv.trans (by show Value.int .i64 ((wit (wrap64 (z0.tdiv 3)) 8 : Nat) : Int) = _; rw [HK.out])⟩
            · intro _ _ a w1 hf hb hd
              obtain ⟨ρ, hρ⟩ : ∃ ρ, a.eval = ρ := ⟨_, rfl⟩
              have rc := Act.rho a
              rw [hρ] at rc
              obtain ⟨lo0, _, _, _, d0⟩ := hd 0 (.one (e := ⟨0, .data⟩) rfl (by simp) rfl)
              have f0 := hf.new 0 42 rfl
              rw [hρ] at f0
              have g0 := f0.trans d0.2.1
              obtain ⟨_, _, _, _, d1⟩ := hd 5 (.one (e := ⟨5, .data⟩) rfl (by simp) rfl)
              have f1 := hf.new 5 47 rfl
              rw [hρ] at f1
              have g1 := f1.trans d1
              have q1 : (K : Int) < 8 := by have := HKM.out; omega
              have q2 : (0 : Int) ≤ (K : Int) := by omega
              exact wp_val hρ (v := .pointer (some ⟨lo0, K, none⟩)) (w' := w1) (by simp [execOp, go_sem, rc.c, rc.f, g0, g1, q1, q2]) ⟨_, rfl, Below.refl _ _, fun vs hv hvs => ⟨lo0, (hvs 0 (.one (e := ⟨0, .data⟩) rfl (by simp) rfl)).trans d0.2.1, hv⟩⟩
            · intro _ _ a w1 hf hb hd
              obtain ⟨ρ, hρ⟩ : ∃ ρ, a.eval = ρ := ⟨_, rfl⟩
              have rc := Act.rho a
              rw [hρ] at rc
              obtain ⟨_, _, _, _, lo1, d0, d1⟩ := hd 6 (.one (e := ⟨6, .data⟩) rfl (by simp) rfl)
              obtain ⟨lo2, _, _, _, _, d2, d3⟩ := hd 0 (.more (.one (e := ⟨6, .data⟩) rfl (by simp) rfl) (.one (e := ⟨0, .data⟩) rfl (by simp) rfl))
              have he : lo2 = lo1 := by have := d2.symm.trans d0; simpa using this
              subst he
              have f0 := hf.new 6 48 rfl
              rw [hρ] at f0
              have g0 := f0.trans d1
              exact wp_val hρ (v := .int .i64 (kdC K)) (w' := w1) (by simp [execOp, go_sem, rc.c, rc.f, g0, d3]) ⟨_, rfl, Below.refl _ _, fun vs hv _ => hv⟩
            · intro _ _ a w1 hf hb hd
              obtain ⟨ρ, hρ⟩ : ∃ ρ, a.eval = ρ := ⟨_, rfl⟩
              have rc := Act.rho a
              rw [hρ] at rc
              have e := hf.old (v := .pointer (some ⟨b6, 0, none⟩)) 6 (by kernel_rfl) rfl
              rw [hρ] at e
              obtain ⟨k0, k1, k2, _, _⟩ := HS8.out w1 hb
              exact wp_val hρ (v := .agg #[.int .i64 xr, .int .i64 xy, .int .i64 xt]) (w' := w1) (by simp [execOp, go_sem, rc.c, rc.f, e, k0, k1, k2]) ⟨_, rfl, Below.refl _ _, fun vs hv _ => hv⟩
            · intro _ _ a w1 hf hb hd
              obtain ⟨ρ, hρ⟩ : ∃ ρ, a.eval = ρ := ⟨_, rfl⟩
              have rc := Act.rho a
              rw [hρ] at rc
              have e := hf.old (v := .string (idC j)) 7 (by kernel_rfl) rfl
              rw [hρ] at e
              exact wp_val hρ (v := .string (idC j)) (w' := w1) (by simp [execOp, go_sem, rc.c, rc.f, e]) ⟨_, rfl, Below.refl _ _, fun vs hv _ => hv⟩
            · intro _ _ a w1 hf hb hd
              obtain ⟨ρ, hρ⟩ : ∃ ρ, a.eval = ρ := ⟨_, rfl⟩
              have rc := Act.rho a
              rw [hρ] at rc
              have e := hf.old (v := .string (idC j)) 7 (by kernel_rfl) rfl
              rw [hρ] at e
              exact wp_val hρ (v := .string (idC j)) (w' := w1) (by simp [execOp, go_sem, rc.c, rc.f, e]) ⟨_, rfl, Below.refl _ _, fun vs hv _ => hv⟩
            · intro _ _ a w1 hf hb hd
              obtain ⟨ρ, hρ⟩ : ∃ ρ, a.eval = ρ := ⟨_, rfl⟩
              have rc := Act.rho a
              rw [hρ] at rc
              have e := hf.old (v := .slice (some ⟨rb, ro, none⟩) rn cp) 5 (by kernel_rfl) rfl
              rw [hρ] at e
              exact wp_val hρ (v := .slice (some ⟨rb, ro, none⟩) rn cp) (w' := w1) (by simp [execOp, go_sem, rc.c, rc.f, e]) ⟨_, rfl, Below.refl _ _, fun vs hv _ => hv⟩
            · intro _ _ a w1 hf hb hd
              obtain ⟨ρ, hρ⟩ : ∃ ρ, a.eval = ρ := ⟨_, rfl⟩
              have rc := Act.rho a
              rw [hρ] at rc
              obtain ⟨_, _, _, _, d0⟩ := hd 11 (.one (e := ⟨11, .data⟩) rfl (by simp) rfl)
              have f0 := hf.new 11 53 rfl
              rw [hρ] at f0
              have g0 := f0.trans d0
              exact wp_val hρ (v := .pointer (some ⟨rb, ro + 1, none⟩)) (w' := w1) (by simp [execOp, go_sem, rc.c, rc.f, g0, r3, r4, r5]) ⟨_, rfl, Below.refl _ _, fun vs hv _ => hv⟩
            · intro _ _ a w1 hf hb hd
              obtain ⟨ρ, hρ⟩ : ∃ ρ, a.eval = ρ := ⟨_, rfl⟩
              have rc := Act.rho a
              rw [hρ] at rc
              obtain ⟨_, _, _, _, d0⟩ := hd 12 (.one (e := ⟨12, .data⟩) rfl (by simp) rfl)
              have f0 := hf.new 12 54 rfl
              rw [hρ] at f0
              have g0 := f0.trans d0
              obtain ⟨_, _, _, k0, k1⟩ := HS8.out w1 hb
              exact wp_val hρ (v := .int .i64 z1) (w' := w1) (by simp [execOp, go_sem, rc.c, rc.f, g0, k0, k1]) ⟨_, rfl, Below.refl _ _, fun vs hv _ => hv⟩
            · intro _ _ a w1 hf hb hd
              obtain ⟨ρ, hρ⟩ : ∃ ρ, a.eval = ρ := ⟨_, rfl⟩
              have rc := Act.rho a
              rw [hρ] at rc
              obtain ⟨_, _, _, _, d0⟩ := hd 13 (.one (e := ⟨13, .data⟩) rfl (by simp) rfl)
              have f0 := hf.new 13 55 rfl
              rw [hρ] at f0
              have g0 := f0.trans d0
              refine wp_call hρ (f := 50) (args := #[.int .i64 z1, .int .i64 8]) (by simp [execOp, go_sem, rc.c, rc.f, g0]) ((wit_any z1 8 w1 (by decide) (by decide)).mono ?_)
              rintro e w2 ⟨rfl, rfl⟩
              exact ⟨_, rfl, _, rfl, Below.refl _ _, fun vs hv _ => hv.trans (by show Value.int .i64 ((wit z1 8 : Nat) : Int) = _; rw [HCT.out])⟩
            · intro _ _ a w1 hf hb hd
              obtain ⟨ρ, hρ⟩ : ∃ ρ, a.eval = ρ := ⟨_, rfl⟩
              have rc := Act.rho a
              rw [hρ] at rc
              exact wp_val hρ (v := .slice (some ⟨w1.heap.size, 0, none⟩) 2 2) (w' := w1.alloc (.cells #[.string ⟨#[120]⟩, .string ⟨#[121]⟩] 9)) (by simp [execOp, go_sem, rc.c, rc.f]) ⟨_, rfl, (Below.refl _ _).alloc (Nat.le_refl _) _, fun vs hv _ => ⟨by simp, hv, xyS_cell w1 HKM.out.2.1 _⟩⟩
            · intro _ _ a w1 hf hb hd
              obtain ⟨ρ, hρ⟩ : ∃ ρ, a.eval = ρ := ⟨_, rfl⟩
              have rc := Act.rho a
              rw [hρ] at rc
              have e := hf.old (v := .slice (some ⟨rb, ro, none⟩) rn cp) 5 (by kernel_rfl) rfl
              rw [hρ] at e
              exact wp_val hρ (v := .slice (some ⟨rb, ro, none⟩) rn cp) (w' := w1) (by simp [execOp, go_sem, rc.c, rc.f, e]) ⟨_, rfl, Below.refl _ _, fun vs hv _ => hv⟩
            · intro _ _ a w1 hf hb hd
              obtain ⟨ρ, hρ⟩ : ∃ ρ, a.eval = ρ := ⟨_, rfl⟩
              have rc := Act.rho a
              rw [hρ] at rc
              obtain ⟨_, _, _, _, d0⟩ := hd 16 (.one (e := ⟨16, .data⟩) rfl (by simp) rfl)
              have f0 := hf.new 16 58 rfl
              rw [hρ] at f0
              have g0 := f0.trans d0
              exact wp_val hρ (v := .pointer (some ⟨rb, ro + 1, none⟩)) (w' := w1) (by simp [execOp, go_sem, rc.c, rc.f, g0, r3, r4, r5]) ⟨_, rfl, Below.refl _ _, fun vs hv _ => hv⟩
            · intro _ _ a w1 hf hb hd
              obtain ⟨ρ, hρ⟩ : ∃ ρ, a.eval = ρ := ⟨_, rfl⟩
              have rc := Act.rho a
              rw [hρ] at rc
              obtain ⟨_, _, _, _, d0⟩ := hd 17 (.one (e := ⟨17, .data⟩) rfl (by simp) rfl)
              have f0 := hf.new 17 59 rfl
              rw [hρ] at f0
              have g0 := f0.trans d0
              obtain ⟨_, _, _, k0, k1⟩ := HS8.out w1 hb
              exact wp_val hρ (v := .int .i64 z1) (w' := w1) (by simp [execOp, go_sem, rc.c, rc.f, g0, k0, k1]) ⟨_, rfl, Below.refl _ _, fun vs hv _ => hv⟩
            · intro _ _ a w1 hf hb hd
              obtain ⟨ρ, hρ⟩ : ∃ ρ, a.eval = ρ := ⟨_, rfl⟩
              have rc := Act.rho a
              rw [hρ] at rc
              obtain ⟨_, _, _, _, d0⟩ := hd 18 (.one (e := ⟨18, .data⟩) rfl (by simp) rfl)
              have f0 := hf.new 18 60 rfl
              rw [hρ] at f0
              have g0 := f0.trans d0
              refine wp_call hρ (f := 50) (args := #[.int .i64 z1, .int .i64 2]) (by simp [execOp, go_sem, rc.c, rc.f, g0]) ((wit_any z1 2 w1 (by decide) (by decide)).mono ?_)
              rintro e w2 ⟨rfl, rfl⟩
              exact ⟨_, rfl, _, rfl, Below.refl _ _, fun vs hv _ => hv.trans (by show Value.int .i64 ((wit z1 2 : Nat) : Int) = _; rw [HMM.out])⟩
            · intro _ _ a w1 hf hb hd
              obtain ⟨ρ, hρ⟩ : ∃ ρ, a.eval = ρ := ⟨_, rfl⟩
              have rc := Act.rho a
              rw [hρ] at rc
              obtain ⟨lo0, _, _, _, d0⟩ := hd 15 (.one (e := ⟨15, .data⟩) rfl (by simp) rfl)
              have f0 := hf.new 15 57 rfl
              rw [hρ] at f0
              have g0 := f0.trans d0.2.1
              obtain ⟨_, _, _, _, d1⟩ := hd 19 (.one (e := ⟨19, .data⟩) rfl (by simp) rfl)
              have f1 := hf.new 19 61 rfl
              rw [hρ] at f1
              have g1 := f1.trans d1
              have q1 : (m : Int) < 2 := by have := HKM.out; omega
              have q2 : (0 : Int) ≤ (m : Int) := by omega
              exact wp_val hρ (v := .pointer (some ⟨lo0, m, none⟩)) (w' := w1) (by simp [execOp, go_sem, rc.c, rc.f, g0, g1, q1, q2]) ⟨_, rfl, Below.refl _ _, fun vs hv hvs => ⟨lo0, (hvs 15 (.one (e := ⟨15, .data⟩) rfl (by simp) rfl)).trans d0.2.1, hv⟩⟩
            · intro _ _ a w1 hf hb hd
              obtain ⟨ρ, hρ⟩ : ∃ ρ, a.eval = ρ := ⟨_, rfl⟩
              have rc := Act.rho a
              rw [hρ] at rc
              obtain ⟨_, _, _, _, lo1, d0, d1⟩ := hd 20 (.one (e := ⟨20, .data⟩) rfl (by simp) rfl)
              obtain ⟨lo2, _, _, _, _, d2, d3⟩ := hd 15 (.more (.one (e := ⟨20, .data⟩) rfl (by simp) rfl) (.one (e := ⟨15, .data⟩) rfl (by simp) rfl))
              have he : lo2 = lo1 := by have := d2.symm.trans d0; simpa using this
              subst he
              have f0 := hf.new 20 62 rfl
              rw [hρ] at f0
              have g0 := f0.trans d1
              exact wp_val hρ (v := .string (xyS m)) (w' := w1) (by simp [execOp, go_sem, rc.c, rc.f, g0, d3]) ⟨_, rfl, Below.refl _ _, fun vs hv _ => hv⟩
            · intro _ _ a w1 hf hb hd
              obtain ⟨ρ, hρ⟩ : ∃ ρ, a.eval = ρ := ⟨_, rfl⟩
              have rc := Act.rho a
              rw [hρ] at rc
              obtain ⟨_, _, _, _, d0⟩ := hd 21 (.one (e := ⟨21, .data⟩) rfl (by simp) rfl)
              have f0 := hf.new 21 63 rfl
              rw [hρ] at f0
              have g0 := f0.trans d0
              exact wp_val hρ (v := .agg #[.string ⟨#[107]⟩, .string (xyS m)]) (w' := w1) (by simp [execOp, go_sem, rc.c, rc.f, g0]) ⟨_, rfl, Below.refl _ _, fun vs hv _ => hv⟩
            · intro _ _ a w1 hf hb hd
              obtain ⟨ρ, hρ⟩ : ∃ ρ, a.eval = ρ := ⟨_, rfl⟩
              have rc := Act.rho a
              rw [hρ] at rc
              obtain ⟨_, _, _, _, d0⟩ := hd 22 (.one (e := ⟨22, .data⟩) rfl (by simp) rfl)
              have f0 := hf.new 22 64 rfl
              rw [hρ] at f0
              have g0 := f0.trans d0
              exact wp_val hρ (v := .slice (some ⟨w1.heap.size, 0, none⟩) 1 1) (w' := w1.alloc (.cells #[.string ⟨#[107]⟩, .string (xyS m)] 37)) (by simp [execOp, go_sem, rc.c, rc.f, g0]) ⟨_, rfl, (Below.refl _ _).alloc (Nat.le_refl _) _, fun vs hv _ => ⟨by simp, hv, World.ownsRow_lit (e := 37) (base := w1.heap.size) (size := 2) w1 #[.string ⟨#[107]⟩, .string (xyS m)] 1 (Nat.le_refl _) (by decide) rfl⟩⟩
            · intro _ _ a w1 hf hb hd
              obtain ⟨ρ, hρ⟩ : ∃ ρ, a.eval = ρ := ⟨_, rfl⟩
              have rc := Act.rho a
              rw [hρ] at rc
              obtain ⟨_, _, _, _, d0⟩ := hd 10 (.one (e := ⟨10, .data⟩) rfl (by simp) rfl)
              have f0 := hf.new 10 52 rfl
              rw [hρ] at f0
              have g0 := f0.trans d0
              obtain ⟨_, _, _, _, d1⟩ := hd 14 (.one (e := ⟨14, .data⟩) rfl (by simp) rfl)
              have f1 := hf.new 14 56 rfl
              rw [hρ] at f1
              have g1 := f1.trans d1
              obtain ⟨lo0, _, _, _, _, d2, _⟩ := hd 23 (.one (e := ⟨23, .data⟩) rfl (by simp) rfl)
              have f2 := hf.new 23 65 rfl
              rw [hρ] at f2
              have g2 := f2.trans d2
              exact wp_val hρ (v := .agg #[.string (idC j), .int .i64 ct, .slice (some ⟨lo0, 0, none⟩) 1 1, .slice none 0 0]) (w' := w1) (by simp [execOp, go_sem, rc.c, rc.f, g0, g1, g2]) ⟨_, rfl, Below.refl _ _, fun vs hv hvs => ⟨lo0, (hvs 23 (.one (e := ⟨23, .data⟩) rfl (by simp) rfl)).trans d2, hv⟩⟩
            · intro _ _ a w1 hf hb hd
              obtain ⟨ρ, hρ⟩ : ∃ ρ, a.eval = ρ := ⟨_, rfl⟩
              have rc := Act.rho a
              rw [hρ] at rc
              exact wp_val hρ (v := .agg #[.string ⟨#[107]⟩, .string ⟨#[120]⟩]) (w' := w1) (by simp [execOp, go_sem, rc.c, rc.f]) ⟨_, rfl, Below.refl _ _, fun vs hv _ => hv⟩
            · intro _ _ a w1 hf hb hd
              obtain ⟨ρ, hρ⟩ : ∃ ρ, a.eval = ρ := ⟨_, rfl⟩
              have rc := Act.rho a
              rw [hρ] at rc
              obtain ⟨_, _, _, _, d0⟩ := hd 7 (.one (e := ⟨7, .data⟩) rfl (by simp) rfl)
              have f0 := hf.new 7 49 rfl
              rw [hρ] at f0
              have g0 := f0.trans d0
              obtain ⟨_, _, _, _, d1⟩ := hd 8 (.one (e := ⟨8, .data⟩) rfl (by simp) rfl)
              have f1 := hf.new 8 50 rfl
              rw [hρ] at f1
              have g1 := f1.trans d1
              obtain ⟨_, _, _, _, d2⟩ := hd 9 (.one (e := ⟨9, .data⟩) rfl (by simp) rfl)
              have f2 := hf.new 9 51 rfl
              rw [hρ] at f2
              have g2 := f2.trans d2
              obtain ⟨_, _, _, _, b0, d3, d4⟩ := hd 24 (.one (e := ⟨24, .data⟩) rfl (by simp) rfl)
              have f3 := hf.new 24 66 rfl
              rw [hρ] at f3
              have g3 := f3.trans d4
              obtain ⟨_, _, _, _, d4⟩ := hd 25 (.one (e := ⟨25, .data⟩) rfl (by simp) rfl)
              have f4 := hf.new 25 67 rfl
              rw [hρ] at f4
              have g4 := f4.trans d4
              exact wp_val hρ (v := .agg #[.int .i64 (kdC K), .int .i64 xr, .int .i64 xy, .int .i64 xt, .slice none 0 0, .string (idC j), .int .i64 ct, .slice (some ⟨b0, 0, none⟩) 1 1, .slice none 0 0, .string (idC j), .string ⟨#[107]⟩, .string ⟨#[120]⟩]) (w' := w1) (by simp [execOp, go_sem, rc.c, rc.f, g0, g1, g2, g3, g4]) ⟨_, rfl, Below.refl _ _, fun vs hv hvs => ⟨b0, (hvs 23 (.more (.one (e := ⟨24, .data⟩) rfl (by simp) rfl) (.one (e := ⟨23, .data⟩) rfl (by simp) rfl))).trans d3, hv⟩⟩
            · intro _ _ a w1 hf hb hd
              obtain ⟨ρ, hρ⟩ : ∃ ρ, a.eval = ρ := ⟨_, rfl⟩
              have rc := Act.rho a
              rw [hρ] at rc
              exact wp_val hρ (v := .pointer (some ⟨w1.heap.size, 0, none⟩)) (w' := w1.alloc (.cells #[.int .i64 0, .int .i64 0, .int .i64 0, .int .i64 0, .slice none 0 0, .string ⟨#[]⟩, .int .i64 0, .slice none 0 0, .slice none 0 0, .string ⟨#[]⟩, .string ⟨#[]⟩, .string ⟨#[]⟩] 39)) (by simp [execOp, go_sem, rc.c, rc.f]) ⟨_, rfl, (Below.refl _ _).alloc (Nat.le_refl _) _, fun vs hv _ => ⟨by simp, hv, ⟨⟨0, ⟨0, 0, 0⟩, 0, noR, RecL.zero, ⟨#[]⟩, ⟨⟨#[]⟩, ⟨#[]⟩⟩⟩, ⟨none, 0, At.none⟩⟩, ⟨by constructor <;> simp [go_sem, RecL.zero, At.none], fun o => by simp [go_sem]⟩⟩⟩
            · -- the store
              intro i k o' ho hk a w1 lo hi hf hb h1 h2 hΦ hd
              obtain ⟨ρ, hρ⟩ : ∃ ρ, a.eval = ρ := ⟨_, rfl⟩
              have rc := Act.rho a
              rw [hρ] at rc
              have hi28 : i = 28 := by
                unfold StO at hk
                split at hk
                · assumption
                · cases hk
              subst hi28
              cases ho
              obtain rfl : k = 27 := by cases hk; rfl
              obtain ⟨e1, e2, y, q⟩ := hΦ
              obtain ⟨_, _, _, _, b0, d0, d1⟩ := hd 26 (.one (e := ⟨26, .data⟩) rfl (by simp) rfl)
              have f0 := hf.new 27 8 rfl
              have f1 := hf.new 26 68 rfl
              rw [hρ] at f0 f1
              have g0 := f0.trans e2
              have g1 := f1.trans d1
              obtain ⟨⟨q0, q1, q2, q3, q4, q5, q6, q7, q8, q9, q10, q11⟩, qz⟩ := q
              simp only [Nat.zero_add] at q0 q1 q2 q3 q4 q5 q6 q7 q8 q9 q10 q11
              have hz : ¬ ¬ (lo ≤ lo ∧ lo < hi) := fun k => k ⟨Nat.le_refl _, by omega⟩
              have hbox : OpBox ((((((((((((w1.setCell ⟨lo, 0, none⟩ (.int .i64 (kdC K))).setCell ⟨lo, 1, none⟩ (.int .i64 xr)).setCell ⟨lo, 2, none⟩ (.int .i64 xy)).setCell ⟨lo, 3, none⟩ (.int .i64 xt)).setCell ⟨lo, 4, none⟩ (.slice none 0 0)).setCell ⟨lo, 5, none⟩ (.string (idC j))).setCell ⟨lo, 6, none⟩ (.int .i64 ct)).setCell ⟨lo, 7, none⟩ (.slice (some ⟨b0, 0, none⟩) 1 1)).setCell ⟨lo, 8, none⟩ (.slice none 0 0)).setCell ⟨lo, 9, none⟩ (.string (idC j))).setCell ⟨lo, 10, none⟩ (.string ⟨#[107]⟩)).setCell ⟨lo, 11, none⟩ (.string ⟨#[120]⟩)) lo (opsO K j m xr xy xt ct b0) := by
                refine ⟨?_, fun o => by simp only [World.frozen?_setCell]; exact qz o⟩
                constructor <;> simp [go_sem, opsO, q0, q1, q2, q3, q4, q5, q6, q7, q8, q9, q10, q11]
              have hkept : Kept (fun z => ¬ (lo ≤ z ∧ z < hi)) w1 ((((((((((((w1.setCell ⟨lo, 0, none⟩ (.int .i64 (kdC K))).setCell ⟨lo, 1, none⟩ (.int .i64 xr)).setCell ⟨lo, 2, none⟩ (.int .i64 xy)).setCell ⟨lo, 3, none⟩ (.int .i64 xt)).setCell ⟨lo, 4, none⟩ (.slice none 0 0)).setCell ⟨lo, 5, none⟩ (.string (idC j))).setCell ⟨lo, 6, none⟩ (.int .i64 ct)).setCell ⟨lo, 7, none⟩ (.slice (some ⟨b0, 0, none⟩) 1 1)).setCell ⟨lo, 8, none⟩ (.slice none 0 0)).setCell ⟨lo, 9, none⟩ (.string (idC j))).setCell ⟨lo, 10, none⟩ (.string ⟨#[107]⟩)).setCell ⟨lo, 11, none⟩ (.string ⟨#[120]⟩)) := by
                exact ((((((((((((Kept.setCell w1 (a := ⟨lo, 0, none⟩) hz _).trans (Kept.setCell _ (a := ⟨lo, 1, none⟩) hz _)).trans (Kept.setCell _ (a := ⟨lo, 2, none⟩) hz _)).trans (Kept.setCell _ (a := ⟨lo, 3, none⟩) hz _)).trans (Kept.setCell _ (a := ⟨lo, 4, none⟩) hz _)).trans (Kept.setCell _ (a := ⟨lo, 5, none⟩) hz _)).trans (Kept.setCell _ (a := ⟨lo, 6, none⟩) hz _)).trans (Kept.setCell _ (a := ⟨lo, 7, none⟩) hz _)).trans (Kept.setCell _ (a := ⟨lo, 8, none⟩) hz _)).trans (Kept.setCell _ (a := ⟨lo, 9, none⟩) hz _)).trans (Kept.setCell _ (a := ⟨lo, 10, none⟩) hz _)).trans (Kept.setCell _ (a := ⟨lo, 11, none⟩) hz _))
              exact wp_skip hρ (w' := ((((((((((((w1.setCell ⟨lo, 0, none⟩ (.int .i64 (kdC K))).setCell ⟨lo, 1, none⟩ (.int .i64 xr)).setCell ⟨lo, 2, none⟩ (.int .i64 xy)).setCell ⟨lo, 3, none⟩ (.int .i64 xt)).setCell ⟨lo, 4, none⟩ (.slice none 0 0)).setCell ⟨lo, 5, none⟩ (.string (idC j))).setCell ⟨lo, 6, none⟩ (.int .i64 ct)).setCell ⟨lo, 7, none⟩ (.slice (some ⟨b0, 0, none⟩) 1 1)).setCell ⟨lo, 8, none⟩ (.slice none 0 0)).setCell ⟨lo, 9, none⟩ (.string (idC j))).setCell ⟨lo, 10, none⟩ (.string ⟨#[107]⟩)).setCell ⟨lo, 11, none⟩ (.string ⟨#[120]⟩))) (by simp [execOp, go_sem, g0, g1, q0, q1, q2, q3, q4, q5, q6, q7, q8, q9, q10, q11, qz]) ⟨rfl, hkept, ⟨e1, e2, _, hbox⟩, ⟨e1, e2, b0, d0, hbox⟩⟩
            · -- behind it
              intro v lo hi w1 hb hall
              obtain ⟨l23, _, _, e23, r23⟩ := hall 23 (by decide)
              obtain ⟨l28, _, k28, e27, b0, e23', q28⟩ := hall 28 (by decide)
              have he : lo 23 = b0 := by have := e23.symm.trans e23'; simpa using this
              subst he
              have HRES : Hid (BoxO K j m xr xy xt ct W (.pointer (some ⟨lo 28, 0, none⟩)) w1) := ⟨_, _, rfl, q28, own_low r23 l23, l28, hb⟩
              clear hall e23 e23' q28 r23 l23 l28 k28 hb
              simp only [putAll, Act.put, List.setIfInBounds_toArray, List.set_cons_zero, List.set_cons_succ, Nat.zero_add, Nat.reduceAdd]
              rw [e27]
              clear e27
              generalize v 0 = y0
              generalize v 1 = y1
              generalize v 2 = y2
              generalize v 3 = y3
              generalize v 4 = y4
              generalize v 5 = y5
              generalize v 6 = y6
              generalize v 7 = y7
              generalize v 8 = y8
              generalize v 9 = y9
              generalize v 10 = y10
              generalize v 11 = y11
              generalize v 12 = y12
              generalize v 13 = y13
              generalize v 14 = y14
              generalize v 15 = y15
              generalize v 16 = y16
              generalize v 17 = y17
              generalize v 18 = y18
              generalize v 19 = y19
              generalize v 20 = y20
              generalize v 21 = y21
              generalize v 22 = y22
              generalize v 23 = y23
              generalize v 24 = y24
              generalize v 25 = y25
              generalize v 26 = y26
              go_wp2_with fail
              go_meet
              case rel => exact HRES.out

          case rest =>
            obtain ⟨w8, hw8e⟩ : ∃ w8, w8 = wc := ⟨_, rfl⟩
            subst hw8e
            obtain ⟨b8, bf, rfl, hbx, hfo, hb8, hB8⟩ := hcut
            have HBX8 := Lib.hid hbx.out
            have HFO := Lib.hid hfo.out
            have HB8 := Lib.hid hB8
            have HBWS : Hid (w.heap.size ≤ W.heap.size) := Nat.le_trans HB.out.size HBW.out.size
            have HAO : Hid (AskOk (opsO K j m xr xy xt ct bf).o) := ⟨HWX.out.1, HWX.out.2.1, HWX.out.2.2.1, HWX.out.2.2.2.1, HWX.out.2.2.2.2.1, HWX.out.2.2.2.2.2, (kdC_in K).1, Int.le_trans (kdC_in K).2 (by decide), idC_nm j, rfl, ops_rec j m HKM.out.2.2.1 HKM.out.2.2.2, kx_fd, rfl⟩
            obtain ⟨⟨c0, c1, c2, c3, c4, c5, c6, c7, c8, c9, c10, c11⟩, hz⟩ := hbx.out
            simp only [Nat.zero_add] at c0 c1 c2 c3 c4 c5 c6 c7 c8 c9 c10 c11
            have z4' := hz 4
            have HNO : Hid (NewOp w.heap.size w8 (opsO K j m xr xy xt ct bf)) := ⟨World.ownsRow_nil _ _ _ _, ⟨own_low HFO.out HBWS.out, World.ownsRow_nil _ _ _ _⟩⟩
            clear hbx hfo hB8 hz
            have c0' : w8.cell? ⟨b8, 0, none⟩ = some (.int .i64 (kdC K)) := c0
            have c4' : w8.cell? ⟨b8, 4, none⟩ = some (.slice none 0 0) := c4
            have hb8l : b8 < w8.heap.size := cell_lt c0
            clear c0 c1 c2 c3 c4 c5 c6 c7 c8 c9 c10 c11
            by_cases h1 : kdC K = 1
            · have e1 : (kdC K == 1) = true := by simpa using h1
              clear h1
              go_upto_region 11 with fail
              obtain ⟨x, w10, hw10, hbx, hnew, hok, hx6, hbel⟩ : ∃ (x : OO) (w10 : World), w10 = ((w8.setCell ⟨b8, 4, none⟩ (.slice (some ⟨w8.heap.size, 0, none⟩) 4 4)).alloc (.cells #[.int .i64 0, .int .i64 (-1), .int .i64 0, .int .i64 40, .int .i64 1, .bool true, .int .i64 1, .int .i64 (-1), .int .i64 0, .int .i64 20, .int .i64 3, .bool true, .int .i64 2, .int .i64 0, .int .i64 0, .int .i64 40, .int .i64 7, .bool true, .int .i64 (-1), .int .i64 (-1), .int .i64 10, .int .i64 12, .int .i64 2, .bool false] 59)) ∧ OpBox w10 b8 x ∧ NewOp w.heap.size w10 x ∧ AskOk x.o ∧ x.o.kind ≤ 6 ∧ Below W.heap.size W w10 := by
                  obtain ⟨V, hV⟩ : ∃ V, V = w8.setCell ⟨b8, 4, none⟩ (.slice (some ⟨w8.heap.size, 0, none⟩) 4 4) := ⟨_, rfl⟩
                  have hs : V.heap.size = w8.heap.size := by rw [hV]; simp [World.setCell]
                  have hbV := HBX8.out.rules (some ⟨w8.heap.size, 0, none⟩) 4 4 opsR
                  rw [← hV] at hbV ⊢
                  have hkV : Kept (fun z => z ≠ b8) w8 V := by rw [hV]; exact Kept.setCell w8 (fun k => k rfl) _
                  have hbb : Below V.heap.size V (V.alloc (.cells #[.int .i64 0, .int .i64 (-1), .int .i64 0, .int .i64 40, .int .i64 1, .bool true, .int .i64 1, .int .i64 (-1), .int .i64 0, .int .i64 20, .int .i64 3, .bool true, .int .i64 2, .int .i64 0, .int .i64 0, .int .i64 40, .int .i64 7, .bool true, .int .i64 (-1), .int .i64 (-1), .int .i64 10, .int .i64 12, .int .i64 2, .bool false] 59)) := (Below.refl _ _).alloc (Nat.le_refl _) _
                  have ho := World.ownsRow_lit (e := 59) (base := w.heap.size) (size := 6) V #[.int .i64 0, .int .i64 (-1), .int .i64 0, .int .i64 40, .int .i64 1, .bool true, .int .i64 1, .int .i64 (-1), .int .i64 0, .int .i64 20, .int .i64 3, .bool true, .int .i64 2, .int .i64 0, .int .i64 0, .int .i64 40, .int .i64 7, .bool true, .int .i64 (-1), .int .i64 (-1), .int .i64 10, .int .i64 12, .int .i64 2, .bool false] 4 (by rw [hs]; have := HBWS.out; have := HB8.out.size; omega) (by decide) rfl
                  rw [hs] at ho
                  have hne : bf ≠ b8 := fun e => by
                    have h1 := World.ownsRow.cells HFO.out (g := bf) rfl 0 (.string ⟨#[107]⟩) rfl
                    have hadd : (⟨bf, 0, none⟩ : Addr).add 0 = ⟨bf, 0, none⟩ := by unfold Addr.add; split <;> simp_all
                    rw [hadd, e] at h1
                    have h2 := HBX8.out.at_.c0
                    rw [h1] at h2
                    cases h2
                  have hf : w.heap.size ≤ w.heap.size := Nat.le_refl _
                  have hfV := own_kept HNO.out.r.f hkV (fun b hb => by cases hb; exact hne)
                  exact ⟨_, _, rfl, hbV.below hbb, ⟨ho, ⟨own_below hfV hbb, World.ownsRow_nil _ _ _ _⟩⟩, { HAO.out with rules := opsR_ok }, (kdC_in K).2, (show Below W.heap.size W V by rw [hV]; exact HB8.out.setCell (p := ⟨b8, 4, none⟩) hb8 _).trans (hbb.mono (by rw [hs]; exact HB8.out.size))⟩
              clear c0' c4' z4' e1 hb8l
              rw [← hw10]
              clear hw10
              obtain ⟨⟨c0, c1, c2, c3, c4, c5, c6, c7, c8, c9, c10, c11⟩, _⟩ := hbx
              simp only [Nat.zero_add] at c0 c1 c2 c3 c4 c5 c6 c7 c8 c9 c10 c11
              have hB10 : Below wr.heap.size wr w10 := HBW.out.trans (hbel.mono HBW.out.size)
              obtain ⟨W11, hW11⟩ : ∃ W11, W11 = w10.alloc (.cells #[.int .i64 x.o.kind, .int .i64 x.o.who.role, .int .i64 x.o.who.why, .int .i64 x.o.who.time, .slice x.P.ra x.o.n x.P.rc, .string x.o.r.id, .int .i64 x.o.r.cats, .slice x.P.p.fa x.o.r.fs.length x.P.p.fc, .slice x.P.p.ra x.o.r.rs.length x.P.p.rc, .string x.o.id, .string x.o.f.key, .string x.o.f.val] 39) := ⟨_, rfl⟩
              have hA11 : Below w10.heap.size w10 W11 := by rw [hW11]; exact (Below.refl _ _).alloc (Nat.le_refl _) _
              have hB11 := HB.out.trans ((hB10.trans (hA11.mono hB10.size)).mono HB.out.size)
              have hrow2 : OwnO w.heap.size W11 (.slice A nq c) q := own_below (own_below HR.out.2.2.1 hB10) hA11
              have hall2 : ∀ y ∈ q ++ [x], NewOp w.heap.size W11 y := fun y hy => by
                rcases List.mem_append.1 hy with hy | hy
                · exact ((HR.out.2.2.2 y hy).below hB10).below hA11
                · rw [List.mem_singleton] at hy; subst hy; exact hnew.below hA11
              have hoks : ∀ y ∈ q ++ [x], AskOk y.o := fun y hy => by
                rcases List.mem_append.1 hy with hy | hy
                · exact HR.out.2.1 y hy
                · rw [List.mem_singleton] at hy; subst hy; exact hok
              have hnews := cell_op w10 x 39
              rw [← hW11] at hnews
              have hlast : w.heap.size ≤ W11.heap.size := hB11.size
              have hqk : nq ≤ k := by have := HR.out.1; have := HNQ.out; omega
              have hn80 : nq < 1000 := by omega
              have HR2 := Lib.hid hrow2
              have HALL := Lib.hid hall2
              have HOKS := Lib.hid hoks
              have HNE := Lib.hid hnews
              have HB11 := Lib.hid hB11
              have HW11 := Lib.hid hW11
              have HQK := Lib.hid hqk
              rw [hW11] at HNE HR2
              have hlast2 := hlast
              rw [hW11] at hlast2
              have HX6 := Lib.hid hx6
              clear hrow2 hall2 hoks hnews hB11 hA11 hB10 hnew hok hbel hW11 HSS HS8 HBX8 hqk hlast hx6
              go_wp2_with (at_builtin; refine wpList_append_own _ rfl _ _ 27 rfl w.heap.size 39 i0 _ 12 176 Tryz.underlying27 hi0 hz0 hz1 hz2 rfl (by decide) (.slice A nq c) nq (cellsO q) rfl (HNQ.out ▸ HR2.out) ⟨w10.heap.size, 0, none⟩ 1 1 (cellsO [x]) rfl rfl HNE.out (cellsO_one _) (by unfold maxLen; omega) (by omega) hlast2 ?_; intro v' w3 hown' hgrow hnv)
              rw [← HW11.out] at hgrow HR2
              have hr3 : OwnO w.heap.size w3 v' (q ++ [x]) := by
                unfold OwnO
                rw [cellsO_append, List.length_append, HNQ.out]
                exact hown'
              have ha3 : ∀ y ∈ q ++ [x], NewOp w.heap.size w3 y := fun y hy => (HALL.out y hy).grown HR2.out (by exact hgrow)
              have hB3 : Below w.heap.size w w3 := HB11.out.grown hgrow HB11.out.size (fun jj hj => ((World.ownsRow.lt HR2.out) jj hj).1)
              have HR3 := Lib.hid hr3
              have HA3 := Lib.hid ha3
              have HB3 := Lib.hid hB3
              clear hown' hgrow hnv ha3 HALL HB11 HNE HR2 hr3 hB3
              go_wp2_with fail
              go_roundw
              case rel =>
                refine ⟨k + 1, q ++ [x], by omega, by go_num, ⟨?_, HOKS.out, HR3.out, HA3.out⟩, (fun y hy => by
                  rcases List.mem_append.1 hy with hy | hy
                  · exact HK6.out y hy
                  · rw [List.mem_singleton] at hy; subst hy; exact HX6.out), HB3.out⟩
                rw [List.length_append, HNQ.out]
                exact Nat.succ_le_succ HQK.out
              case measure => simp [intOf]; omega
            · have e1 : (kdC K == 1) = false := by simpa using h1
              clear h1
              go_upto_region 11 with fail
              obtain ⟨w10, hw10e⟩ : ∃ w10, w10 = w8 := ⟨_, rfl⟩
              have hbx := HBX8.out
              have hnew := HNO.out
              have hok := HAO.out
              have hx6 : (opsO K j m xr xy xt ct bf).o.kind ≤ 6 := (kdC_in K).2
              have hbel := HB8.out
              rw [← hw10e] at hbx hnew hbel ⊢
              obtain ⟨x, hxe⟩ : ∃ x, x = opsO K j m xr xy xt ct bf := ⟨_, rfl⟩
              rw [← hxe] at hbx hnew hok hx6
              clear c0' c4' z4' e1 hb8l hw10e hxe
              obtain ⟨⟨c0, c1, c2, c3, c4, c5, c6, c7, c8, c9, c10, c11⟩, _⟩ := hbx
              simp only [Nat.zero_add] at c0 c1 c2 c3 c4 c5 c6 c7 c8 c9 c10 c11
              have hB10 : Below wr.heap.size wr w10 := HBW.out.trans (hbel.mono HBW.out.size)
              obtain ⟨W11, hW11⟩ : ∃ W11, W11 = w10.alloc (.cells #[.int .i64 x.o.kind, .int .i64 x.o.who.role, .int .i64 x.o.who.why, .int .i64 x.o.who.time, .slice x.P.ra x.o.n x.P.rc, .string x.o.r.id, .int .i64 x.o.r.cats, .slice x.P.p.fa x.o.r.fs.length x.P.p.fc, .slice x.P.p.ra x.o.r.rs.length x.P.p.rc, .string x.o.id, .string x.o.f.key, .string x.o.f.val] 39) := ⟨_, rfl⟩
              have hA11 : Below w10.heap.size w10 W11 := by rw [hW11]; exact (Below.refl _ _).alloc (Nat.le_refl _) _
              have hB11 := HB.out.trans ((hB10.trans (hA11.mono hB10.size)).mono HB.out.size)
              have hrow2 : OwnO w.heap.size W11 (.slice A nq c) q := own_below (own_below HR.out.2.2.1 hB10) hA11
              have hall2 : ∀ y ∈ q ++ [x], NewOp w.heap.size W11 y := fun y hy => by
                rcases List.mem_append.1 hy with hy | hy
                · exact ((HR.out.2.2.2 y hy).below hB10).below hA11
                · rw [List.mem_singleton] at hy; subst hy; exact hnew.below hA11
              have hoks : ∀ y ∈ q ++ [x], AskOk y.o := fun y hy => by
                rcases List.mem_append.1 hy with hy | hy
                · exact HR.out.2.1 y hy
                · rw [List.mem_singleton] at hy; subst hy; exact hok
              have hnews := cell_op w10 x 39
              rw [← hW11] at hnews
              have hlast : w.heap.size ≤ W11.heap.size := hB11.size
              have hqk : nq ≤ k := by have := HR.out.1; have := HNQ.out; omega
              have hn80 : nq < 1000 := by omega
              have HR2 := Lib.hid hrow2
              have HALL := Lib.hid hall2
              have HOKS := Lib.hid hoks
              have HNE := Lib.hid hnews
              have HB11 := Lib.hid hB11
              have HW11 := Lib.hid hW11
              have HQK := Lib.hid hqk
              rw [hW11] at HNE HR2
              have hlast2 := hlast
              rw [hW11] at hlast2
              have HX6 := Lib.hid hx6
              clear hrow2 hall2 hoks hnews hB11 hA11 hB10 hnew hok hbel hW11 HSS HS8 HBX8 hqk hlast hx6
              go_wp2_with (at_builtin; refine wpList_append_own _ rfl _ _ 27 rfl w.heap.size 39 i0 _ 12 176 Tryz.underlying27 hi0 hz0 hz1 hz2 rfl (by decide) (.slice A nq c) nq (cellsO q) rfl (HNQ.out ▸ HR2.out) ⟨w10.heap.size, 0, none⟩ 1 1 (cellsO [x]) rfl rfl HNE.out (cellsO_one _) (by unfold maxLen; omega) (by omega) hlast2 ?_; intro v' w3 hown' hgrow hnv)
              rw [← HW11.out] at hgrow HR2
              have hr3 : OwnO w.heap.size w3 v' (q ++ [x]) := by
                unfold OwnO
                rw [cellsO_append, List.length_append, HNQ.out]
                exact hown'
              have ha3 : ∀ y ∈ q ++ [x], NewOp w.heap.size w3 y := fun y hy => (HALL.out y hy).grown HR2.out (by exact hgrow)
              have hB3 : Below w.heap.size w w3 := HB11.out.grown hgrow HB11.out.size (fun jj hj => ((World.ownsRow.lt HR2.out) jj hj).1)
              have HR3 := Lib.hid hr3
              have HA3 := Lib.hid ha3
              have HB3 := Lib.hid hB3
              clear hown' hgrow hnv ha3 HALL HB11 HNE HR2 hr3 hB3
              go_wp2_with fail
              go_roundw
              case rel =>
                refine ⟨k + 1, q ++ [x], by omega, by go_num, ⟨?_, HOKS.out, HR3.out, HA3.out⟩, (fun y hy => by
                  rcases List.mem_append.1 hy with hy | hy
                  · exact HK6.out y hy
                  · rw [List.mem_singleton] at hy; subst hy; exact HX6.out), HB3.out⟩
                rw [List.length_append, HNQ.out]
                exact Nat.succ_le_succ HQK.out
              case measure => simp [intOf]; omega

    · obtain rfl : k = N := by omega
      obtain ⟨h1, h2, h3, h4⟩ := HR.out
      have HSL := Lib.hid (AskRow.mk h3 h4 h2)
      have HQN : Hid (nq ≤ 25) := by show nq ≤ 25; have := HNQ.out; omega
      clear h1 h2 h3 h4
      go_wp2_with fail
      go_ret
      exact ⟨A, nq, c, q, rfl, HQN.out, HSL.out, HK6.out, HB.out⟩
end Go.Proofs.YteimdhkajbldjaaGreat
