/- What a server does that only reads: nothing but new memory is left. -/
import Derived.Test.YteimdhkajbldjaaGreatSrvB
set_option linter.unusedVariables false
set_option linter.unusedSimpArgs false
set_option maxRecDepth 100000
namespace Go.Proofs.YteimdhkajbldjaaGreat
open Go.RowKit Go.Sort

/-- what a Do that only reads leaves -/
def DoRd (X : SrvX) (o : OpL) (w : World) (e : Ending) (w' : World) : Prop :=
  ∃ P, e = .returned ((doT X o).v P) ∧ NewTold w.heap.size w' (doT X o) P ∧ Below w.heap.size w w'
theorem rd_end {X : SrvX} {w W w1 wf : World} {o : OpL} {t : ToldL} {P : ToldP} (hz : W.heap.size = w.heap.size + 3) (hA : Below w.heap.size w W) (hb : Below W.heap.size W w1)
    (k2 : Kept (fun z => z ≠ w.heap.size + 1 ∧ z ≠ w.heap.size + 2) w1 wf) (hT : NewTold W.heap.size w1 t P) (ht : doT X o = t) : DoRd X o w (.returned (t.v P)) wf := by
  subst ht
  have h1 := hA.trans (hb.mono hA.size)
  exact ⟨P, rfl, (hT.kept k2 fun b hb _ => ⟨by omega, by omega⟩).low (by omega), h1.trans (k2.to (fun z hz => ⟨by omega, by omega⟩) h1.size)⟩

set_option maxHeartbeats 8000000 in
theorem rd_4 {S p q : Nat} {F : Nat → Prop} {X : SrvX} (o : OpL) (P : OpP) (w : World) (h : Srv w S p q F X) (hF : ∀ z, F z → z < w.heap.size) (hi : o.in_ P w) (hk : o.kind = 4) :
    Calls Tryz.prog 16 #[ptr p, o.v P] w (DoRd X o w) := by
  have hC := get_of o.who o.id _ (h.boxed o P) rfl rfl
  have ht : doT X o = ⟨getC X o.who o.id, getT X o.who o.id, [], []⟩ := by unfold doT; rw [if_neg (by rw [hk]; decide), if_neg (by rw [hk]; decide), if_neg (by rw [hk]; decide), if_pos hk]
  have hx : doX X o = X := by unfold doX; rw [if_neg (by rw [hk]; decide), if_neg (by rw [hk]; decide), if_neg (by rw [hk]; decide), if_neg (by rw [hk]; decide)]
  obtain ⟨er, her⟩ : ∃ er, getC X o.who o.id = er := ⟨_, rfl⟩
  rw [her] at hC ht
  obtain ⟨L, hL⟩ : ∃ L, getT X o.who o.id = L := ⟨_, rfl⟩
  rw [hL] at hC ht
  obtain ⟨W, hW⟩ : ∃ W, W = doW o P w := ⟨_, rfl⟩
  have hA : Below w.heap.size w W := by rw [hW]; exact doW_below o P w
  have hsz : W.heap.size = w.heap.size + 3 := by rw [hW]; exact doW_size o P w
  have t1 : TB (w.heap.size + 1) W := by rw [hW]; exact doW_one o P w
  have t2 : TB (w.heap.size + 2) W := by rw [hW]; exact doW_two o P w
  have HB := Lib.hid (h.boxed o P)
  rw [← hW] at HB
  have HH := Lib.hid h
  have HT := Lib.hid ht
  have HX := Lib.hid hx
  have HA := Lib.hid hA
  have HSZ := Lib.hid hsz
  have T1 := Lib.hid t1
  have T2 := Lib.hid t2
  have HO1 := Lib.hid (off_box h 1)
  have HO2 := Lib.hid (off_box h 2)
  obtain ⟨kind, who, n, rs, r, id, f⟩ := o
  simp only at hk
  subst hk
  have HC := Lib.hid hC
  have HW := Lib.hid hW
  clear hC h hF hi ht hx her hA hsz t1 t2 hW hL
  go_enter Tryz.func16, Tryz.ntmps16
  go_wp2_with fail
  refine HC.out.mono ?_
  rintro e w1 ⟨A, m, c, rfl, hnw, hb1⟩
  have hm := hnw.at_.len.symm
  rw [← HW.out] at hb1 hnw
  have hkk : Kept (Off p q) W w1 := Kept.of hb1
  obtain ⟨d0, d1, d2, d3, y0, y1, y2, y3⟩ := T1.out.kept hkk HO1.out
  obtain ⟨e0, e1, e2, e3, z0, z1, z2, z3⟩ := T2.out.kept hkk HO2.out
  have HS1 := Lib.hid (HB.out.below hb1)
  have HBB := Lib.hid hb1
  have hsl : w.heap.size + 2 < w1.heap.size := cell_lt e0
  subst hm
  have HNW := Lib.hid hnw
  clear hkk hb1 hnw HC
  go_wp2_with fail
  refine bodyPost_ret (v := ToldL.v ⟨er, L, [], []⟩ ⟨A, c, none, 0, none, 0⟩) (by simp [results, Tryz.results16, go_sem, ToldP.none, d0, d1, d2, d3, y0, y1, y2, y3, e0, e1, e2, e3, z0, z1, z2, z3]) rfl ?_
  exact rd_end HSZ.out HA.out HBB.out (by repeat (first | (with_reducible exact Kept.refl _ _) | refine Kept.trans ?_ (Kept.setCell _ (by simp) _))) ⟨HNW.out, World.ownsRow_nil _ _ _ _, World.ownsRow_nil _ _ _ _⟩ HT.out

set_option maxHeartbeats 8000000 in
theorem rd_5 {S p q : Nat} {F : Nat → Prop} {X : SrvX} (o : OpL) (P : OpP) (w : World) (h : Srv w S p q F X) (hF : ∀ z, F z → z < w.heap.size) (hi : o.in_ P w) (hk : o.kind = 5) :
    Calls Tryz.prog 16 #[ptr p, o.v P] w (DoRd X o w) := by
  have hC := find_of o.who o.f _ (h.boxed o P) rfl rfl
  have ht : doT X o = ⟨findC X o.who o.f, [], findT X o.who o.f, []⟩ := by unfold doT; rw [if_neg (by rw [hk]; decide), if_neg (by rw [hk]; decide), if_neg (by rw [hk]; decide), if_neg (by rw [hk]; decide), if_pos hk]
  have hx : doX X o = X := by unfold doX; rw [if_neg (by rw [hk]; decide), if_neg (by rw [hk]; decide), if_neg (by rw [hk]; decide), if_neg (by rw [hk]; decide)]
  obtain ⟨er, her⟩ : ∃ er, findC X o.who o.f = er := ⟨_, rfl⟩
  rw [her] at hC ht
  obtain ⟨L, hL⟩ : ∃ L, findT X o.who o.f = L := ⟨_, rfl⟩
  rw [hL] at hC ht
  obtain ⟨W, hW⟩ : ∃ W, W = doW o P w := ⟨_, rfl⟩
  have hA : Below w.heap.size w W := by rw [hW]; exact doW_below o P w
  have hsz : W.heap.size = w.heap.size + 3 := by rw [hW]; exact doW_size o P w
  have t1 : TB (w.heap.size + 1) W := by rw [hW]; exact doW_one o P w
  have t2 : TB (w.heap.size + 2) W := by rw [hW]; exact doW_two o P w
  have HB := Lib.hid (h.boxed o P)
  rw [← hW] at HB
  have HH := Lib.hid h
  have HT := Lib.hid ht
  have HX := Lib.hid hx
  have HA := Lib.hid hA
  have HSZ := Lib.hid hsz
  have T1 := Lib.hid t1
  have T2 := Lib.hid t2
  have HO1 := Lib.hid (off_box h 1)
  have HO2 := Lib.hid (off_box h 2)
  obtain ⟨kind, who, n, rs, r, id, f⟩ := o
  simp only at hk
  subst hk
  have HC := Lib.hid hC
  have HW := Lib.hid hW
  clear hC h hF hi ht hx her hA hsz t1 t2 hW hL
  go_enter Tryz.func16, Tryz.ntmps16
  go_wp2_with fail
  refine HC.out.mono ?_
  rintro e w1 ⟨A, m, c, rfl, hm, hnw, hb1⟩
  rw [← HW.out] at hb1 hnw
  have hkk : Kept (Off p q) W w1 := Kept.of hb1
  obtain ⟨d0, d1, d2, d3, y0, y1, y2, y3⟩ := T1.out.kept hkk HO1.out
  obtain ⟨e0, e1, e2, e3, z0, z1, z2, z3⟩ := T2.out.kept hkk HO2.out
  have HS1 := Lib.hid (HB.out.below hb1)
  have HBB := Lib.hid hb1
  have hsl : w.heap.size + 2 < w1.heap.size := cell_lt e0
  subst hm
  have HNW := Lib.hid hnw
  clear hkk hb1 hnw HC
  go_wp2_with fail
  refine bodyPost_ret (v := ToldL.v ⟨er, [], L, []⟩ ⟨none, 0, A, c, none, 0⟩) (by simp [results, Tryz.results16, go_sem, ToldP.none, d0, d1, d2, d3, y0, y1, y2, y3, e0, e1, e2, e3, z0, z1, z2, z3]) rfl ?_
  exact rd_end HSZ.out HA.out HBB.out (by repeat (first | (with_reducible exact Kept.refl _ _) | refine Kept.trans ?_ (Kept.setCell _ (by simp) _))) ⟨NewW.nil _ _, HNW.out, World.ownsRow_nil _ _ _ _⟩ HT.out

set_option maxHeartbeats 8000000 in
theorem rd_6 {S p q : Nat} {F : Nat → Prop} {X : SrvX} (o : OpL) (P : OpP) (w : World) (h : Srv w S p q F X) (hF : ∀ z, F z → z < w.heap.size) (hi : o.in_ P w) (hk : o.kind = 6) :
    Calls Tryz.prog 16 #[ptr p, o.v P] w (DoRd X o w) := by
  have hC := hist_of o.who o.id _ (h.boxed o P) rfl rfl
  have ht : doT X o = ⟨histC X o.who o.id, histT X o.who o.id, [], []⟩ := by unfold doT; rw [if_neg (by rw [hk]; decide), if_neg (by rw [hk]; decide), if_neg (by rw [hk]; decide), if_neg (by rw [hk]; decide), if_neg (by rw [hk]; decide), if_pos hk]
  have hx : doX X o = X := by unfold doX; rw [if_neg (by rw [hk]; decide), if_neg (by rw [hk]; decide), if_neg (by rw [hk]; decide), if_neg (by rw [hk]; decide)]
  obtain ⟨er, her⟩ : ∃ er, histC X o.who o.id = er := ⟨_, rfl⟩
  rw [her] at hC ht
  obtain ⟨L, hL⟩ : ∃ L, histT X o.who o.id = L := ⟨_, rfl⟩
  rw [hL] at hC ht
  obtain ⟨W, hW⟩ : ∃ W, W = doW o P w := ⟨_, rfl⟩
  have hA : Below w.heap.size w W := by rw [hW]; exact doW_below o P w
  have hsz : W.heap.size = w.heap.size + 3 := by rw [hW]; exact doW_size o P w
  have t1 : TB (w.heap.size + 1) W := by rw [hW]; exact doW_one o P w
  have t2 : TB (w.heap.size + 2) W := by rw [hW]; exact doW_two o P w
  have HB := Lib.hid (h.boxed o P)
  rw [← hW] at HB
  have HH := Lib.hid h
  have HT := Lib.hid ht
  have HX := Lib.hid hx
  have HA := Lib.hid hA
  have HSZ := Lib.hid hsz
  have T1 := Lib.hid t1
  have T2 := Lib.hid t2
  have HO1 := Lib.hid (off_box h 1)
  have HO2 := Lib.hid (off_box h 2)
  obtain ⟨kind, who, n, rs, r, id, f⟩ := o
  simp only at hk
  subst hk
  have HC := Lib.hid hC
  have HW := Lib.hid hW
  clear hC h hF hi ht hx her hA hsz t1 t2 hW hL
  go_enter Tryz.func16, Tryz.ntmps16
  go_wp2_with fail
  refine HC.out.mono ?_
  rintro e w1 ⟨A, m, c, rfl, hnw, hb1⟩
  have hm := hnw.at_.len.symm
  rw [← HW.out] at hb1 hnw
  have hkk : Kept (Off p q) W w1 := Kept.of hb1
  obtain ⟨d0, d1, d2, d3, y0, y1, y2, y3⟩ := T1.out.kept hkk HO1.out
  obtain ⟨e0, e1, e2, e3, z0, z1, z2, z3⟩ := T2.out.kept hkk HO2.out
  have HS1 := Lib.hid (HB.out.below hb1)
  have HBB := Lib.hid hb1
  have hsl : w.heap.size + 2 < w1.heap.size := cell_lt e0
  subst hm
  have HNW := Lib.hid hnw
  clear hkk hb1 hnw HC
  go_wp2_with fail
  refine bodyPost_ret (v := ToldL.v ⟨er, L, [], []⟩ ⟨A, c, none, 0, none, 0⟩) (by simp [results, Tryz.results16, go_sem, ToldP.none, d0, d1, d2, d3, y0, y1, y2, y3, e0, e1, e2, e3, z0, z1, z2, z3]) rfl ?_
  exact rd_end HSZ.out HA.out HBB.out (by repeat (first | (with_reducible exact Kept.refl _ _) | refine Kept.trans ?_ (Kept.setCell _ (by simp) _))) ⟨HNW.out, World.ownsRow_nil _ _ _ _, World.ownsRow_nil _ _ _ _⟩ HT.out

set_option maxHeartbeats 8000000 in
theorem rd_8 {S p q : Nat} {F : Nat → Prop} {X : SrvX} (o : OpL) (P : OpP) (w : World) (h : Srv w S p q F X) (hF : ∀ z, F z → z < w.heap.size) (hi : o.in_ P w) (hk : o.kind = 8) :
    Calls Tryz.prog 16 #[ptr p, o.v P] w (DoRd X o w) := by
  have hC := audit_of o.who _ (h.boxed o P) rfl rfl
  have ht : doT X o = ⟨chkE X o.who 255, [], [], auditT X o.who⟩ := by unfold doT; rw [if_neg (by rw [hk]; decide), if_neg (by rw [hk]; decide), if_neg (by rw [hk]; decide), if_neg (by rw [hk]; decide), if_neg (by rw [hk]; decide), if_neg (by rw [hk]; decide), if_neg (by rw [hk]; decide), if_pos hk]
  have hx : doX X o = X := by unfold doX; rw [if_neg (by rw [hk]; decide), if_neg (by rw [hk]; decide), if_neg (by rw [hk]; decide), if_neg (by rw [hk]; decide)]
  obtain ⟨er, her⟩ : ∃ er, chkE X o.who 255 = er := ⟨_, rfl⟩
  rw [her] at hC ht
  obtain ⟨L, hL⟩ : ∃ L, auditT X o.who = L := ⟨_, rfl⟩
  rw [hL] at hC ht
  obtain ⟨W, hW⟩ : ∃ W, W = doW o P w := ⟨_, rfl⟩
  have hA : Below w.heap.size w W := by rw [hW]; exact doW_below o P w
  have hsz : W.heap.size = w.heap.size + 3 := by rw [hW]; exact doW_size o P w
  have t1 : TB (w.heap.size + 1) W := by rw [hW]; exact doW_one o P w
  have t2 : TB (w.heap.size + 2) W := by rw [hW]; exact doW_two o P w
  have HB := Lib.hid (h.boxed o P)
  rw [← hW] at HB
  have HH := Lib.hid h
  have HT := Lib.hid ht
  have HX := Lib.hid hx
  have HA := Lib.hid hA
  have HSZ := Lib.hid hsz
  have T1 := Lib.hid t1
  have T2 := Lib.hid t2
  have HO1 := Lib.hid (off_box h 1)
  have HO2 := Lib.hid (off_box h 2)
  obtain ⟨kind, who, n, rs, r, id, f⟩ := o
  simp only at hk
  subst hk
  have HC := Lib.hid hC
  have HW := Lib.hid hW
  clear hC h hF hi ht hx her hA hsz t1 t2 hW hL
  go_enter Tryz.func16, Tryz.ntmps16
  go_wp2_with fail
  refine HC.out.mono ?_
  rintro e w1 ⟨A, m, c, rfl, hm, hnw, hb1⟩
  rw [← HW.out] at hb1 hnw
  have hkk : Kept (Off p q) W w1 := Kept.of hb1
  obtain ⟨d0, d1, d2, d3, y0, y1, y2, y3⟩ := T1.out.kept hkk HO1.out
  obtain ⟨e0, e1, e2, e3, z0, z1, z2, z3⟩ := T2.out.kept hkk HO2.out
  have HS1 := Lib.hid (HB.out.below hb1)
  have HBB := Lib.hid hb1
  have hsl : w.heap.size + 2 < w1.heap.size := cell_lt e0
  subst hm
  have HNW := Lib.hid hnw
  clear hkk hb1 hnw HC
  go_wp2_with fail
  refine bodyPost_ret (v := ToldL.v ⟨er, [], [], L⟩ ⟨none, 0, none, 0, A, c⟩) (by simp [results, Tryz.results16, go_sem, ToldP.none, d0, d1, d2, d3, y0, y1, y2, y3, e0, e1, e2, e3, z0, z1, z2, z3]) rfl ?_
  exact rd_end HSZ.out HA.out HBB.out (by repeat (first | (with_reducible exact Kept.refl _ _) | refine Kept.trans ?_ (Kept.setCell _ (by simp) _))) ⟨NewW.nil _ _, World.ownsRow_nil _ _ _ _, HNW.out⟩ HT.out

set_option maxHeartbeats 8000000 in
theorem rd_0 {S p q : Nat} {F : Nat → Prop} {X : SrvX} (o : OpL) (P : OpP) (w : World) (h : Srv w S p q F X) (hk : o.kind ≠ 1 ∧ o.kind ≠ 2 ∧ o.kind ≠ 3 ∧ o.kind ≠ 4 ∧ o.kind ≠ 5 ∧ o.kind ≠ 6 ∧ o.kind ≠ 7 ∧ o.kind ≠ 8) :
    Calls Tryz.prog 16 #[ptr p, o.v P] w (DoRd X o w) := by
  obtain ⟨h1, h2, h3, h4, h5, h6, h7, h8⟩ := hk
  have HT : Hid (doT X o = ⟨3, [], [], []⟩) := by show _ = _; unfold doT; rw [if_neg h1, if_neg h2, if_neg h3, if_neg h4, if_neg h5, if_neg h6, if_neg h7, if_neg h8]
  have HX : Hid (doX X o = X) := by show _ = _; unfold doX; rw [if_neg h1, if_neg h2, if_neg h3, if_neg h7]
  have HB := Lib.hid (h.boxed o P)
  have HH := Lib.hid h
  have HA := Lib.hid (doW_below o P w)
  have HSZ := Lib.hid (doW_size o P w)
  obtain ⟨kind, who, n, rs, r, id, f⟩ := o
  simp only at h1 h2 h3 h4 h5 h6 h7 h8
  have g1 : (kind == 1) = false := by simpa using h1
  have g2 : (kind == 2) = false := by simpa using h2
  have g3 : (kind == 3) = false := by simpa using h3
  have g4 : (kind == 4) = false := by simpa using h4
  have g5 : (kind == 5) = false := by simpa using h5
  have g6 : (kind == 6) = false := by simpa using h6
  have g7 : (kind == 7) = false := by simpa using h7
  have g8 : (kind == 8) = false := by simpa using h8
  clear h
  go_enter Tryz.func16, Tryz.ntmps16
  go_wp2_with fail
  refine bodyPost_ret (v := ToldL.v ⟨3, [], [], []⟩ ToldP.none) (by simp [results, Tryz.results16, go_sem, ToldP.none]) rfl ?_
  unfold DoRd
  rw [HT.out]
  have hb := (((Below.refl w.heap.size w).alloc (Nat.le_refl _) (.cells #[.int .i64 kind, .int .i64 who.role, .int .i64 who.why, .int .i64 who.time, .slice P.ra n P.rc, .string r.id, .int .i64 r.cats, .slice P.p.fa r.fs.length P.p.fc, .slice P.p.ra r.rs.length P.p.rc, .string id, .string f.key, .string f.val] 39)).alloc (by simp) (.cells #[.int .i64 3, .slice none 0 0, .slice none 0 0, .slice none 0 0] 48)).alloc (by simp; omega) (.cells #[.int .i64 3, .slice none 0 0, .slice none 0 0, .slice none 0 0] 48)
  exact ⟨ToldP.none, rfl, NewTold.bare _ _ _, hb⟩

def RdIs (T : ToldL) (w : World) (e : Ending) (w' : World) : Prop :=
  ∃ P : ToldP, e = .returned (.agg #[.int .i64 T.code, .slice P.va T.vs.length P.vc, .slice P.ia T.ids.length P.ic, .slice P.na T.ns.length P.nc]) ∧ NewTold w.heap.size w' T P ∧ Below w.heap.size w w'
theorem do_read {S p q : Nat} {F : Nat → Prop} {X : SrvX} {T : ToldL} (o : OpL) (P : OpP) (w : World) (h : Srv w S p q F X) (hF : ∀ z, F z → z < w.heap.size) (hi : o.in_ P w) (hk : o.kind ≠ 1 ∧ o.kind ≠ 2 ∧ o.kind ≠ 3 ∧ o.kind ≠ 7) (hT : doT X o = T) :
    Calls Tryz.prog 16 #[ptr p, o.v P] w (RdIs T w) := by
  subst hT
  obtain ⟨h1, h2, h3, h7⟩ := hk
  by_cases h4 : o.kind = 4
  · exact rd_4 o P w h hF hi h4
  by_cases h5 : o.kind = 5
  · exact rd_5 o P w h hF hi h5
  by_cases h6 : o.kind = 6
  · exact rd_6 o P w h hF hi h6
  by_cases h8 : o.kind = 8
  · exact rd_8 o P w h hF hi h8
  exact rd_0 o P w h ⟨h1, h2, h3, h4, h5, h6, h7, h8⟩
end Go.Proofs.YteimdhkajbldjaaGreat
