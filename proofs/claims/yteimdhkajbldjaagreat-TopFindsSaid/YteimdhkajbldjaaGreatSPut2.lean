/- Contracts of Put and Cut. -/
import Derived.Test.YteimdhkajbldjaaGreatSPut
set_option linter.unusedVariables false
set_option linter.unusedSimpArgs false
set_option maxRecDepth 100000
namespace Go.Proofs.YteimdhkajbldjaaGreat
open Go.RowKit Go.Sort Go.Maps

/-- the versions vs lie there: n of them -/
def VsAt (w : World) (a : Option Addr) (n : Nat) (vs : List VerL) : Prop := ∃ l : List PV, l.map (·.v) = vs ∧ l.length = n ∧ SlW w a l
theorem VsAt.below {w w' : World} {a : Option Addr} {n : Nat} {vs : List VerL} (h : VsAt w a n vs) (hb : Below w.heap.size w w') : VsAt w' a n vs := by
  obtain ⟨l, h1, h2, h3⟩ := h
  exact ⟨l, h1, h2, h3.below hb⟩
theorem VsAt.len {w : World} {a : Option Addr} {n : Nat} {vs : List VerL} (h : VsAt w a n vs) : n = vs.length := by
  obtain ⟨l, h1, h2, _⟩ := h
  rw [← h1, List.length_map, h2]
theorem VsAt.nil (w : World) (a : Option Addr) : VsAt w a 0 [] := ⟨[], rfl, rfl, SlW.nil _ _⟩
/-- they lie there, lists and all new from block B on -/
def NewW (B : Nat) (w : World) (A : Option Addr) (m c : Nat) (vs : List VerL) : Prop := ∃ q : List PV, q.map (·.v) = vs ∧ q.length = m ∧ RowV B w (.slice A m c) q ∧ AllNew B w q
theorem NewW.below {B : Nat} {w w' : World} {A : Option Addr} {m c : Nat} {vs : List VerL} (h : NewW B w A m c vs) (hb : Below w.heap.size w w') : NewW B w' A m c vs := by
  obtain ⟨q, h1, h2, h3, h4⟩ := h
  exact ⟨q, h1, h2, h3.below hb, h4.below hb⟩
theorem NewW.low {B B' : Nat} {w : World} {A : Option Addr} {m c : Nat} {vs : List VerL} (h : NewW B w A m c vs) (hB : B' ≤ B) : NewW B' w A m c vs := by
  obtain ⟨q, h1, h2, h3, h4⟩ := h
  exact ⟨q, h1, h2, own_low h3 hB, h4.low hB⟩
theorem NewW.at_ {B : Nat} {w : World} {A : Option Addr} {m c : Nat} {vs : List VerL} (h : NewW B w A m c vs) : VsAt w A m vs := by
  obtain ⟨q, h1, h2, h3, h4⟩ := h
  subst h2
  exact ⟨q, h1, rfl, (h3.sl h4.in_).1⟩
theorem NewW.cap {B : Nat} {w : World} {A : Option Addr} {m c : Nat} {vs : List VerL} (h : NewW B w A m c vs) : m ≤ c ∧ c ≤ maxLen := by
  obtain ⟨q, h1, h2, h3, h4⟩ := h
  subst h2
  exact (h3.sl h4.in_).2
theorem NewW.nil (B : Nat) (w : World) : NewW B w none 0 0 [] := ⟨[], rfl, rfl, RowV.nil _ _, AllNew.nil _ _⟩

def ListTo (R : List VerL) (er : Int) (w : World) (e : Ending) (w' : World) : Prop := ∃ A m c, e = .returned (.tuple #[.slice A m c, .int .i64 er]) ∧ NewW w.heap.size w' A m c R ∧ Below w.heap.size w w'

/-- what a valid store says of the length of what is in it -/
theorem StOk.short {l : List VerL} (h : StOk l) {v : VerL} (hv : v ∈ l) : v.r.fs.length ≤ 6 ∧ v.r.rs.length ≤ 4 := ⟨(h.ver v hv).nf, (h.ver v hv).nr⟩

theorem counts_bad {n : Nat} {er : Int} {a : Option Addr} {vs : List VerL} (c : Nat) (w : World) (h : VsAt w a n vs) (hm : n ≤ maxLen) (he : stErr vs = er) (h0 : er ≠ 0) :
    Calls Tryz.prog 108 #[.slice a n c] w fun e w' => e = .returned (.tuple #[.agg #[.map none, .map none], .int .i64 er]) ∧ Below w.heap.size w w' := by
  obtain ⟨l, rfl, rfl, hs⟩ := h
  exact count_bad a l c w hs hm he h0
def CountsOk (vs : List VerL) (w : World) (e : Ending) (w' : World) : Prop := ∃ b1 b2, e = .returned (.tuple #[tallyV b1 b2, .int .i64 0]) ∧ Below w.heap.size w w' ∧ Tally w' b1 b2 (vs.length + vs.length) (same vs) (lives vs)
theorem counts_ok {n : Nat} {a : Option Addr} {vs : List VerL} (c : Nat) (w : World) (h : VsAt w a n vs) (hm : n ≤ maxLen) (he : stErr vs = 0) :
    Calls Tryz.prog 108 #[.slice a n c] w (CountsOk vs w) := by
  obtain ⟨l, rfl, rfl, hs⟩ := h
  exact (count_ok a l c w hs hm he).mono fun e w' h => ⟨_, _, h.1, h.2.1, h.2.2⟩
theorem putErr_bad {l : List VerL} {r : RecL} (h : stErr l ≠ 0) : putErr l r = stErr l ∧ putL l r = [] := by
  have e : putErr l r = stErr l := by unfold putErr; rw [if_pos h]
  exact ⟨e, by unfold putL; rw [e, if_neg h]⟩
theorem putErr_rec {l : List VerL} {r : RecL} (h : stErr l = 0) (hr : r.err ≠ 0) : putErr l r = r.err ∧ putL l r = [] := by
  have e : putErr l r = r.err := by unfold putErr; rw [if_neg (fun k => k h), if_pos hr]
  exact ⟨e, by unfold putL; rw [e, if_neg hr]⟩
theorem putErr_full {l : List VerL} {r : RecL} (h : stErr l = 0) (hr : r.err = 0) (hs : 20 ≤ same l r.cats) : putErr l r = 2 ∧ putL l r = [] := by
  have e : putErr l r = 2 := by unfold putErr; rw [if_neg (fun k => k h), if_neg (fun k => k hr), if_pos hs]
  exact ⟨e, by unfold putL; rw [e, if_neg (by decide)]⟩
theorem putErr_yes {l : List VerL} {r : RecL} (h : stErr l = 0) (hr : r.err = 0) (hs : ¬ 20 ≤ same l r.cats) : putErr l r = 0 ∧ putL l r = l ++ [⟨r, false⟩] := by
  have e : putErr l r = 0 := by unfold putErr; rw [if_neg (fun k => k h), if_neg (fun k => k hr), if_neg hs]
  exact ⟨e, by unfold putL; rw [e, if_pos rfl]⟩
theorem checks_is {n : Nat} {er : Int} {a : Option Addr} {vs : List VerL} (c : Nat) (w : World) (h : VsAt w a n vs) (hm : n ≤ maxLen) (he : stErr vs = er) :
    Calls Tryz.prog 91 #[.slice a n c] w fun e w' => e = .returned (.int .i64 er) ∧ Below w.heap.size w w' := by
  obtain ⟨l, rfl, rfl, hs⟩ := h
  exact stCheck_is a l c w hs hm he

theorem with_no {n b1 b2 k : Nat} {f : Int → Nat} {g : ByteArray → Int → Bool} (a : Option Addr) (c : Nat) (x : PV) (w : World) (ht : Tally w b1 b2 k f g) (hc : (Lit.int .i64 x.v.r.cats).wf = true) (hf : 20 ≤ f x.v.r.cats) :
    Calls Tryz.prog 109 #[tallyV b1 b2, .slice a n c, x.val] w (ListTo [] 2 w) := by
  have hA : Below w.heap.size w ((w.alloc (.cells #[.map (some b1), .map (some b2)] 162)).alloc (.cells #[.string x.v.r.id, .int .i64 x.v.r.cats, .slice x.p.fa x.v.r.fs.length x.p.fc, .slice x.p.ra x.v.r.rs.length x.p.rc, .bool x.v.gone] 55)) := ((Below.refl _ _).alloc (Nat.le_refl _) _).alloc (by simp) _
  have HT := Lib.hid ht
  have HC := Lib.hid hc
  have HF := Lib.hid hf
  have HA := Lib.hid hA
  clear ht hc hf hA
  go_enter Tryz.func109, Tryz.ntmps109
  go_wp2_with fail
  refine (full_is x.v.r.cats _ (HT.out.below HA.out) HC.out (b := true) (by have := HF.out; simpa using this)).mono ?_
  rintro e w1 ⟨rfl, hb1, hz⟩
  clear hz
  go_wp2_with fail
  go_ret2
  exact ⟨none, 0, 0, rfl, NewW.nil _ _, HA.out.trans (hb1.mono HA.out.size)⟩

theorem with_yes {n b1 b2 k : Nat} {f : Int → Nat} {g : ByteArray → Int → Bool} {a : Option Addr} {vs : List VerL} (c : Nat) (x : PV) (w : World) (ht : Tally w b1 b2 k f g) (h : VsAt w a n vs) (hok : stErr vs = 0)
    (hi : x.in_ w) (ho : x.v.r.Ok) (hf : f x.v.r.cats < 20) :
    Calls Tryz.prog 109 #[tallyV b1 b2, .slice a n c, x.val] w (ListTo (vs ++ [x.v]) 0 w) := by
  obtain ⟨l, rfl, hl, hs⟩ := h
  obtain ⟨h1, h2⟩ := stErr_ok.1 hok
  rw [List.length_map] at h1
  refine (with_ok a l c x w ht hs h1 (fun y hy => h2.short (List.mem_map_of_mem hy)) hi ho.nf ho.nr (wf_cats ho.c0 ho.c1) hf hl).mono fun e w' h => ?_
  obtain ⟨A, c', he, ⟨q, hq, hr, ha⟩, hb⟩ := h
  refine ⟨A, n + 1, c', he, ⟨q, hq, ?_, hr, ha⟩, hb⟩
  have := congrArg List.length hq
  rw [List.length_map, List.length_append, List.length_map, hl] at this
  simpa using this

set_option maxHeartbeats 2000000 in
theorem put_is {n : Nat} {er : Int} {R : List VerL} {a : Option Addr} {vs : List VerL} (c : Nat) (r : RecL) (p : At) (w : World) (h : VsAt w a n vs) (hm : n ≤ maxLen) (hi : r.in_ p w) (hR : putL vs r = R) (he : putErr vs r = er) :
    Calls Tryz.prog 67 #[.slice a n c, r.v p] w (ListTo R er w) := by
  have hA := r.box_below p w
  have HH := Lib.hid h
  have HM := Lib.hid hm
  have HI := Lib.hid hi
  have HR := Lib.hid hR
  have HE := Lib.hid he
  have HA := Lib.hid hA
  clear h hm hi hR he hA
  by_cases hs : stErr vs = 0
  · have HS := Lib.hid hs
    clear hs
    go_enter Tryz.func67, Tryz.ntmps67
    go_wp2_with fail
    refine (counts_ok c _ (HH.out.below HA.out) HM.out HS.out).mono ?_
    rintro e w1 ⟨b1, b2, rfl, hb1, ht⟩
    have hB1 : Below w.heap.size w w1 := HA.out.trans (hb1.mono HA.out.size)
    have z1 : w.heap.size < w1.heap.size := by have := hb1.size; simp at this; omega
    obtain ⟨hc1, hf1⟩ := bcell hb1
    have c0 : w1.cell? ⟨w.heap.size, 0, none⟩ = some (.string r.id) := by rw [hc1 _ _ (by simp)]; simp [go_sem]
    have c1 : w1.cell? ⟨w.heap.size, 1, none⟩ = some (.int .i64 r.cats) := by rw [hc1 _ _ (by simp)]; simp [go_sem]
    have c2 : w1.cell? ⟨w.heap.size, 2, none⟩ = some (.slice p.fa r.fs.length p.fc) := by rw [hc1 _ _ (by simp)]; simp [go_sem]
    have c3 : w1.cell? ⟨w.heap.size, 3, none⟩ = some (.slice p.ra r.rs.length p.rc) := by rw [hc1 _ _ (by simp)]; simp [go_sem]
    have hal : Below w1.heap.size w1 (w1.alloc (.cells #[.map (some b1), .map (some b2)] 162)) := (Below.refl _ _).alloc (Nat.le_refl _) _
    have HT := Lib.hid (ht.below hal)
    have HB := Lib.hid (hB1.trans (hal.mono hB1.size))
    clear ht hc1 hf1 hb1 hal
    go_wp2_with fail
    obtain ⟨m, hm⟩ : ∃ m, r.err = m := ⟨_, rfl⟩
    have HM2 := Lib.hid hm
    refine (recCheck_is r p _ (HI.out.below HB.out) hm).mono ?_
    clear hm
    rintro e w2 ⟨rfl, hb2⟩
    have HB2 := Lib.hid (HB.out.trans (hb2.mono HB.out.size))
    have HT2 := Lib.hid (HT.out.below hb2)
    obtain ⟨hc2, hf2⟩ := bcell hb2
    have d0 : w2.cell? ⟨w.heap.size, 0, none⟩ = some (.string r.id) := by rw [hc2 _ _ (by simp; omega)]; simp [go_sem, c0, z1]
    have d1 : w2.cell? ⟨w.heap.size, 1, none⟩ = some (.int .i64 r.cats) := by rw [hc2 _ _ (by simp; omega)]; simp [go_sem, c1, z1]
    have d2 : w2.cell? ⟨w.heap.size, 2, none⟩ = some (.slice p.fa r.fs.length p.fc) := by rw [hc2 _ _ (by simp; omega)]; simp [go_sem, c2, z1]
    have d3 : w2.cell? ⟨w.heap.size, 3, none⟩ = some (.slice p.ra r.rs.length p.rc) := by rw [hc2 _ _ (by simp; omega)]; simp [go_sem, c3, z1]
    have t0 : w2.cell? ⟨w1.heap.size, 0, none⟩ = some (.map (some b1)) := by rw [hc2 _ _ (by simp)]; simp [go_sem]
    have t1 : w2.cell? ⟨w1.heap.size, 1, none⟩ = some (.map (some b2)) := by rw [hc2 _ _ (by simp)]; simp [go_sem]
    clear hc2 hf2 hb2 c0 c1 c2 c3 hB1
    by_cases hr : m = 0
    · subst hr
      go_wp2_with fail
      by_cases hf : 20 ≤ same vs r.cats
      · obtain ⟨e1, e2⟩ := putErr_full HS.out HM2.out hf
        rw [e1] at HE
        rw [e2] at HR
        obtain rfl : er = 2 := HE.out.symm
        obtain rfl : R = [] := HR.out.symm
        have ho := r.err_ok.1 HM2.out
        refine (with_no a c ⟨⟨r, false⟩, p⟩ _ HT2.out (wf_cats ho.c0 ho.c1) hf).mono ?_
        rintro e w3 ⟨A, m, c', rfl, hnw, hb3⟩
        have HN := Lib.hid hnw
        clear hnw
        go_wp2_with fail
        go_ret2
        exact ⟨A, m, c', rfl, HN.out.low HB2.out.size, HB2.out.trans (hb3.mono HB2.out.size)⟩
      · obtain ⟨e1, e2⟩ := putErr_yes HS.out HM2.out hf
        rw [e1] at HE
        rw [e2] at HR
        obtain rfl : er = 0 := HE.out.symm
        have ho := r.err_ok.1 HM2.out
        have hw := with_yes c ⟨⟨r, false⟩, p⟩ w2 HT2.out (HH.out.below HB2.out) HS.out (HI.out.below HB2.out) ho (show same vs r.cats < 20 by omega)
        simp only [HR.out] at hw
        have HW := Lib.hid hw
        clear hw ho hf
        refine HW.out.mono ?_
        rintro e w3 ⟨A, m, c', rfl, hnw, hb3⟩
        have HN := Lib.hid hnw
        clear hnw
        go_wp2_with fail
        go_ret2
        exact ⟨A, m, c', rfl, HN.out.low HB2.out.size, HB2.out.trans (hb3.mono HB2.out.size)⟩
    · obtain ⟨e1, e2⟩ := putErr_rec HS.out (by rw [HM2.out]; exact hr)
      rw [e1, HM2.out] at HE
      rw [e2] at HR
      obtain rfl : m = er := HE.out
      obtain rfl : R = [] := HR.out.symm
      have h1 : (m == 0) = false := by simpa using hr
      have h2 : (m != 0) = true := by simpa using hr
      go_wp2_with fail
      go_ret2
      exact ⟨none, 0, 0, rfl, NewW.nil _ _, HB2.out⟩
  · obtain ⟨e1, e2⟩ := putErr_bad (r := r) hs
    rw [e1] at HE
    rw [e2] at HR
    obtain rfl : R = [] := HR.out.symm
    have h0 : er ≠ 0 := by rw [← HE.out]; exact hs
    have h1 : (er == 0) = false := by simpa using h0
    have h2 : (er != 0) = true := by simpa using h0
    clear hs
    go_enter Tryz.func67, Tryz.ntmps67
    go_wp2_with fail
    refine (counts_bad c _ (HH.out.below HA.out) HM.out HE.out h0).mono ?_
    rintro e w1 ⟨rfl, hb1⟩
    have HB := Lib.hid (HA.out.trans (hb1.mono HA.out.size))
    go_wp2_with fail
    go_ret2
    exact ⟨none, 0, 0, rfl, NewW.nil _ _, HB.out.alloc HB.out.size _⟩
end Go.Proofs.YteimdhkajbldjaaGreat
