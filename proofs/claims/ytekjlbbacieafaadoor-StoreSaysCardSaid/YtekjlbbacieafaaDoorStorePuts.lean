/- StorePuts' walk. -/
import Derived.Test.YtekjlbbacieafaaDoorSRefStore
import Derived.Test.YtekjlbbacieafaaDoorSRefCut
set_option linter.unusedVariables false
set_option linter.unusedSimpArgs false
set_option maxRecDepth 100000
namespace Go.Proofs.YtekjlbbacieafaaDoor
open Go.RowKit Go.Sort

def RefL (R : List VerL) (er : Int) (w : World) (e : Ending) (w' : World) : Prop := ∃ A m c, e = .returned (.tuple #[.slice A m c, .int .i64 er]) ∧ VsAt w' A m R ∧ Below w.heap.size w w'
theorem RefTo.list {n : Nat} {q : List PV} {w : World} {e : Ending} {w' : World} (h : RefTo n q w e w') (hn : q.length = n + 1) (hq : ∀ x ∈ q, x.in_ w) : RefL (q.map (·.v)) 0 w e w' := by
  obtain ⟨A, c, he, hr, hb⟩ := h
  refine ⟨A, n + 1, c, he, ⟨q, rfl, hn, ?_⟩, hb⟩
  rw [← hn] at hr
  exact (RowV.sl hr (fun x hx => (hq x hx).below hb)).1
theorem SlW.all {w : World} {a : Option Addr} {l : List PV} (h : SlW w a l) : ∀ x ∈ l, x.in_ w := fun x hx => by
  obtain ⟨k, hk⟩ := List.getElem?_of_mem hx
  exact (h k x hk).1
theorem refPut_all {n : Nat} {er : Int} {R : List VerL} (a : Option Addr) (l : List PV) (c : Nat) (r : RecL) (p : At) (w : World) (hs : SlW w a l) (hln : l.length = n) (hi : r.in_ p w) (hsh : r.short) (hst : stErr (l.map (·.v)) = 0) (hR : putL (l.map (·.v)) r = R) (he : putErr (l.map (·.v)) r = er) :
    Calls Tryd.prog 28 #[.slice a n c, r.v p] w (RefL R er w) := by
  have hn : l.length ≤ 5200 := by have := (stErr_ok.1 hst).1; rw [List.length_map] at this; omega
  by_cases h0 : er = 0
  · subst h0
    obtain ⟨_, h1, h2⟩ := putErr_ok.1 he
    rw [putL_yes he] at hR
    subst hR
    refine (refPut_ok a l c r p w hs hln hn hi hsh ((r.err_ok).2 h1) h2).mono fun e w' h => ?_
    have := RefTo.list h (by rw [List.length_append, hln]; rfl) (fun x hx => by
      rcases List.mem_append.1 hx with hx | hx
      · exact hs.all x hx
      · rw [List.mem_singleton] at hx
        subst hx
        exact hi)
    rw [List.map_append] at this
    exact this
  · refine (refPut_no a l c r p w hs hln hn hi hsh hst he h0).mono fun e w' h => ?_
    rw [putL_no (by rw [he]; exact h0)] at hR
    subst hR
    exact ⟨none, 0, 0, h.1, VsAt.nil _ _, h.2⟩
theorem refCut_all {n : Nat} {er : Int} {R : List VerL} (a : Option Addr) (l : List PV) (c : Nat) (id : ByteArray) (ct : Int) (w : World) (hs : SlW w a l) (hln : l.length = n) (hst : stErr (l.map (·.v)) = 0) (hR : cutL (l.map (·.v)) id ct = R) (he : cutErr (l.map (·.v)) id ct = er) :
    Calls Tryd.prog 29 #[.slice a n c, .string id, .int .i64 ct] w (RefL R er w) := by
  have hn : l.length ≤ 5200 := by have := (stErr_ok.1 hst).1; rw [List.length_map] at this; omega
  by_cases h0 : er = 0
  · subst h0
    rw [cutL_yes he] at hR
    subst hR
    refine (refCut_ok a l c id ct w hs hln hn hst he).mono fun e w' h => ?_
    have := RefTo.list h (by rw [List.length_append, hln]; rfl) (fun x hx => by
      rcases List.mem_append.1 hx with hx | hx
      · exact hs.all x hx
      · rw [List.mem_singleton] at hx
        subst hx
        exact (NewRec.none 0 w id ct).in_)
    rw [List.map_append] at this
    exact this
  · refine (refCut_no a l c id ct w hs hln hn hst he h0).mono fun e w' h => ?_
    rw [cutL_no (by rw [he]; exact h0)] at hR
    subst hR
    exact ⟨none, 0, 0, h.1, VsAt.nil _ _, h.2⟩

def rec0 : RecL := ⟨⟨#[97]⟩, 0, [], []⟩
theorem rec0_ok : rec0.Ok := RecL.okBare (by decide) (by decide)
theorem rec0_in (w : World) : rec0.in_ At.none w := (NewRec.none 0 w ⟨#[97]⟩ 0).in_

set_option maxHeartbeats 4000000 in
theorem storePuts_walk (a : Option Addr) (c : Nat) (l : List PV) (r : RecL) (p : At) (id : ByteArray) (ct : Int) (w : World) (hs : SlW w a l) (hl : l.length ≤ c) (hm : c ≤ maxLen) (hall : ∀ x ∈ l, x.v.r.short) (hi : r.in_ p w) (hsh : r.short) (hid : id.size ≤ maxLen) :
    Calls Tryd.prog 4 #[.slice a l.length c, r.v p, .string id, .int .i64 ct] w fun e w' => e = .returned (.bool true) ∧ Below w.heap.size w w' := by
  have HS := Lib.hid hs
  have HL := Lib.hid hl
  have HM := Lib.hid hm
  have HI := Lib.hid hi
  have HSH := Lib.hid hsh
  have HALL := Lib.hid hall
  have HA := Lib.hid (r.box_below p w)
  have HBOX := Lib.hid (BoxAt.new w r p 29)
  obtain ⟨n, hn⟩ : ∃ n, l.length = n := ⟨_, rfl⟩
  have HN := Lib.hid hn
  rw [hn] at hl ⊢
  obtain ⟨vs, hvs⟩ : ∃ vs, l.map (·.v) = vs := ⟨_, rfl⟩
  have HVS := Lib.hid hvs
  have HV := Lib.hid (show VsAt w a n vs from ⟨l, hvs, hn, hs⟩)
  have HNM := Lib.hid (show n ≤ maxLen from Nat.le_trans hl hm)
  have HNC := Lib.hid hl
  obtain ⟨er1, h1⟩ : ∃ er, putErr vs r = er := ⟨_, rfl⟩
  obtain ⟨er2, h2⟩ : ∃ er, cutErr vs id ct = er := ⟨_, rfl⟩
  obtain ⟨X, h3⟩ : ∃ X, putL vs r = X := ⟨_, rfl⟩
  obtain ⟨Y, h4⟩ : ∃ Y, cutL vs id ct = Y := ⟨_, rfl⟩
  obtain ⟨er, h5⟩ : ∃ er, stErr vs = er := ⟨_, rfl⟩
  have HE1 := Lib.hid h1
  have HE2 := Lib.hid h2
  have HX := Lib.hid h3
  have HY := Lib.hid h4
  have HE := Lib.hid h5
  have hst0 : stErr ([] : List VerL) = 0 := stErr_ok.2 ⟨Nat.zero_le _, stOk_nil⟩
  obtain ⟨p1, p2⟩ := putErr_yes (l := []) (r := rec0) hst0 ((rec0.err_ok).2 rec0_ok) (by rw [same_nil]; omega)
  have HP1 := Lib.hid p1
  have HP2 := Lib.hid p2
  have hput := put_is c r p ((w.alloc (.cells #[.string r.id, .int .i64 r.cats, .slice p.fa r.fs.length p.fc, .slice p.ra r.rs.length p.rc] 29))) (HV.out.below HA.out) HNM.out (HI.out.below HA.out) h3 h1
  have HPUT := Lib.hid hput
  clear hs hl hm hi hsh hid hn hall hvs h1 h2 h3 h4 h5 hst0 p1 p2 hput
  go_enter Tryd.func4, Tryd.ntmps4
  go_wp2_with fail
  refine HPUT.out.mono ?_
  rintro e w1 ⟨A1, m1, c1, rfl, hnw, hb⟩
  have HB1 := Lib.hid (HA.out.trans (hb.mono HA.out.size))
  have HO1 := Lib.hid (HBOX.out.below hb)
  have HX1 := Lib.hid hnw.at_
  have HCUT := Lib.hid (cut_is c id ct w1 (HV.out.below HB1.out) HNM.out HY.out HE2.out)
  clear hnw hb HPUT
  go_wp2_with fail
  refine HCUT.out.mono ?_
  rintro e w2 ⟨A2, m2, c2, rfl, hnw, hb⟩
  have HB2 := Lib.hid (HB1.out.trans (hb.mono HB1.out.size))
  have HO2 := Lib.hid (HO1.out.below hb)
  have HX2 := Lib.hid (HX1.out.below hb)
  have HY2 := Lib.hid hnw.at_
  have HP0 := Lib.hid (put_is (n := 0) 0 rec0 At.none w2 (VsAt.nil w2 none) (Nat.zero_le _) (rec0_in w2) HP2.out HP1.out)
  clear hnw hb HCUT
  go_wp2_with fail
  refine HP0.out.mono ?_
  rintro e w3 ⟨A3, m3, c3, rfl, hnw, hb⟩
  have HB3 := Lib.hid (HB2.out.trans (hb.mono HB2.out.size))
  have HO3 := Lib.hid (HO2.out.below hb)
  have HX3 := Lib.hid (HX2.out.below hb)
  have HY3 := Lib.hid (HY2.out.below hb)
  obtain rfl : m3 = 1 := hnw.at_.len
  have HST := Lib.hid (refStore_is c w3 l (HS.out.below HB3.out) HVS.out HN.out HNC.out HM.out HALL.out HE.out)
  clear hnw hb HP0
  go_wp2_with fail
  refine HST.out.mono ?_
  rintro e w4 ⟨rfl, hb⟩
  have HB4 := Lib.hid (HB3.out.trans (hb.mono HB3.out.size))
  have HO4 := Lib.hid (HO3.out.below hb)
  have HX4 := Lib.hid (HX3.out.below hb)
  have HY4 := Lib.hid (HY3.out.below hb)
  clear hb HST
  by_cases he : er = 0
  · subst he
    have HRP := Lib.hid (refPut_all (R := X) (er := er1) a l c r p w4 (HS.out.below HB4.out) HN.out (HI.out.below HB4.out) HSH.out (by rw [HVS.out]; exact HE.out) (by rw [HVS.out]; exact HX.out) (by rw [HVS.out]; exact HE1.out))
    obtain ⟨o0, o1, o2, o3⟩ := HO4.out
    go_wp2_with fail
    refine HRP.out.mono ?_
    rintro e w5 ⟨A5, m5, c5, rfl, hv5, hb⟩
    have HB5 := Lib.hid (HB4.out.trans (hb.mono HB4.out.size))
    have HX5 := Lib.hid (HX4.out.below hb)
    have HY5 := Lib.hid (HY4.out.below hb)
    have HV5 := Lib.hid hv5
    have HRC := Lib.hid (refCut_all (R := Y) (er := er2) a l c id ct w5 (HS.out.below HB5.out) HN.out (by rw [HVS.out]; exact HE.out) (by rw [HVS.out]; exact HY.out) (by rw [HVS.out]; exact HE2.out))
    clear hv5 hb o0 o1 o2 o3 HRP
    go_wp2_with fail
    refine HRC.out.mono ?_
    rintro e w6 ⟨A6, m6, c6, rfl, hv6, hb⟩
    have HB6 := Lib.hid (HB5.out.trans (hb.mono HB5.out.size))
    have HX6 := Lib.hid (HX5.out.below hb)
    have HY6 := Lib.hid (HY5.out.below hb)
    have HV6 := Lib.hid (HV5.out.below hb)
    have HU6 := Lib.hid hv6
    have hvl : vs.length ≤ 5120 := (stErr_ok.1 HE.out).1
    have hXl : X.length ≤ maxLen := by
      rw [← HX.out]; unfold putL maxLen; split
      · simp; omega
      · simp
    have hYl : Y.length ≤ maxLen := by
      rw [← HY.out]; unfold cutL maxLen; split
      · simp; omega
      · simp
    have HSX := Lib.hid (sameS_is (b := true) c1 c5 w6 HX6.out HV6.out (by rw [HX6.out.len]; exact hXl) (by rw [HV6.out.len]; exact hXl) (by rw [decide_eq_true_eq]))
    have HYL := Lib.hid hYl
    clear hv6 hb hXl hYl hvl HRC
    go_wp2_with fail
    refine HSX.out.mono ?_
    rintro e w7 ⟨rfl, hb⟩
    have HB7 := Lib.hid (HB6.out.trans (hb.mono HB6.out.size))
    have HSY := Lib.hid (sameS_is (b := true) c2 c6 w7 (HY6.out.below hb) (HU6.out.below hb) (by rw [HY6.out.len]; exact HYL.out) (by rw [HU6.out.len]; exact HYL.out) (by rw [decide_eq_true_eq]))
    clear hb HSX
    go_wp2_with fail
    refine HSY.out.mono ?_
    rintro e w8 ⟨rfl, hb⟩
    have HB8 := Lib.hid (HB7.out.trans (hb.mono HB7.out.size))
    clear hb
    go_wp2_with fail
    go_ret
    exact ⟨rfl, HB8.out⟩
  · obtain ⟨k1, k2⟩ := putErr_bad (l := vs) (r := r) (by rw [HE.out]; exact he)
    obtain ⟨k3, k4⟩ := cutErr_bad (l := vs) (id := id) (c := ct) (by rw [HE.out]; exact he)
    rw [HE1.out, HE.out] at k1
    rw [HE2.out, HE.out] at k3
    rw [HX.out] at k2
    rw [HY.out] at k4
    have z1 := HX4.out.len
    have z2 := HY4.out.len
    rw [k2] at z1
    rw [k4] at z2
    obtain rfl : m1 = 0 := z1
    obtain rfl : m2 = 0 := z2
    subst k1
    obtain rfl : er2 = er1 := k3
    have q1 : (er2 == 0) = false := by simpa using he
    have q2 : (er2 != 0) = true := by simpa using he
    clear k2 k4
    go_wp2_with fail
    go_ret
    exact ⟨rfl, HB4.out⟩
end Go.Proofs.YtekjlbbacieafaaDoor
