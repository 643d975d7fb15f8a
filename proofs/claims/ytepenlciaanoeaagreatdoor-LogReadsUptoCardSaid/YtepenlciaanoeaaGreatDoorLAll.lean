/- The contract of log.All. -/
import Derived.Test.YtepenlciaanoeaaGreatDoorLRead
import Derived.Test.YtepenlciaanoeaaGreatDoorLOpsR
import Derived.Test.YtepenlciaanoeaaGreatDoorLPure
set_option linter.unusedVariables false
set_option linter.unusedSimpArgs false
set_option maxRecDepth 100000
namespace Go.Proofs.YtepenlciaanoeaaGreatDoor
open Go.RowKit Go.Sort

/-- what log.All answers -/
def AllRes (x : Except Int (List OpL × Nat)) (w : World) (e : Ending) (w' : World) : Prop :=
  Below w.heap.size w w' ∧ match x with
    | .error k => e = .returned (.tuple #[.slice none 0 0, .int .i64 0, .int .i64 k])
    | .ok p => ∃ (L : List OO) (n : Nat) (A : Option Addr) (c : Nat), e = .returned (.tuple #[.slice A n c, .int .i64 (p.2 : Nat), .int .i64 0]) ∧ L.map (·.o) = p.1 ∧ L.length = n ∧ OpsR w.heap.size (.slice A n c) L w'
theorem AllTo.error7 {s : List UInt8} {y : Except Int (List OpL × Nat)} (h : AllTo s y) (h2 : rdOp s = .error 7) : y = .ok ([], 0) := h.det (.stop h2)
theorem AllTo.error_of {s : List UInt8} {y : Except Int (List OpL × Nat)} {e : Int} (h : AllTo s y) (h2 : rdOp s = .error e) (h7 : e ≠ 7) : y = .error e := h.det (.bad h2 h7)
theorem AllTo.next {s : List UInt8} {y : Except Int (List OpL × Nat)} {o : OpL} {n : Nat} (h : AllTo s y) (h2 : rdOp s = .ok (o, n)) : ∃ z, AllTo (s.drop n) z ∧ y = preL [o] n z := by
  obtain ⟨z, hz⟩ := AllTo.ex (s.drop n)
  exact ⟨z, hz, h.det (.more h2 hz)⟩
theorem OwnO.one (W : World) (q : OpL) (P : OpP) (t : TypeId) : ∀ j u, (cellsO [⟨q, P⟩])[j]? = some u → (W.alloc (.cells #[.int .i64 q.kind, .int .i64 q.who.role, .int .i64 q.who.why, .int .i64 q.who.time, .slice P.ra q.n P.rc, .string q.r.id, .int .i64 q.r.cats, .slice P.p.fa q.r.fs.length P.p.fc, .slice P.p.ra q.r.rs.length P.p.rc, .string q.id, .string q.f.key, .string q.f.val] t)).cell? ((⟨W.heap.size, 0, none⟩ : Addr).add j) = some u := cell_op W ⟨q, P⟩ t

set_option maxHeartbeats 4000000 in
theorem logAll_short (s : ByteArray) (x : Except Int (List OpL × Nat)) (w : World) (hE : Env w) (hs : s.size ≤ 20000) (hx : AllTo s.data.toList x) :
    Calls Tryz.prog 20 #[.string s] w (AllRes x w) := by
  obtain ⟨i0, hi0, hz0, hz1, hz2⟩ := info_parts Tryz.infoOp
  have HE := Lib.hid hE
  have HX := Lib.hid hx
  have HLEN := Lib.hid (Lib.size_eq s)
  have hg1 : ¬ (20000 : Int) < (s.size : Int) := by omega
  clear hE hx
  go_enter Tryz.func20, Tryz.ntmps20
  go_wp2_with fail
  go_loopw [5, 6] (fun v i wr => ∃ (N n : Nat) (L : List OO) (A : Option Addr) (c : Nat), N ≤ s.size ∧ i = .int .i64 N ∧ v = .slice A n c ∧ Hid (L.length = n ∧ n ≤ N) ∧ Hid (OpsR w.heap.size (.slice A n c) L wr) ∧ Hid (∃ y, AllTo (s.data.toList.drop N) y ∧ x = preL (L.map (·.o)) N y) ∧ Hid (Below w.heap.size w wr)) (fun _ i _ => s.size - (intOf i).toNat)
  case atStart => exact ⟨0, 0, [], none, 0, Nat.zero_le _, rfl, rfl, ⟨rfl, Nat.le_refl _⟩, OpsR.nil _ _, ⟨x, HX.out, (preL_nil x).symm⟩, Below.refl _ _⟩
  case round =>
    clear HX hg1
    obtain ⟨N, n, L, A, c, hN, rfl, rfl, HL, HO, HY, HB⟩ := hrel
    obtain ⟨S2, hS2⟩ : ∃ S2, s.extract N s.size = S2 := ⟨_, rfl⟩
    have hsl : S2.data.toList = s.data.toList.drop N := by
      rw [← hS2, ext_data]
      exact List.take_of_length_le (by rw [List.length_drop, ← HLEN.out]; exact Nat.le_refl _)
    obtain ⟨X, hX⟩ : ∃ X, rdOp (s.data.toList.drop N) = X := ⟨_, rfl⟩
    have hrd := logRead_any S2 wr (HE.out.below HB.out) (by
      rw [Lib.size_eq, hsl, List.length_drop, ← HLEN.out]
      omega)
    rw [hsl, hX] at hrd
    have HRD := Lib.hid hrd
    have HXX := Lib.hid hX
    have i1 : (0 : Int) ≤ (N : Int) := by omega
    have i2 : (N : Int) ≤ (s.size : Int) := by omega
    clear hsl hX hrd
    go_wp2_with fail
    refine HRD.out.mono ?_
    rintro e w1 ⟨P, rfl, hi, hb, hpf⟩
    have HB1 := Lib.hid (HB.out.trans (hb.mono HB.out.size))
    have HO1 := Lib.hid (HO.out.below hb)
    have hown : ∀ z, (Value.slice A n c).ownBlock = some z → w.heap.size ≤ z ∧ z < wr.heap.size := fun z hz => World.ownsRow.lt HO.out.own z hz
    obtain ⟨o, ho⟩ : ∃ o, opO X = o := ⟨_, rfl⟩
    obtain ⟨m, hm⟩ : ∃ m, opN X = m := ⟨_, rfl⟩
    obtain ⟨er, her⟩ : ∃ er, opE X = er := ⟨_, rfl⟩
    rw [ho] at hi ⊢
    rw [hm, her]
    have HON := Lib.hid (on_new (v := .slice A n c) hi hpf (fun z hz => (hown z hz).2))
    have HOW := Lib.hid hown
    obtain ⟨w2, hw2⟩ : ∃ w2, w1.alloc (.cells #[.int .i64 o.kind, .int .i64 o.who.role, .int .i64 o.who.why, .int .i64 o.who.time, .slice P.ra o.n P.rc, .string o.r.id, .int .i64 o.r.cats, .slice P.p.fa o.r.fs.length P.p.fc, .slice P.p.ra o.r.rs.length P.p.rc, .string o.id, .string o.f.key, .string o.f.val] 43) = w2 := ⟨_, rfl⟩
    have h12 : Below w1.heap.size w1 w2 := hw2 ▸ (Below.refl _ _).alloc (Nat.le_refl _) _
    have HX2 := Lib.hid (show OpAt w2 w1.heap.size 0 ⟨o, P⟩ from by rw [← hw2]; constructor <;> simp [go_sem])
    have HSZ2 := Lib.hid (show w2.heap.size = w1.heap.size + 1 from by rw [← hw2]; simp)
    have HW2 := Lib.hid hw2
    have H12 := Lib.hid h12
    have HB2 := Lib.hid (HB1.out.trans (h12.mono HB1.out.size))
    have HEO := Lib.hid ho
    have HEM := Lib.hid hm
    have HER := Lib.hid her
    clear hi hb hpf hown ho hm her hw2 h12 HRD
    by_cases h7 : er = 7
    · subst h7
      have hXe : X = .error 7 := by
        have h := HER.out
        cases hXX : X with
        | error e =>
          rw [hXX] at h
          exact congrArg Except.error h
        | ok p =>
          rw [hXX] at h
          exact absurd (show (0 : Int) = 7 from h) (by decide)
      have HFIN : Hid (x = .ok (L.map (·.o), N)) := by
        obtain ⟨y, hy1, hy2⟩ := HY.out
        show x = _
        rw [hy2, hy1.error7 (HXX.out.trans hXe)]
        show Except.ok (L.map (·.o) ++ [], N + 0) = _
        rw [List.append_nil, Nat.add_zero]
      clear hXe
      go_upto_region 6 with (fail)
      rw [HW2.out]
      go_wp2_with fail
      go_ret3
      rw [HFIN.out]
      exact ⟨HB2.out, L, n, A, c, rfl, rfl, HL.out.1, HO1.out.below H12.out⟩
    · have h7f : (er == 7) = false := by simpa using h7
      by_cases h0 : er = 0
      · subst h0
        obtain ⟨hXo, hm1⟩ : X = .ok (o, m) ∧ 1 ≤ m ∧ N + m ≤ s.size := by
          have h := HER.out
          cases hXX : X with
          | error e =>
            rw [hXX] at h
            exact absurd h (rd_error (HXX.out.trans hXX))
          | ok p =>
            have h1 := HEO.out
            have h2 := HEM.out
            rw [hXX] at h1 h2
            have h3 : p.1 = o := h1
            have h4 : p.2 = m := h2
            have hs2 := rd_size (o := p.1) (n := p.2) (HXX.out.trans hXX)
            rw [List.length_drop, ← HLEN.out, h4] at hs2
            exact ⟨by rw [← h3, ← h4], hs2.1, by omega⟩
        have HNX := Lib.hid (show ∃ y, AllTo (s.data.toList.drop (N + m)) y ∧ x = preL ((L ++ [(⟨o, P⟩ : OO)]).map (·.o)) (N + m) y from by
          obtain ⟨y, hy1, hy2⟩ := HY.out
          obtain ⟨z, hz1, hz2⟩ := hy1.next (HXX.out.trans hXo)
          rw [List.drop_drop] at hz1
          refine ⟨z, hz1, ?_⟩
          rw [hy2, hz2, preL_preL, List.map_append]
          rfl)
        clear hXo
        have hw1 : wrap64 ((N : Int) + (m : Int)) = ((N + m : Nat) : Int) := by
          have := hm1.2
          unfold wrap64
          omega
        have HNEW := Lib.hid (OwnO.one w2 o P 43)
        obtain ⟨w3, hw3⟩ : ∃ w3, w2.alloc (.cells #[.int .i64 o.kind, .int .i64 o.who.role, .int .i64 o.who.why, .int .i64 o.who.time, .slice P.ra o.n P.rc, .string o.r.id, .int .i64 o.r.cats, .slice P.p.fa o.r.fs.length P.p.fc, .slice P.p.ra o.r.rs.length P.p.rc, .string o.id, .string o.f.key, .string o.f.val] 43) = w3 := ⟨_, rfl⟩
        rw [hw3] at HNEW
        have h23 : Below w2.heap.size w2 w3 := hw3 ▸ (Below.refl _ _).alloc (Nat.le_refl _) _
        have HO3 := Lib.hid ((HO1.out.below H12.out).below h23)
        have HON3 := Lib.hid ((HON.out.step (Kept.of (Z := fun _ => True) H12.out) (fun _ _ _ => trivial) (fun _ _ k => k)).step (Kept.of (Z := fun _ => True) h23) (fun _ _ _ => trivial) (fun _ _ k => k))
        have HW3 := Lib.hid hw3
        have HB3 := Lib.hid (HB2.out.trans (h23.mono HB2.out.size))
        have hbw : w.heap.size ≤ w3.heap.size := HB3.out.size
        have hnb : n ≤ 20000 := Nat.le_trans HL.out.2 (Nat.le_trans hN hs)
        have hm2 := hm1.2
        have hm3 := hm1.1
        obtain ⟨x0, x1, x2, x3, x4, x5, x6, x7, x8, x9, x10, x11⟩ := HX2.out
        simp only [Nat.zero_add] at x0 x1 x2 x3 x4 x5 x6 x7 x8 x9 x10 x11
        clear hw3 h23 hm1 h7 HOW HON HO1 HO
        go_upto_region 6 with (fail)
        rw [HW2.out]
        go_upto_region 10 with (fail)
        go_wp2_with (at_builtin; rw [HW3.out]; refine wpList_append_own_at _ rfl _ _ 23 rfl w.heap.size 43 i0 _ 12 176 Tryz.underlying23 hi0 hz0 hz1 hz2 rfl (by decide) (.slice A n c) n (cellsO L) rfl (HL.out.1 ▸ HO3.out.own) ⟨w2.heap.size, 0, none⟩ 1 1 (cellsO [⟨o, P⟩]) rfl rfl HNEW.out (cellsO_one _) (by unfold maxLen; omega) (by omega) hbw ?_; intro v' w4 hown' hgrow hnv hat)
        have ho4 : OwnO w.heap.size w4 v' (L ++ [⟨o, P⟩]) := by
          unfold OwnO
          rw [cellsO_append, List.length_append, HL.out.1]
          exact hown'
        obtain ⟨A', c', hv⟩ := OwnO.form ho4
        rw [List.length_append, HL.out.1] at hv
        have hv' : v' = .slice A' (n + 1) c' := hv
        subst hv'
        have HAPP := Lib.hid (HO3.out.app HON3.out hgrow ho4 hat)
        have HB4 := Lib.hid (show Below w.heap.size w w4 from HB3.out.trans ((Kept.grown (Z := fun z => z < w.heap.size) hgrow fun z hz e => by
          have := (World.ownsRow.lt HO3.out.own z e.symm).1
          omega).to (fun z hz => hz) hbw))
        clear hown' hgrow hnv hat ho4 hv
        go_wp2_with fail
        go_roundw
        case rel => exact ⟨N + m, n + 1, L ++ [(⟨o, P⟩ : OO)], A', c', hm2, by go_num, rfl, ⟨by rw [List.length_append, HL.out.1]; rfl, by have := HL.out.2; omega⟩, HAPP.out, HNX.out, HB4.out⟩
        case measure => simp [intOf]; omega
      · have h0f : (er == 0) = false := by simpa using h0
        have hXe : X = .error er := by
          have h := HER.out
          cases hXX : X with
          | error e =>
            rw [hXX] at h
            exact congrArg Except.error h
          | ok p =>
            rw [hXX] at h
            exact absurd h.symm h0
        have HFIN : Hid (x = .error er) := by
          obtain ⟨y, hy1, hy2⟩ := HY.out
          show x = _
          rw [hy2, hy1.error_of (HXX.out.trans hXe) h7]
          rfl
        clear hXe
        go_upto_region 6 with (fail)
        rw [HW2.out]
        go_wp2_with fail
        go_ret3
        rw [HFIN.out]
        exact ⟨HB2.out, rfl⟩
theorem logAll_long (s : ByteArray) (w : World) (hs : 20000 < s.size) :
    Calls Tryz.prog 20 #[.string s] w (AllRes (.error 2) w) := by
  have hg1 : (20000 : Int) < (s.size : Int) := by omega
  go_enter Tryz.func20, Tryz.ntmps20
  go_wp2_with fail
  go_ret3
  exact ⟨Below.refl _ _, rfl⟩
end Go.Proofs.YtepenlciaanoeaaGreatDoor
