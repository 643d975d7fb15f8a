/- The contract of wykeep.shipped: the walk. -/
import Derived.Test.YtkgbaaaklijopaaGShip
set_option linter.unusedVariables false
set_option linter.unusedSimpArgs false
set_option maxRecDepth 100000
namespace Go.Proofs.Ytkgbaaaklijopaa
open Go.RowKit Go.Sort

def ShippedTo (p q : Nat) (w3 : World) (X : GrpX) (N : Nat) (e : Ending) (w' : World) : Prop :=
  ∃ va vc log X', e = .returned (.tuple #[.slice va (List.length log) vc, .bool true]) ∧ LpS w3.heap.size p q w3 X' va log w' ∧ log.length ≤ vc ∧ More X X' log ∧ Begins X' ∧ log.length ≤ N

set_option maxHeartbeats 16000000 in
theorem shipped_any {p q nn n0 N : Nat} {w3 w : World} {X : GrpX} {a : Option Addr} {c : Nat} {g : List RowI} (h : LpG w3.heap.size p q w3 X w) (hg : SlG w3 a g) (hn : g.length = n0) (hl : n0 ≤ c) (hX : nn = X.n + 1) (hB : Begins X) (hN : min n0 60 = N) (hpre : X.L 0 = [] ∨ (X.L 0).length + N ≤ 60) :
    Calls Try.prog 29 #[ptr p, .int .i64 (nn : Int), .slice a n0 c] w (ShippedTo p q w3 X N) := by
  have e1 : min (n0 : Int) 60 = (N : Int) := by omega
  obtain ⟨a', hrun, hsl⟩ := sg_to (a := a) (n := n0) (c := c) (m := N) .i64 (by omega) hl
  have hsl := hsl w3 g hg
  obtain ⟨g', hg'⟩ : ∃ g', g.take N = g' := ⟨_, rfl⟩
  rw [hg'] at hsl
  have hgN : g'.length = N := by rw [← hg', List.length_take]; omega
  have HG := Lib.hid hsl
  have HGN := Lib.hid hgN
  have HN60 := Lib.hid (show N ≤ 60 by omega)
  rw [← e1] at hrun
  have E1 := Lib.hid e1
  have HX := Lib.hid hX
  have HP := Lib.hid hpre
  have h4 := h.ok.n4
  have n1 : (nn : Int) ≤ 5 := by omega
  have n2 : (1 : Int) ≤ (nn : Int) := by omega
  have h0 : ShipR p q w3 X X none 0 [] none 0 [] 0 w := by
    obtain ⟨O, h1, h2, h3⟩ := h
    exact ⟨⟨O, h1, h2, h3, World.ownsRow_nil _ _ _ _, (fun d e => by cases e), World.ownsRow_nil _ _ _ _, (fun d e => by cases e), (fun s hs => by cases hs)⟩, More.refl X, hB, (fun s hs => by cases hs), Nat.le_refl _, Nat.le_refl _⟩
  have H0 := Lib.hid h0
  clear h hg hn hl hX hB hN hpre hsl hg' hgN e1 h4 h0
  go_enter Try.func29, Try.ntmps29
  go_wp2_with fail
  go_loopw [8, 9, 28] (fun s8 s9 i wr => ∃ (k lg wn : Nat) (va : Option Addr) (vc : Nat) (ya : Option Addr) (yc : Nat), k ≤ N ∧ i = .int .i64 (k : Int) ∧ s8 = .slice va lg vc ∧ s9 = .slice ya wn yc ∧ Hid (∃ X' log way, ShipR p q w3 X X' va vc log ya yc way k wr ∧ log.length = lg ∧ way.length = wn)) (fun _ _ i _ => N - (intOf i).toNat)
  case atStart => exact ⟨0, 0, 0, none, 0, none, 0, Nat.zero_le _, rfl, rfl, rfl, X, [], [], H0.out, rfl, rfl⟩
  case round =>
    obtain ⟨k, lg, wn, va, vc, ya, yc, hk, rfl, rfl, rfl, HT⟩ := hrel
    obtain ⟨X', log, way, hR, hlg, hwn⟩ := HT.out
    have i3 : (N : Int) ≤ 60 := by have := HN60.out; omega
    by_cases hlt : k < N
    · have i1 : (0 : Int) ≤ (k : Int) := by omega
      have i2 : (k : Int) < (N : Int) := by omega
      obtain ⟨r, hr⟩ : ∃ r, g'[k]? = some r := ⟨_, List.getElem?_eq_getElem (by rw [HGN.out]; exact hlt)⟩
      obtain ⟨hri, b, off, rfl, hc⟩ := (HG.out.below hR.base) k r hr
      obtain ⟨rn, hrn⟩ : ∃ rn, r.z.length = rn := ⟨_, rfl⟩
      rw [hrn] at hc
      by_cases h3 : rn < 3
      · have j1 : (rn : Int) < 3 := by omega
        have HR := Lib.hid hR
        clear hR hr hri HT hrn h3
        go_wp2_with fail
        go_roundw
        case rel => exact ⟨k + 1, lg, wn, va, vc, ya, yc, by omega, by go_num, rfl, rfl, X', log, way, HR.out.next, hlg, hwn⟩
        case measure => simp [intOf]; omega
      have j1 : ¬ (rn : Int) < 3 := by omega
      obtain ⟨x0, hx0⟩ : ∃ x, r.z[0]? = some x := ⟨_, List.getElem?_eq_getElem (by omega)⟩
      obtain ⟨x1, hx1⟩ : ∃ x, r.z[1]? = some x := ⟨_, List.getElem?_eq_getElem (by omega)⟩
      obtain ⟨x2, hx2⟩ : ∃ x, r.z[2]? = some x := ⟨_, List.getElem?_eq_getElem (by omega)⟩
      obtain ⟨b', off', hra, d0⟩ := hri.at_ 0 x0 hx0
      rw [Nat.add_zero] at d0
      obtain ⟨_, _, e', d1⟩ := hri.at_ 1 x1 hx1
      rw [hra] at e'
      cases e'
      obtain ⟨_, _, e', d2⟩ := hri.at_ 2 x2 hx2
      rw [hra] at e'
      cases e'
      rw [hra] at hc
      generalize r.c = rc at hc
      obtain ⟨i, hi⟩ : ∃ i, wit x1 (nn : Int) = i := ⟨_, rfl⟩
      have hin : i ≤ X'.n := by have := wit_lt x1 (nn : Int) (by omega); have := HX.out; have := hR.more.n; omega
      have HI := Lib.hid hi
      have HIN := Lib.hid hin
      obtain ⟨hl, hhl⟩ : ∃ hl, (X'.L i).length = hl := ⟨_, rfl⟩
      have h60 := hR.ok.few i hin
      have j2 : (hl : Int) ≤ 60 := by omega
      have j3 : (0 : Int) ≤ (hl : Int) := by omega
      have hlog : Hid (Calls Try.prog 26 #[ptr p, .int .i64 (i : Int)] wr fun e w' => ∃ A c, e = .returned (.tuple #[.slice A hl c, .int .i64 0]) ∧ Below wr.heap.size wr w') := by
        obtain ⟨O, hs⟩ := hR.sh
        have := log_len hs.g hin
        rw [hhl] at this
        exact this
      have HHL := Lib.hid hhl
      have HR := Lib.hid hR
      have HLG := Lib.hid hlg
      have HWN := Lib.hid hwn
      obtain ⟨kd, hkd⟩ : ∃ kd, wit x0 6 = kd := ⟨_, rfl⟩
      have hk6 : kd < 6 := by have := wit_lt x0 6 (by omega); omega
      have HKD := Lib.hid hkd
      have HK6 := Lib.hid hk6
      clear hR hr hri HT hrn h3 hra hi hin hx0 hx1 hx2 h60 hhl hlg hwn hkd hk6
      go_wp2_with fail
      refine (within_to HI.out _ (by omega) (by omega)).mono ?_
      rintro e w' ⟨rfl, rfl⟩
      go_wp2_with fail
      refine hlog.out.mono ?_
      rintro e w1 ⟨A1, c1, rfl, hb1⟩
      have HR1 := Lib.hid (HR.out.below hb1)
      obtain ⟨hcb, _⟩ := bcell hb1
      have d0' : w1.cell? ⟨b', off', none⟩ = some (.int .i64 x0) := (hcb _ _ (cell_lt d0)).trans d0
      have d2' : w1.cell? ⟨b', off' + 2, none⟩ = some (.int .i64 x2) := (hcb _ _ (cell_lt d2)).trans d2
      clear hcb hb1 hlog HR d0 d1 d2 hc
      go_wp2_with fail
      refine (within_to HKD.out _ (by omega) (by omega)).mono ?_
      rintro e w' ⟨rfl, rfl⟩
      have hk6 := HK6.out
      have hkk : kd = 0 ∨ kd = 1 ∨ kd = 2 ∨ kd = 3 ∨ kd = 4 ∨ kd = 5 := by omega
      clear hk6
      rcases hkk with rfl | rfl | rfl | rfl | rfl | rfl
      · -- the leader has one entry more, or is full
        obtain ⟨d, hd⟩ : ∃ d, wit x2 50 = d := ⟨_, rfl⟩
        have hd50 : (d : Int) < 50 := by rw [← hd]; exact wit_lt x2 50 (by omega)
        obtain ⟨s, hs⟩ : ∃ s, bs (Lib.itoa (d : Int)) = s := ⟨_, rfl⟩
        have HD := Lib.hid hd
        have HS := Lib.hid hs
        clear hd hs
        go_wp2_with fail
        refine (within_to HD.out _ (by omega) (by omega)).mono ?_
        rintro e w' ⟨rfl, rfl⟩
        go_wp2_with fail
        refine (dec_is _ (by omega) HS.out).mono ?_
        rintro e w' ⟨rfl, rfl⟩
        by_cases hfull : (X'.L 0).length < 60
        · have HA := Lib.hid (HR1.out.adding (s := s) hfull HLG.out)
          clear hfull
          go_wp2_with fail
          refine HA.out.mono ?_
          rintro e w2 ⟨NN, rfl, A', c', w3', hrun2, hR2⟩
          have HR2 := Lib.hid hR2
          clear hR2 HA d2' hd50
          go_wp2_with (at_builtin; refine wpList_app_run rfl (.tmp 79) (.tmp 81) 23 rfl (.slice va lg vc) (.slice (some ⟨w2.heap.size, 0, none⟩) 1 1) (by simp [Act.eval, Act.put]) (by simp [Act.eval, Act.put]) hrun2 ?_)
          go_roundw
          case rel => exact ⟨k + 1, lg + 1, wn, A', c', ya, yc, by omega, by go_num, rfl, rfl, _, _, _, HR2.out, by rw [List.length_append, HLG.out]; rfl, HWN.out⟩
          case measure => simp [intOf]; omega
        · have hno : Hid (Calls Try.prog 14 #[ptr p, .string s] w1 fun e w' => e = .returned (.tuple #[.int .i64 0, .int .i64 2]) ∧ w' = w1) := by
            obtain ⟨O, hs⟩ := HR1.out.sh
            exact add_no hs.g (by omega)
          have hlg60 : ¬ (lg : Int) < 60 := by
            have h1 := HR1.out.more.l0
            have h2 := HR1.out.lk
            have h3 := HLG.out
            rcases HP.out with h4 | h4
            · rw [h4, List.nil_append] at h1
              rw [h1] at hfull
              omega
            · rw [h1, List.length_append] at hfull
              omega
          clear hfull d2' hd50
          go_wp2_with fail
          refine hno.out.mono ?_
          rintro e w' ⟨rfl, rfl⟩
          go_wp2_with fail
          go_roundw
          case rel => exact ⟨k + 1, lg, wn, va, vc, ya, yc, by omega, by go_num, rfl, rfl, X', log, way, HR1.out.next, HLG.out, HWN.out⟩
          case measure => simp [intOf]; omega
      · -- the leader has one entry more, or is full
        obtain ⟨d, hd⟩ : ∃ d, wit x2 50 = d := ⟨_, rfl⟩
        have hd50 : (d : Int) < 50 := by rw [← hd]; exact wit_lt x2 50 (by omega)
        obtain ⟨s, hs⟩ : ∃ s, bs (Lib.itoa (d : Int)) = s := ⟨_, rfl⟩
        have HD := Lib.hid hd
        have HS := Lib.hid hs
        clear hd hs
        go_wp2_with fail
        refine (within_to HD.out _ (by omega) (by omega)).mono ?_
        rintro e w' ⟨rfl, rfl⟩
        go_wp2_with fail
        refine (dec_is _ (by omega) HS.out).mono ?_
        rintro e w' ⟨rfl, rfl⟩
        by_cases hfull : (X'.L 0).length < 60
        · have HA := Lib.hid (HR1.out.adding (s := s) hfull HLG.out)
          clear hfull
          go_wp2_with fail
          refine HA.out.mono ?_
          rintro e w2 ⟨NN, rfl, A', c', w3', hrun2, hR2⟩
          have HR2 := Lib.hid hR2
          clear hR2 HA d2' hd50
          go_wp2_with (at_builtin; refine wpList_app_run rfl (.tmp 79) (.tmp 81) 23 rfl (.slice va lg vc) (.slice (some ⟨w2.heap.size, 0, none⟩) 1 1) (by simp [Act.eval, Act.put]) (by simp [Act.eval, Act.put]) hrun2 ?_)
          go_roundw
          case rel => exact ⟨k + 1, lg + 1, wn, A', c', ya, yc, by omega, by go_num, rfl, rfl, _, _, _, HR2.out, by rw [List.length_append, HLG.out]; rfl, HWN.out⟩
          case measure => simp [intOf]; omega
        · have hno : Hid (Calls Try.prog 14 #[ptr p, .string s] w1 fun e w' => e = .returned (.tuple #[.int .i64 0, .int .i64 2]) ∧ w' = w1) := by
            obtain ⟨O, hs⟩ := HR1.out.sh
            exact add_no hs.g (by omega)
          have hlg60 : ¬ (lg : Int) < 60 := by
            have h1 := HR1.out.more.l0
            have h2 := HR1.out.lk
            have h3 := HLG.out
            rcases HP.out with h4 | h4
            · rw [h4, List.nil_append] at h1
              rw [h1] at hfull
              omega
            · rw [h1, List.length_append] at hfull
              omega
          clear hfull d2' hd50
          go_wp2_with fail
          refine hno.out.mono ?_
          rintro e w' ⟨rfl, rfl⟩
          go_wp2_with fail
          go_roundw
          case rel => exact ⟨k + 1, lg, wn, va, vc, ya, yc, by omega, by go_num, rfl, rfl, X', log, way, HR1.out.next, HLG.out, HWN.out⟩
          case measure => simp [intOf]; omega
      · -- something is sent
        obtain ⟨f, hf⟩ : ∃ f, wit x2 ((hl : Int) + 1) = f := ⟨_, rfl⟩
        have hfl : f ≤ hl := by have := wit_lt x2 ((hl : Int) + 1) (by omega); omega
        have HF := Lib.hid hf
        have HFL := Lib.hid hfl
        clear hf hfl
        go_wp2_with fail
        refine (within_to HF.out _ (by omega) (by omega)).mono ?_
        rintro e w' ⟨rfl, rfl⟩
        by_cases hi0 : i = 0
        · have e0 : ((i : Int) == 0) = true := by rw [hi0]; rfl
          have hno : Hid (Calls Try.prog 16 #[ptr p, .int .i64 (i : Int), .int .i64 (f : Int)] w1 (NoneTo 4 w1)) := by
            obtain ⟨O, hs⟩ := HR1.out.sh
            exact send_none hs.g (.inl (by omega))
          clear hi0 d2'
          go_wp2_with fail
          refine hno.out.mono ?_
          rintro e w' ⟨rfl, rfl⟩
          go_wp2_with fail
          go_roundw
          case rel => exact ⟨k + 1, lg, wn, va, vc, ya, yc, by omega, by go_num, rfl, rfl, X', log, way, HR1.out.next, HLG.out, HWN.out⟩
          case measure => simp [intOf]; omega
        · have e0 : ((i : Int) == 0) = false := by rw [beq_eq_false_iff_ne]; omega
          obtain ⟨j, hj⟩ : ∃ j, i = j + 1 := ⟨i - 1, by omega⟩
          have HSD := Lib.hid (HR1.out.sending (i := (i : Int)) (j := j) (f := f) (by omega) (by have := HIN.out; omega) (by have h1 := HR1.out.beg.le HIN.out; rw [HHL.out] at h1; exact Nat.le_trans HFL.out h1) HWN.out (by have := HN60.out; omega))
          clear hi0 hj d2'
          go_wp2_with fail
          refine HSD.out.mono ?_
          rintro e w2 ⟨A2, m2, c2, rfl, A', c', w3', hrun2, NN, er, X'', way', hway, hT⟩
          have HWY := Lib.hid hway
          clear hway HSD
          go_wp2_with (at_builtin; refine wpList_app_run rfl (.tmp 111) (.tmp 116) 70 rfl (.slice ya wn yc) (.slice (some ⟨w2.heap.size, 0, none⟩) 1 1) (by simp [Act.eval, Act.put]) (by simp [Act.eval, Act.put]) hrun2 ?_)
          refine hT.out.mono ?_
          rintro e w4 ⟨rfl, hR4⟩
          have HR4 := Lib.hid hR4
          clear hR4 hT
          go_wp2_with fail
          go_roundw
          case rel => exact ⟨k + 1, lg, wn + 1, va, vc, A', c', by omega, by go_num, rfl, rfl, X'', log, way', HR4.out, HLG.out, HWY.out⟩
          case measure => simp [intOf]; omega
      · -- what was sent comes once more
        by_cases hw0 : 0 < wn
        · have j4 : (0 : Int) < (wn : Int) := by omega
          have hw60 : wn ≤ 60 := by have := HWN.out; have := HR1.out.wk; have := HN60.out; omega
          obtain ⟨x, hx⟩ : ∃ x, wit x2 (wn : Int) = x := ⟨_, rfl⟩
          have hxw : x < wn := by have := wit_lt x2 (wn : Int) (by omega); omega
          obtain ⟨s, hs⟩ : ∃ s, way[x]? = some s := ⟨_, List.getElem?_eq_getElem (by rw [HWN.out]; exact hxw)⟩
          have hat : ∃ b, ya = some ⟨b, 0, none⟩ ∧ w1.cell? ⟨b, x * 3, none⟩ = some (.int .i64 (s.i : Int)) ∧ w1.cell? ⟨b, x * 3 + 1, none⟩ = some (.int .i64 (s.f : Int)) ∧ w1.cell? ⟨b, x * 3 + 2, none⟩ = some (.slice s.a s.l.length s.c) := by
            obtain ⟨O, hsh⟩ := HR1.out.sh
            exact OwnW.at_ hsh.wo hs
          obtain ⟨b2, rfl, y0, y1, y2⟩ := hat
          obtain ⟨sn, hsn⟩ : ∃ sn, s.l.length = sn := ⟨_, rfl⟩
          rw [hsn] at y2
          have hA : Below w1.heap.size w1 (w1.alloc (.cells #[.int .i64 (s.i : Int), .int .i64 (s.f : Int), .slice s.a sn s.c] 73)) := (Below.refl _ _).alloc (Nat.le_refl _) _
          obtain ⟨NN, er, X'', hT⟩ := (HR1.out.below hA).taking (s := s) (List.mem_of_getElem? hs) hsn
          have HTK := Lib.hid hT
          have HXX := Lib.hid hx
          have j5 : (x : Int) < (wn : Int) := by omega
          have j6 : (0 : Int) ≤ (x : Int) := by omega
          have HW60 := Lib.hid hw60
          generalize s.a = sa at y2 HTK
          generalize s.c = sc at y2 HTK
          generalize s.i = si at y0 HTK
          generalize s.f = sf at y1 HTK
          clear hT hA hs hsn hx hxw hw60 hw0
          go_wp2_with fail
          refine (within_to HXX.out _ (by omega) (by have := HW60.out; omega)).mono ?_
          rintro e w' ⟨rfl, rfl⟩
          go_wp2_with fail
          refine HTK.out.mono ?_
          rintro e w4 ⟨rfl, hR4⟩
          have HR4 := Lib.hid hR4
          clear hR4 HTK
          go_wp2_with fail
          go_roundw
          case rel => exact ⟨k + 1, lg, wn, va, vc, _, yc, by omega, by go_num, rfl, rfl, X'', log, way, HR4.out.next, HLG.out, HWN.out⟩
          case measure => simp [intOf]; omega
        · have j4 : ¬ (0 : Int) < (wn : Int) := by omega
          clear hw0 d2'
          go_wp2_with fail
          go_roundw
          case rel => exact ⟨k + 1, lg, wn, va, vc, ya, yc, by omega, by go_num, rfl, rfl, X', log, way, HR1.out.next, HLG.out, HWN.out⟩
          case measure => simp [intOf]; omega
      · -- a follower tells
        by_cases hi0 : i = 0
        · have e0 : ¬ (0 : Int) < (i : Int) := by omega
          clear hi0 d2'
          go_wp2_with fail
          go_roundw
          case rel => exact ⟨k + 1, lg, wn, va, vc, ya, yc, by omega, by go_num, rfl, rfl, X', log, way, HR1.out.next, HLG.out, HWN.out⟩
          case measure => simp [intOf]; omega
        · have e0 : (0 : Int) < (i : Int) := by omega
          obtain ⟨j, hj⟩ : ∃ j, i = j + 1 := ⟨i - 1, by omega⟩
          obtain ⟨f, hf⟩ : ∃ f, wit x2 ((hl : Int) + 1) = f := ⟨_, rfl⟩
          have hfl : f ≤ hl := by have := wit_lt x2 ((hl : Int) + 1) (by omega); omega
          have hT := HR1.out.telling (i := (i : Int)) (j := j) (m := f) (by omega) (by have := HIN.out; omega) (by rw [← hj, HHL.out]; exact hfl)
          obtain ⟨X'', hT⟩ := hT
          have HTK := Lib.hid hT
          have HF := Lib.hid hf
          clear hi0 hj hf hfl hT
          go_wp2_with fail
          refine (within_to HF.out _ (by omega) (by omega)).mono ?_
          rintro e w' ⟨rfl, rfl⟩
          go_wp2_with fail
          refine HTK.out.mono ?_
          rintro e w4 ⟨rfl, hR4⟩
          have HR4 := Lib.hid hR4
          clear hR4 HTK d2'
          go_wp2_with fail
          go_roundw
          case rel => exact ⟨k + 1, lg, wn, va, vc, ya, yc, by omega, by go_num, rfl, rfl, X'', log, way, HR4.out.next, HLG.out, HWN.out⟩
          case measure => simp [intOf]; omega
      · -- a follower loses
        obtain ⟨f, hf⟩ : ∃ f, wit x2 ((hl : Int) + 1) = f := ⟨_, rfl⟩
        have hfl : f ≤ hl := by have := wit_lt x2 ((hl : Int) + 1) (by omega); omega
        obtain ⟨er, X'', hT⟩ := HR1.out.losing (i := i) (m := f) HIN.out (by rw [HHL.out]; exact hfl)
        have HTK := Lib.hid hT
        have HF := Lib.hid hf
        clear hf hfl hT
        go_wp2_with fail
        refine (within_to HF.out _ (by omega) (by omega)).mono ?_
        rintro e w' ⟨rfl, rfl⟩
        go_wp2_with fail
        refine HTK.out.mono ?_
        rintro e w4 ⟨rfl, hR4⟩
        have HR4 := Lib.hid hR4
        clear hR4 HTK d2'
        go_wp2_with fail
        go_roundw
        case rel => exact ⟨k + 1, lg, wn, va, vc, ya, yc, by omega, by go_num, rfl, rfl, X'', log, way, HR4.out.next, HLG.out, HWN.out⟩
        case measure => simp [intOf]; omega
    · obtain rfl : k = N := by omega
      obtain ⟨O, hs⟩ := hR.sh
      have HR := Lib.hid hR
      have HS := Lib.hid hs
      clear hR HT hs
      go_wp2_with fail
      go_ret2
      obtain ⟨k1, k2, k3⟩ := OwnS.sl HS.out.lo
      subst hlg
      exact ⟨va, vc, log, X', rfl, ⟨O, HS.out.g, HS.out.os, HS.out.base, k1, fun d e => ⟨HS.out.lf d e, (HS.out.lt.1 d e).2⟩⟩, k2, HR.out.more, HR.out.beg, HR.out.lk⟩
end Go.Proofs.Ytkgbaaaklijopaa
