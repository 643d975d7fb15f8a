/- The contract of grown. -/
import Derived.Test.YtodlabohijabnaaDoorSGrid
import Derived.Test.YtodlabohijabnaaDoorSRefCut
import Derived.Deep.CutRange
set_option linter.unusedVariables false
set_option linter.unusedSimpArgs false
set_option maxRecDepth 100000
namespace Go.Proofs.YtodlabohijabnaaDoor
open Go.RowKit Go.Sort

def idB : Nat → ByteArray
  | 0 => ⟨#[97]⟩
  | 1 => ⟨#[98]⟩
  | _ => ⟨#[99]⟩
def isAbc (s : ByteArray) : Prop := s = ⟨#[97]⟩ ∨ s = ⟨#[98]⟩ ∨ s = ⟨#[99]⟩
theorem idB_abc (i : Nat) : isAbc (idB i) := by
  match i with
  | 0 => exact .inl rfl
  | 1 => exact .inr (.inl rfl)
  | i + 2 => exact .inr (.inr rfl)
theorem idB_nm (i : Nat) : isNm (idB i) = true := by
  match i with
  | 0 => decide
  | 1 => decide
  | i + 2 => show isNm ⟨#[99]⟩ = true; decide
theorem idB_cell {i : Nat} (h : i < 3) : (#[Value.string ⟨#[97]⟩, .string ⟨#[98]⟩, .string ⟨#[99]⟩] : Array Value)[i]? = some (.string (idB i)) := by
  match i, h with
  | 0, _ => rfl
  | 1, _ => rfl
  | 2, _ => rfl

def xyB : Nat → ByteArray
  | 0 => ⟨#[120]⟩
  | _ => ⟨#[121]⟩
theorem xyB_cell {i : Nat} (h : i < 2) : (#[Value.string ⟨#[120]⟩, .string ⟨#[121]⟩] : Array Value)[i]? = some (.string (xyB i)) := by
  match i, h with
  | 0, _ => rfl
  | 1, _ => rfl
theorem xyB_list {i : Nat} (h : i < [Value.string ⟨#[120]⟩, .string ⟨#[121]⟩].length) : [Value.string ⟨#[120]⟩, .string ⟨#[121]⟩][i] = .string (xyB i) := by
  match i, h with
  | 0, _ => rfl
  | 1, _ => rfl
theorem idB_list {i : Nat} (h : i < [Value.string ⟨#[97]⟩, .string ⟨#[98]⟩, .string ⟨#[99]⟩].length) : [Value.string ⟨#[97]⟩, .string ⟨#[98]⟩, .string ⟨#[99]⟩][i] = .string (idB i) := by
  match i, h with
  | 0, _ => rfl
  | 1, _ => rfl
  | 2, _ => rfl
theorem xyB_fd (i : Nat) : isFd ⟨⟨#[107]⟩, xyB i⟩ = true := by
  match i with
  | 0 => decide
  | i + 1 => show isFd ⟨⟨#[107]⟩, ⟨#[121]⟩⟩ = true; decide
theorem grown_fs (m : Nat) : fOk [⟨⟨#[107]⟩, xyB m⟩] 1 := fun i f hi hf => by
  obtain rfl : i = 0 := by omega
  cases hf
  exact ⟨xyB_fd m, fun j g e _ => by omega⟩
theorem grown_rec0 (i m : Nat) {ct : Int} (h0 : 0 ≤ ct) (h8 : ct < 8) : RecL.Ok ⟨idB i, ct, [⟨⟨#[107]⟩, xyB m⟩], []⟩ :=
  ⟨idB_nm i, h0, (by show ct ≤ 255; omega), (by show 1 ≤ 6; decide), (by show _ ≤ 4; simp), grown_fs m, fun i f hi => absurd hi (Nat.not_lt_zero i)⟩
theorem grown_rec1 (i m j : Nat) {ct : Int} (h0 : 0 ≤ ct) (h8 : ct < 8) : RecL.Ok ⟨idB i, ct, [⟨⟨#[107]⟩, xyB m⟩], [idB j]⟩ :=
  ⟨idB_nm i, h0, (by show ct ≤ 255; omega), (by show 1 ≤ 6; decide), (by show _ ≤ 4; simp), grown_fs m, fun i f hi hf => by
    have hi : i < 1 := hi
    obtain rfl : i = 0 := by omega
    cases hf
    exact ⟨idB_nm j, fun j g e _ => by omega⟩⟩

/-- what grown makes, when it has looked at k rows -/
structure GOk (k : Nat) (vs : List VerL) : Prop where
  ok : StOk vs
  len : vs.length ≤ k
  abc : ∀ v ∈ vs, isAbc v.r.id ∧ 0 ≤ v.r.cats ∧ v.r.cats < 8
theorem GOk.nil : GOk 0 [] := ⟨stOk_nil, Nat.le_refl _, fun v h => by cases h⟩
theorem GOk.mono {k j : Nat} {vs : List VerL} (h : GOk k vs) (hk : k ≤ j) : GOk j vs := ⟨h.ok, Nat.le_trans h.len hk, h.abc⟩

theorem GOk.put {k : Nat} {vs : List VerL} {r : RecL} (h : GOk k vs) (hk : k < 15) (hr : r.Ok) (h1 : isAbc r.id) (h0 : 0 ≤ r.cats) (h8 : r.cats < 8) : GOk (k + 1) (vs ++ [⟨r, false⟩]) where
  ok := h.ok.put hr (by have := same_le vs r.cats; have := h.len; omega)
  len := by rw [List.length_append]; have := h.len; simp; omega
  abc := fun v hv => by
    rcases List.mem_append.1 hv with hv | hv
    · exact h.abc v hv
    · rw [List.mem_singleton] at hv
      subst hv
      exact ⟨h1, h0, h8⟩
theorem GOk.cut {k : Nat} {vs : List VerL} {id : ByteArray} {c : Int} (h : GOk k vs) (he : cutErr vs id c = 0) (h1 : isAbc id) (h0 : 0 ≤ c) (h8 : c < 8) : GOk (k + 1) (vs ++ [goneV id c]) where
  ok := by
    obtain ⟨_, a, b, d, e⟩ := cutErr_ok.1 he
    exact h.ok.cut a b d e
  len := by rw [List.length_append]; have := h.len; simp; omega
  abc := fun v hv => by
    rcases List.mem_append.1 hv with hv | hv
    · exact h.abc v hv
    · rw [List.mem_singleton] at hv
      subst hv
      exact ⟨h1, h0, h8⟩

theorem ownS_one {B : Nat} {W : World} {b : Nat} (s : ByteArray) (hB : B ≤ W.heap.size) (hb : W.heap.size = b) : OwnS B (W.alloc (.cells #[.string s] 9)) (.slice (some ⟨b, 0, none⟩) 1 1) [s] := by
  subst hb
  exact World.ownsRow_lit (e := 9) (size := 1) W #[.string s] 1 hB (by decide) rfl

/-- a record that was made -/
def Made (B : Nat) (wb : World) (s : Value) (w : World) : Prop := ∃ (b : Nat) (r : RecL) (p : At), s = .pointer (some ⟨b, 0, none⟩) ∧ Hid (r.Ok ∧ isAbc r.id ∧ 0 ≤ r.cats ∧ r.cats < 8) ∧ Hid (NewRec B w r p) ∧
  w.cell? ⟨b, 0, none⟩ = some (.string r.id) ∧ w.cell? ⟨b, 1, none⟩ = some (.int .i64 r.cats) ∧ w.cell? ⟨b, 2, none⟩ = some (.slice p.fa r.fs.length p.fc) ∧ w.cell? ⟨b, 3, none⟩ = some (.slice p.ra r.rs.length p.rc) ∧ Below wb.heap.size wb w

def GrownTo (w : World) (e : Ending) (w' : World) : Prop := ∃ vs A m c, e = .returned (.slice A m c) ∧ GOk 15 vs ∧ NewW w.heap.size w' A m c vs ∧ Below w.heap.size w w'

set_option maxHeartbeats 8000000 in
theorem grown_is (a : Option Addr) (g : List RowI) (cap : Nat) (w : World) (hs : SlG w a g) (hl : g.length ≤ cap) (hm : cap ≤ maxLen) :
    Calls Tryd.prog 28 #[.slice a g.length cap] w (GrownTo w) := by
  have HS := Lib.hid hs
  obtain ⟨n, hn⟩ : ∃ n, n = g.length := ⟨_, rfl⟩
  have HN := Lib.hid hn
  rw [← hn] at hl ⊢
  unfold maxLen at hm
  obtain ⟨i0, hi0, hz0, hz1, hz2⟩ := info_parts Tryd.infoVer
  obtain ⟨N, hN⟩ : ∃ N, N = min n 15 := ⟨_, rfl⟩
  have hN1 : N ≤ n := by omega
  have hN2 : N ≤ 15 := by omega
  have hmin : min (n : Int) 15 = (N : Int) := by omega
  clear hs hn hN
  go_enter Tryd.func28, Tryd.ntmps28
  go_wp2_with fail
  go_loopw [3, 17] (fun v i wr => ∃ (k : Nat) (q : List PV), k ≤ N ∧ i = .int .i64 k ∧ Hid (GOk k (q.map (·.v))) ∧ RowV w.heap.size wr v q ∧ Hid (AllNew w.heap.size wr q) ∧ Below w.heap.size w wr) (fun _ i _ => N - (intOf i).toNat)
  case atStart => exact ⟨0, [], Nat.zero_le _, rfl, GOk.nil, RowV.nil _ _, AllNew.nil _ _, Below.refl _ _⟩
  case round =>
    obtain ⟨k, q, hk, rfl, HG, hrow, HA, hB⟩ := hrel
    obtain ⟨A, c, rfl⟩ := hrow.form
    have hql : q.length ≤ k := by have := HG.out.len; rwa [List.length_map] at this
    obtain ⟨nq, hnq⟩ : ∃ nq, q.length = nq := ⟨_, rfl⟩
    rw [hnq] at hrow hql ⊢
    have HNQ := Lib.hid hnq
    have HROW := Lib.hid hrow
    clear hnq hrow
    by_cases hlt : k < N
    · obtain ⟨r, hr⟩ : ∃ r, g[k]? = some r := ⟨_, List.getElem?_eq_getElem (by rw [← HN.out]; omega)⟩
      obtain ⟨hri, b, off, rfl, hc0⟩ := (HS.out.below hB) k r hr
      have HRI := Lib.hid hri
      have hrl := hri.le
      have hrm := hri.max
      unfold maxLen at hrm
      have i1 : (0 : Int) ≤ (k : Int) := by omega
      have i2 : (k : Int) < (N : Int) := by omega
      obtain ⟨ra, rz, rc⟩ := r
      simp only at hrl hrm hc0
      obtain ⟨rn, hrn⟩ : ∃ rn, rz.length = rn := ⟨_, rfl⟩
      rw [hrn] at hrl hc0
      have HRN := Lib.hid hrn
      clear hr hri hrn
      by_cases h3 : rn < 3
      · go_wp2_with fail
        go_roundw
        case rel => exact ⟨k + 1, q, by omega, by go_num, HG.out.mono (by omega), HNQ.out ▸ HROW.out, HA.out, hB⟩
        case measure => simp [intOf]; omega
      · obtain ⟨z0, hz0⟩ : ∃ z, rz[0]? = some z := ⟨_, List.getElem?_eq_getElem (by rw [HRN.out]; omega)⟩
        obtain ⟨z1, hz1⟩ : ∃ z, rz[1]? = some z := ⟨_, List.getElem?_eq_getElem (by rw [HRN.out]; omega)⟩
        obtain ⟨z2, hz2⟩ : ∃ z, rz[2]? = some z := ⟨_, List.getElem?_eq_getElem (by rw [HRN.out]; omega)⟩
        obtain ⟨rb, ro, hra, e0⟩ := HRI.out.at_ 0 z0 hz0
        obtain ⟨_, _, hra1, e1⟩ := HRI.out.at_ 1 z1 hz1
        obtain ⟨_, _, hra2, e2⟩ := HRI.out.at_ 2 z2 hz2
        simp only at hra hra1 hra2
        subst hra
        cases hra1
        cases hra2
        clear hz0 hz1 hz2
        rw [Nat.add_zero] at e0
        have hi3 : (wit z0 3 : Int) < 3 := wit_lt z0 3 (by omega)
        have hj8 : (wit z1 8 : Int) < 8 := wit_lt z1 8 (by omega)
        have hi0' : (0 : Int) ≤ (wit z0 3 : Int) := by omega
        have hic := idB_cell (i := wit z0 3) (by omega)
        have r1 : ¬ (rn : Int) < 3 := by omega
        have r2 : (2 : Int) < (rn : Int) := by omega
        have r3 : (1 : Int) < (rn : Int) := by omega
        have r4 : (0 : Int) < (rn : Int) := by omega
        have r5 : 0 < rn := by omega
        have hrb := cell_lt e0
        go_wp2_with fail
        go_cut [6, 7] from 24 to 34 (fun s6 s7 wc => s6 = .string (idB (wit z0 3)) ∧ s7 = .int .i64 (wit z1 8 : Nat) ∧ Below wr.heap.size wr wc)
        case first =>
          clear HS HN hi0 hz0 hz1 hz2 hN1 hN2 hmin hm hl HG HA HNQ HROW hql HRI HRN hrm hrl r1 i1 i2 hlt hk h3 e2 r2
          go_region_with (go_at_call 59; refine (wit_any _ _ _ (by decide) (by decide)).mono ?_; rintro e w' ⟨rfl, rfl⟩)
          all_goals (go_wp2_with fail; go_meet)
          all_goals
            case rel => exact ⟨rfl, rfl, by go_grown⟩
        case rest =>
          obtain ⟨rfl, rfl, hBc⟩ := hcut
          obtain ⟨w1, hw1⟩ : ∃ w1, w1 = wc := ⟨_, rfl⟩
          subst hw1
          replace e2 := (hBc.cell (p := ⟨rb, ro + 2, none⟩) (cell_lt e2)).trans e2
          replace e1 := (hBc.cell (p := ⟨rb, ro + 1, none⟩) (cell_lt e1)).trans e1
          have HBC := Lib.hid (hB.trans (hBc.mono hB.size))
          have HROWC := Lib.hid (HROW.out.below hBc)
          have HAC := Lib.hid (HA.out.below hBc)
          have hj0 : (0 : Int) ≤ (wit z1 8 : Int) := by omega
          have hrbc := cell_lt e2
          clear hBc e0 hi3 hi0' hic HRI HROW HA hB
          obtain ⟨d, hd⟩ : ∃ d, wit z2 4 = d := ⟨_, rfl⟩
          obtain ⟨ct, hct⟩ : ∃ ct : Int, (wit z1 8 : Int) = ct := ⟨_, rfl⟩
          rw [hct] at hj8 hj0 ⊢
          have HCT := Lib.hid hct
          clear hct
          by_cases h4 : d = 0
          · subst h4
            have hsl : SlW w1 A q := by
              have := HROWC.out
              rw [← HNQ.out] at this
              exact (RowV.sl this HAC.out.in_).1
            have hst : stErr (q.map (·.v)) = 0 := stErr_ok.2 ⟨by have := HG.out.len; omega, HG.out.ok⟩
            obtain ⟨er, her⟩ : ∃ er, cutErr (q.map (·.v)) (idB (wit z0 3)) ct = er := ⟨_, rfl⟩
            have hq52 : q.length ≤ 5200 := by rw [HNQ.out]; omega
            by_cases he : er = 0
            · subst he
              have HCALL := Lib.hid (refCut_ok A q c (idB (wit z0 3)) ct w1 hsl HNQ.out hq52 hst her)
              have HER := Lib.hid her
              clear hsl hst hq52 her
              go_wp2_with fail
              refine (wit_to hd _ (by decide) (by decide)).mono ?_
              rintro e w' ⟨rfl, rfl⟩
              go_wp2_with fail
              refine HCALL.out.mono ?_
              rintro e w2 ⟨A2, c2, rfl, hr2, hb2⟩
              have hr2' : RowV w.heap.size w2 (.slice A2 (nq + 1) c2) (q ++ [(⟨goneV (idB (wit z0 3)) ct, At.none⟩ : PV)]) := by
                have := own_low hr2 HBC.out.size
                exact this
              have HR2 := Lib.hid hr2'
              have HB2 := Lib.hid hb2
              clear hr2 hr2' hb2 HCALL
              go_wp2_with fail
              go_roundw
              case rel =>
                refine ⟨k + 1, q ++ [⟨goneV (idB (wit z0 3)) ct, At.none⟩], by omega, by go_num, ?_, HR2.out, (HAC.out.below HB2.out).append (AllNew.one (NewRec.none _ _ _ _)), HBC.out.trans (HB2.out.mono HBC.out.size)⟩
                show GOk (k + 1) ((q ++ [(⟨goneV (idB (wit z0 3)) ct, At.none⟩ : PV)]).map (·.v))
                rw [List.map_append]
                exact HG.out.cut HER.out (idB_abc _) hj0 hj8
              case measure => simp [intOf]; omega
            · have HCALL := Lib.hid (refCut_no A q c (idB (wit z0 3)) ct w1 hsl HNQ.out hq52 hst her he)
              have h1 : (er == 0) = false := by simpa using he
              clear hsl hst hq52 her
              go_wp2_with fail
              refine (wit_to hd _ (by decide) (by decide)).mono ?_
              rintro e w' ⟨rfl, rfl⟩
              go_wp2_with fail
              refine HCALL.out.mono ?_
              rintro e w2 ⟨rfl, hb2⟩
              have HB2 := Lib.hid hb2
              clear hb2 HCALL
              go_wp2_with fail
              go_roundw
              case rel => exact ⟨k + 1, q, by omega, by go_num, HG.out.mono (by omega), HROWC.out.below HB2.out, HAC.out.below HB2.out, HBC.out.trans (HB2.out.mono HBC.out.size)⟩
              case measure => simp [intOf]; omega
          · have h4' : ((d : Int) == 0) = false := by simpa using h4
            go_wp2_with fail
            refine (wit_to hd _ (by decide) (by decide)).mono ?_
            rintro e w' ⟨rfl, rfl⟩
            obtain ⟨i, hi⟩ : ∃ i, wit z0 3 = i := ⟨_, rfl⟩
            rw [hi]
            obtain ⟨m, hm⟩ : ∃ m, wit z2 2 = m := ⟨_, rfl⟩
            have hm2 : m < 2 := by rw [← hm]; exact_mod_cast wit_lt z2 2 (by omega)
            have hm0 : (0 : Int) ≤ (m : Int) := by omega
            have hm2' : (m : Int) < 2 := by omega
            have hxy : ∀ h, [Value.string ⟨#[120]⟩, .string ⟨#[121]⟩][m]'h = .string (xyB m) := xyB_list
            have HM := Lib.hid hm
            clear hm
            have hrb1 : rb < w1.heap.size + 1 := by omega
            have hrb2 : rb < w1.heap.size + 1 + 1 := by omega
            have hrb3 : rb < w1.heap.size + 1 + 1 + 1 := by omega
            go_wp2_with fail
            refine (wit_to HM.out _ (by decide) (by decide)).mono ?_
            rintro e w' ⟨rfl, rfl⟩
            obtain ⟨u, hu⟩ : ∃ u, wit z2 3 = u := ⟨_, rfl⟩
            have HU := Lib.hid hu
            clear hu
            go_wp2_with fail
            refine (wit_to HU.out _ (by decide) (by decide)).mono ?_
            rintro e w' ⟨rfl, rfl⟩
            go_upto_if 66 with fail
            go_cut [] from 50 to 75 (fun wx => Made w.heap.size w1 (.pointer (some ⟨w1.heap.size + 1 + 1, 0, none⟩)) wx)
            case first =>
              have hown : OwnF w.heap.size ((w1.alloc (.cells #[.string ⟨#[120]⟩, .string ⟨#[121]⟩] 9)).alloc (.cells #[.string ⟨#[107]⟩, .string (xyB m)] 24)) (.slice (some ⟨w1.heap.size + 1, 0, none⟩) 1 1) [⟨⟨#[107]⟩, xyB m⟩] := by
                have := World.ownsRow_lit (e := 24) (base := w.heap.size) (size := 2) (w1.alloc (.cells #[.string ⟨#[120]⟩, .string ⟨#[121]⟩] 9)) #[.string ⟨#[107]⟩, .string (xyB m)] 1 (by have := HBC.out.size; simp; omega) (by decide) rfl
                simp at this
                exact this
              have HOWN := Lib.hid hown
              clear hown
              by_cases hu0 : u = 0
              · subst hu0
                obtain ⟨j, hj⟩ : ∃ j, wit z1 3 = j := ⟨_, rfl⟩
                have hjl : j < 3 := by rw [← hj]; exact_mod_cast wit_lt z1 3 (by omega)
                have hjl0 : (0 : Int) ≤ (j : Int) := by omega
                have hjl2 : (j : Int) < 3 := by omega
                have hjc : ∀ h, [Value.string ⟨#[97]⟩, .string ⟨#[98]⟩, .string ⟨#[99]⟩][j]'h = .string (idB j) := idB_list
                have HJ := Lib.hid hj
                clear hj
                go_wp2_with fail
                refine (wit_to HJ.out _ (by decide) (by decide)).mono ?_
                rintro e w' ⟨rfl, rfl⟩
                go_wp2_with fail
                go_meet
                case rel =>
                  refine ⟨w1.heap.size + 2, ⟨idB i, ct, [⟨⟨#[107]⟩, xyB m⟩], [idB j]⟩, ⟨some ⟨w1.heap.size + 1, 0, none⟩, 1, some ⟨w1.heap.size + 1 + 1 + 1 + 1, 0, none⟩, 1⟩, rfl, ⟨grown_rec1 i m j hj0 hj8, idB_abc i, hj0, hj8⟩, ⟨HOWN.out.below (by go_grown), ownS_one (idB j) (by have := HBC.out.size; simp; omega) (by simp)⟩, ?_, ?_, ?_, ?_, by go_grown⟩
                  all_goals simp [go_sem]
              · have hu' : ((u : Int) == 0) = false := by simpa using hu0
                go_wp2_with fail
                go_meet
                case rel =>
                  refine ⟨w1.heap.size + 2, ⟨idB i, ct, [⟨⟨#[107]⟩, xyB m⟩], []⟩, ⟨some ⟨w1.heap.size + 1, 0, none⟩, 1, none, 0⟩, rfl, ⟨grown_rec0 i m hj0 hj8, idB_abc i, hj0, hj8⟩, ⟨HOWN.out.below (by go_grown), World.ownsRow_nil _ _ _ _⟩, ?_, ?_, ?_, ?_, by go_grown⟩
                  all_goals simp [go_sem]
            case rest =>
              obtain ⟨b', r, p, hbe, HOK, HNR, c0, c1, c2, c3, hbx⟩ := hcut
              cases hbe
              have HBX := Lib.hid hbx
              have hsx : w.heap.size ≤ wc.heap.size := Nat.le_trans HBC.out.size hbx.size
              have hrow2 : RowV w.heap.size ((⟨⟨r, false⟩, p⟩ : PV).box wc) (.slice A nq c) q := (HROWC.out.below hbx).below ((⟨⟨r, false⟩, p⟩ : PV).box_below wc)
              have hall2 : AllNew w.heap.size ((⟨⟨r, false⟩, p⟩ : PV).box wc) (q ++ [⟨⟨r, false⟩, p⟩]) := ((HAC.out.below hbx).append (AllNew.one HNR.out)).below ((⟨⟨r, false⟩, p⟩ : PV).box_below wc)
              have hbB : Below w.heap.size w ((⟨⟨r, false⟩, p⟩ : PV).box wc) := (HBC.out.trans (hbx.mono HBC.out.size)).trans (((⟨⟨r, false⟩, p⟩ : PV).box_below wc).mono (HBC.out.trans (hbx.mono HBC.out.size)).size)
              have hnews := cell_five_new wc (⟨⟨r, false⟩, p⟩ : PV) 34
              have hlast : w.heap.size ≤ ((⟨⟨r, false⟩, p⟩ : PV).box wc).heap.size := hbB.size
              have hn80 : nq < 1000 := by omega
              rw [← HNQ.out] at hrow2
              have HR2 := Lib.hid hrow2
              have HALL := Lib.hid hall2
              have HNE := Lib.hid hnews
              have HBB := Lib.hid hbB
              clear hrow2 hall2 hnews hbB hbx
              have i0' := hi0
              go_wp2_with (at_builtin; refine wpList_append_own _ rfl _ _ 22 rfl w.heap.size 34 i0 _ 5 80 Tryd.underlying22 hi0 hz0 hz1 hz2 rfl (by decide) (.slice A nq c) nq (cellsV q) rfl (HNQ.out ▸ HR2.out) ⟨wc.heap.size, 0, none⟩ 1 1 (cellsV [(⟨⟨r, false⟩, p⟩ : PV)]) rfl rfl HNE.out (cellsV_one _) (by unfold maxLen; omega) (by omega) hlast ?_; intro v' w3 hown' hgrow hnv)
              have hr3 : RowV w.heap.size w3 v' (q ++ [(⟨⟨r, false⟩, p⟩ : PV)]) := by
                unfold RowV
                rw [cellsV_append, List.length_append, HNQ.out]
                exact hown'
              have ha3 := HALL.out.grown HR2.out (by rw [HNQ.out]; exact hgrow)
              have hB3 : Below w.heap.size w w3 := HBB.out.grown hgrow HBB.out.size (fun j hj => ((World.ownsRow.lt HR2.out) j (show (Value.slice A q.length c).ownBlock = some j by rw [HNQ.out]; exact hj)).1)
              have HR3 := Lib.hid hr3
              have HA3 := Lib.hid ha3
              clear hown' hgrow hnv ha3 HALL HBB HNE HR2 hr3
              go_wp2_with fail
              go_roundw
              case rel =>
                refine ⟨k + 1, q ++ [(⟨⟨r, false⟩, p⟩ : PV)], by omega, by go_num, ?_, HR3.out, HA3.out, hB3⟩
                show GOk (k + 1) ((q ++ [(⟨⟨r, false⟩, p⟩ : PV)]).map (·.v))
                rw [List.map_append]
                exact HG.out.put (by omega) HOK.out.1 HOK.out.2.1 HOK.out.2.2.1 HOK.out.2.2.2
              case measure => simp [intOf]; omega
    · obtain rfl : k = N := by omega
      have HBB := Lib.hid hB
      clear hB
      go_wp2_with fail
      go_ret
      exact ⟨q.map (·.v), A, nq, c, rfl, HG.out.mono (by omega), ⟨q, rfl, HNQ.out, HROW.out, HA.out⟩, HBB.out⟩
end Go.Proofs.YtodlabohijabnaaDoor
