/- What the laws ask of a server: operations by numbers of any sort. -/
import Derived.Test.YteimdhkajbldjaaGreatSrvA
import Derived.Test.YteimdhkajbldjaaGreatSGrid
import Derived.Test.YteimdhkajbldjaaGreatSWithin
import Derived.Deep.CutBlock
import Derived.Deep.RegionHeld3
import Derived.Laws.OwnMore
set_option linter.unusedVariables false
set_option linter.unusedSimpArgs false
set_option maxRecDepth 100000
namespace Go.Proofs.YteimdhkajbldjaaGreat
open Go.RowKit Go.Sort

def abS : Nat → ByteArray
  | 0 => ⟨#[97]⟩
  | _ => ⟨#[98]⟩
theorem abS_list {i : Nat} (h : i < [Value.string ⟨#[97]⟩, .string ⟨#[98]⟩].length) : [Value.string ⟨#[97]⟩, .string ⟨#[98]⟩][i] = .string (abS i) := by
  match i, h with
  | 0, _ => rfl
  | 1, _ => rfl
theorem abS_nm (i : Nat) : isNm (abS i) = true := by
  match i with
  | 0 => decide
  | i + 1 => show isNm ⟨#[98]⟩ = true; decide
def xyS : Nat → ByteArray
  | 0 => ⟨#[120]⟩
  | _ => ⟨#[121]⟩
theorem xyS_list {i : Nat} (h : i < [Value.string ⟨#[120]⟩, .string ⟨#[121]⟩].length) : [Value.string ⟨#[120]⟩, .string ⟨#[121]⟩][i] = .string (xyS i) := by
  match i, h with
  | 0, _ => rfl
  | 1, _ => rfl
theorem xyS_fd (i : Nat) : isFd ⟨⟨#[107]⟩, xyS i⟩ = true := by
  match i with
  | 0 => decide
  | i + 1 => show isFd ⟨⟨#[107]⟩, ⟨#[121]⟩⟩ = true; decide
theorem kx_fd : isFd ⟨⟨#[107]⟩, ⟨#[120]⟩⟩ = true := by decide
theorem ask_rec0 (i : Nat) {ct : Int} (h0 : 0 ≤ ct) (h8 : ct < 8) : RecL.Ok ⟨abS i, ct, [], []⟩ := RecL.okBare (abS_nm i) ⟨h0, by omega⟩
theorem ask_rec1 (i m : Nat) {ct : Int} (h0 : 0 ≤ ct) (h8 : ct < 8) : RecL.Ok ⟨abS i, ct, [⟨⟨#[107]⟩, xyS m⟩], []⟩ :=
  ⟨abS_nm i, h0, (by show ct ≤ 255; omega), (by show 1 ≤ 6; decide), (by show _ ≤ 4; simp), fun i f hi hf => by
    have hi : i < 1 := hi
    obtain rfl : i = 0 := by omega
    cases hf
    exact ⟨xyS_fd m, fun j g e _ => by omega⟩, fun i f hi => absurd hi (Nat.not_lt_zero i)⟩
/-- the four rules that are asked -/
def askR (a b c : Int) : Nat → RuleL
  | 0 => ⟨0, -1, 0, 30, a, true⟩
  | 1 => ⟨1, 0, b, 40, 3, true⟩
  | 2 => ⟨2, -1, 0, 50, 255, true⟩
  | _ => ⟨-1, 1, 0, 20, c, false⟩
theorem askR_ok {a b c : Int} (h0 : 0 ≤ a ∧ a ≤ 255) (h1 : 0 ≤ b ∧ b < 40) (h2 : 0 ≤ c ∧ c ≤ 255) : rulesErr 4 (askR a b c) = 0 := by
  refine rulesErr_ok (by omega) fun k hk => ?_
  match k, hk with
  | 0, _ => exact ⟨⟨by show (-1 : Int) ≤ 0 ∧ (0 : Int) ≤ 7; omega, by show (-1 : Int) ≤ -1 ∧ (-1 : Int) ≤ 3; omega, by show (0 : Int) ≤ 0; omega, by show (30 : Int) ≤ 1000; omega, h0⟩, by show (0 : Int) < 30; omega⟩
  | 1, _ => exact ⟨⟨by show (-1 : Int) ≤ 1 ∧ (1 : Int) ≤ 7; omega, by show (-1 : Int) ≤ 0 ∧ (0 : Int) ≤ 3; omega, h1.1, by show (40 : Int) ≤ 1000; omega, by show (0 : Int) ≤ 3 ∧ (3 : Int) ≤ 255; omega⟩, h1.2⟩
  | 2, _ => exact ⟨⟨by show (-1 : Int) ≤ 2 ∧ (2 : Int) ≤ 7; omega, by show (-1 : Int) ≤ -1 ∧ (-1 : Int) ≤ 3; omega, by show (0 : Int) ≤ 0; omega, by show (50 : Int) ≤ 1000; omega, by show (0 : Int) ≤ 255 ∧ (255 : Int) ≤ 255; omega⟩, by show (0 : Int) < 50; omega⟩
  | 3, _ => exact ⟨⟨by show (-1 : Int) ≤ -1 ∧ (-1 : Int) ≤ 7; omega, by show (-1 : Int) ≤ 1 ∧ (1 : Int) ≤ 3; omega, by show (0 : Int) ≤ 0; omega, by show (20 : Int) ≤ 1000; omega, h2⟩, by show (0 : Int) < 20; omega⟩
def noR : Nat → RuleL := fun _ => ⟨0, 0, 0, 0, 0, false⟩

/-- the box of who asks -/
def Box6 (x : WhoL) (W : World) (s : Value) (w : World) : Prop := ∃ b, s = .pointer (some ⟨b, 0, none⟩) ∧ WhoAt w b x ∧ W.heap.size ≤ b ∧ Below W.heap.size W w
/-- the box of what is asked -/
def Box8 (x : OO) (W : World) (s : Value) (w : World) : Prop := ∃ b, s = .pointer (some ⟨b, 0, none⟩) ∧ Hid (OpBox w b x) ∧ W.heap.size ≤ b ∧ Below W.heap.size W w
/-- .. behind the switch -/
def Boxed8 (B b : Nat) (W w : World) : Prop := ∃ x : OO, OpBox w b x ∧ NewOp B w x ∧ AskOk x.o ∧ Below W.heap.size W w
/-- the first k rows, as they are asked -/
def AskR (B : Nat) (k : Nat) (v : Value) (w : World) (q : List OO) : Prop := q.length ≤ k ∧ (∀ x ∈ q, AskOk x.o) ∧ OwnO B w v q ∧ ∀ x ∈ q, NewOp B w x
def AskTo (w : World) (e : Ending) (w' : World) : Prop := ∃ A n c l, e = .returned (.slice A n c) ∧ n ≤ 30 ∧ AskRow w.heap.size w' A n c l ∧ Below w.heap.size w w'

theorem boxed_rules {B b : Nat} {W W9 : World} {x : OO} {a1 b1 c1 : Int} (hB : B ≤ W9.heap.size) (hx : OpBox W9 b x) (hn : ∀ V, NewRec B V x.o.r x.P.p) (hk : AskOk { x.o with n := 4, rs := askR a1 b1 c1 }) (hW : Below W.heap.size W W9) (hb : W.heap.size ≤ b) :
    Boxed8 B b W (((W9.setCell ⟨b, 4, none⟩ (.slice (some ⟨W9.heap.size, 0, none⟩) 4 4)).alloc (.cells #[.int .i64 0, .int .i64 (-1), .int .i64 0, .int .i64 30, .int .i64 a1, .bool true, .int .i64 1, .int .i64 0, .int .i64 b1, .int .i64 40, .int .i64 3, .bool true, .int .i64 2, .int .i64 (-1), .int .i64 0, .int .i64 50, .int .i64 255, .bool true, .int .i64 (-1), .int .i64 1, .int .i64 0, .int .i64 20, .int .i64 c1, .bool false] 59)).drew) := by
  have hs : (W9.setCell ⟨b, 4, none⟩ (.slice (some ⟨W9.heap.size, 0, none⟩) 4 4)).heap.size = W9.heap.size := by simp [World.setCell]
  have hbb : Below (W9.setCell ⟨b, 4, none⟩ (.slice (some ⟨W9.heap.size, 0, none⟩) 4 4)).heap.size (W9.setCell ⟨b, 4, none⟩ (.slice (some ⟨W9.heap.size, 0, none⟩) 4 4)) (((W9.setCell ⟨b, 4, none⟩ (.slice (some ⟨W9.heap.size, 0, none⟩) 4 4)).alloc (.cells #[.int .i64 0, .int .i64 (-1), .int .i64 0, .int .i64 30, .int .i64 a1, .bool true, .int .i64 1, .int .i64 0, .int .i64 b1, .int .i64 40, .int .i64 3, .bool true, .int .i64 2, .int .i64 (-1), .int .i64 0, .int .i64 50, .int .i64 255, .bool true, .int .i64 (-1), .int .i64 1, .int .i64 0, .int .i64 20, .int .i64 c1, .bool false] 59)).drew) := ((Below.refl _ _).alloc (Nat.le_refl _) _).drew
  have ho := World.ownsRow_lit (e := 59) (base := B) (size := 6) (W9.setCell ⟨b, 4, none⟩ (.slice (some ⟨W9.heap.size, 0, none⟩) 4 4)) #[.int .i64 0, .int .i64 (-1), .int .i64 0, .int .i64 30, .int .i64 a1, .bool true, .int .i64 1, .int .i64 0, .int .i64 b1, .int .i64 40, .int .i64 3, .bool true, .int .i64 2, .int .i64 (-1), .int .i64 0, .int .i64 50, .int .i64 255, .bool true, .int .i64 (-1), .int .i64 1, .int .i64 0, .int .i64 20, .int .i64 c1, .bool false] 4 (by rw [hs]; exact hB) (by decide) rfl
  rw [hs] at ho
  exact ⟨_, (hx.rules (some ⟨W9.heap.size, 0, none⟩) 4 4 (askR a1 b1 c1)).below hbb, ⟨own_below ho ((Below.refl _ _).drew), hn _⟩, hk, (hW.setCell hb _).trans (hbb.mono (by rw [hs]; exact hW.size))⟩
theorem boxed_fields {B b : Nat} {W w8 : World} {x : OO} (m : Nat) (hB : B ≤ w8.heap.size) (hx : OpBox w8 b x) (hn : ∀ V, OwnS B V (.slice x.P.p.ra x.o.r.rs.length x.P.p.rc) x.o.r.rs) (hr : ∀ V, OwnR B V (.slice x.P.ra x.o.n x.P.rc) x.o.n x.o.rs) (hk : AskOk { x.o with kind := 2, r := { x.o.r with fs := [⟨⟨#[107]⟩, xyS m⟩] } }) (hW : Below W.heap.size W w8) (hb : W.heap.size ≤ b) :
    Boxed8 B b W ((((w8.setCell ⟨b, 0, none⟩ (.int .i64 2)).setCell ⟨b, 7, none⟩ (.slice (some ⟨w8.heap.size + 1, 0, none⟩) 1 1)).alloc (.cells #[.string ⟨#[120]⟩, .string ⟨#[121]⟩] 9)).alloc (.cells #[.string ⟨#[107]⟩, .string (xyS m)] 37)) := by
  obtain ⟨V, hV⟩ : ∃ V, V = ((w8.setCell ⟨b, 0, none⟩ (.int .i64 2)).setCell ⟨b, 7, none⟩ (.slice (some ⟨w8.heap.size + 1, 0, none⟩) 1 1)) := ⟨_, rfl⟩
  have hs : V.heap.size = w8.heap.size := by rw [hV]; simp [World.setCell]
  have h7 := (hx.kind 2).fields (some ⟨w8.heap.size + 1, 0, none⟩) [⟨⟨#[107]⟩, xyS m⟩] 1
  rw [← hV]
  rw [show (w8.setCell ⟨b, 0, none⟩ (.int .i64 2)).setCell ⟨b, 7, none⟩ (.slice (some ⟨w8.heap.size + 1, 0, none⟩) [(⟨⟨#[107]⟩, xyS m⟩ : FieldL)].length 1) = V from hV.symm] at h7
  have hbb : Below V.heap.size V ((V.alloc (.cells #[.string ⟨#[120]⟩, .string ⟨#[121]⟩] 9)).alloc (.cells #[.string ⟨#[107]⟩, .string (xyS m)] 37)) := ((Below.refl _ _).alloc (Nat.le_refl _) _).alloc (by simp) _
  have ho := World.ownsRow_lit (e := 37) (base := B) (size := 2) (V.alloc (.cells #[.string ⟨#[120]⟩, .string ⟨#[121]⟩] 9)) #[.string ⟨#[107]⟩, .string (xyS m)] 1 (by simp; omega) (by decide) rfl
  rw [show (V.alloc (.cells #[.string ⟨#[120]⟩, .string ⟨#[121]⟩] 9)).heap.size = w8.heap.size + 1 by simp [hs]] at ho
  have hWV : Below W.heap.size W V := by rw [hV]; exact (hW.setCell hb _).setCell hb _
  exact ⟨_, h7.below hbb, ⟨hr _, ho, hn _⟩, hk, hWV.trans (hbb.mono hWV.size)⟩

set_option maxHeartbeats 16000000 in
theorem asked_is (a : Option Addr) (g : List RowI) (cap : Nat) (w : World) (hs : SlG w a g) (hl : g.length ≤ cap) (hm : cap ≤ maxLen) :
    Calls Tryz.prog 13 #[.slice a g.length cap] w (AskTo w) := by
  obtain ⟨i0, hi0, hz0, hz1, hz2⟩ := info_parts Tryz.infoOp
  have HS := Lib.hid hs
  obtain ⟨n, hn⟩ : ∃ n, n = g.length := ⟨_, rfl⟩
  have HN := Lib.hid hn
  rw [← hn] at hl ⊢
  unfold maxLen at hm
  obtain ⟨N, hN⟩ : ∃ N, N = min n 30 := ⟨_, rfl⟩
  have hN1 : N ≤ n := by omega
  have hN2 : N ≤ 30 := by omega
  have hmin : min (n : Int) 30 = (N : Int) := by omega
  clear hs hn hN
  go_enter Tryz.func13, Tryz.ntmps13
  go_wp2_with fail
  go_loopw [3, 15] (fun v i wr => ∃ (k : Nat) (q : List OO), k ≤ N ∧ i = .int .i64 k ∧ Hid (AskR w.heap.size k v wr q) ∧ Hid (Below w.heap.size w wr)) (fun _ i _ => N - (intOf i).toNat)
  case atStart => exact ⟨0, [], Nat.zero_le _, rfl, ⟨Nat.le_refl _, (fun x h => absurd h (by simp)), World.ownsRow_nil _ _ _ _, (fun x h => absurd h (by simp))⟩, Below.refl _ _⟩
  case round =>
    obtain ⟨k, q, hk, rfl, HR, HB⟩ := hrel
    obtain ⟨A, c, hv⟩ := OwnO.form HR.out.2.2.1
    subst hv
    obtain ⟨nq, hnq⟩ : ∃ nq, q.length = nq := ⟨_, rfl⟩
    rw [hnq] at HR ⊢
    have HNQ := Lib.hid hnq
    clear hnq
    by_cases hlt : k < N
    · obtain ⟨r, hr⟩ : ∃ r, g[k]? = some r := ⟨_, List.getElem?_eq_getElem (by rw [← HN.out]; omega)⟩
      obtain ⟨hri, b, off, rfl, hc0⟩ := (HS.out.below HB.out) k r hr
      have HRI := Lib.hid hri
      have hrl := hri.le
      have hrm := hri.max
      unfold maxLen at hrm
      have i1 : (0 : Int) ≤ (k : Int) := by omega
      have i2 : (k : Int) < (N : Int) := by omega
      obtain ⟨ra, rz, rc⟩ := r
      simp only at hrl hrm hc0
      obtain ⟨rn, hrn⟩ : ∃ rn, rz.length = rn := ⟨_, rfl⟩
      rw [hrn] at hrl hc0
      have HRN := Lib.hid hrn
      clear hr hri hrn
      by_cases h3 : rn < 3
      · have h3' : (rn : Int) < 3 := by omega
        go_wp2_with fail
        go_roundw
        case rel => exact ⟨k + 1, q, by omega, by go_num, ⟨Nat.le_trans HR.out.1 (by omega), HR.out.2⟩, HB.out⟩
        case measure => simp [intOf]; omega
      · obtain ⟨z0, hz0'⟩ : ∃ z, rz[0]? = some z := ⟨_, List.getElem?_eq_getElem (by rw [HRN.out]; omega)⟩
        obtain ⟨z1, hz1'⟩ : ∃ z, rz[1]? = some z := ⟨_, List.getElem?_eq_getElem (by rw [HRN.out]; omega)⟩
        obtain ⟨z2, hz2'⟩ : ∃ z, rz[2]? = some z := ⟨_, List.getElem?_eq_getElem (by rw [HRN.out]; omega)⟩
        obtain ⟨rb, ro, hra, e0⟩ := HRI.out.at_ 0 z0 hz0'
        obtain ⟨_, _, hra1, e1⟩ := HRI.out.at_ 1 z1 hz1'
        obtain ⟨_, _, hra2, e2⟩ := HRI.out.at_ 2 z2 hz2'
        simp only at hra hra1 hra2
        subst hra
        cases hra1
        cases hra2
        rw [Nat.add_zero] at e0
        have r1 : ¬ (rn : Int) < 3 := by omega
        have r2 : (2 : Int) < (rn : Int) := by omega
        have r3 : (1 : Int) < (rn : Int) := by omega
        have r4 : (0 : Int) < (rn : Int) := by omega
        have r5 : 0 < rn := by omega
        have hrb := cell_lt e0
        have HSS : Hid (∀ W, Below wr.heap.size wr W → W.cell? ⟨rb, ro, none⟩ = some (.int .i64 z0) ∧ W.cell? ⟨rb, ro + 1, none⟩ = some (.int .i64 z1) ∧ W.cell? ⟨rb, ro + 2, none⟩ = some (.int .i64 z2)) := fun W h => ⟨(h.cell (p := ⟨rb, ro, none⟩) hrb).trans e0, (h.cell (p := ⟨rb, ro + 1, none⟩) hrb).trans e1, (h.cell (p := ⟨rb, ro + 2, none⟩) hrb).trans e2⟩
        clear hz0' hz1' hz2'
        go_wp2_with fail
        go_cut [6] from 22 to 34 (fun s6 wc => Box6 ⟨(wit z0 3 : Nat), (wit z1 2 : Nat), (wit z2 40 : Nat)⟩ wr s6 wc)
        case first =>
          clear HS HN hi0 hz0 hz1 hz2 hN1 hN2 hmin hm hl HR HNQ HB HRI HRN hrm hrl r1 i1 i2 hlt hk h3 hc0
          go_region_held3 (fun w' => w'.cell? ⟨rb, ro, none⟩ = some (.int .i64 z0) ∧ w'.cell? ⟨rb, ro + 1, none⟩ = some (.int .i64 z1) ∧ w'.cell? ⟨rb, ro + 2, none⟩ = some (.int .i64 z2)) (first | assumption | exact HSS.out _ ((Below.refl _ _).alloc (Nat.le_refl _) _).drew | exact HSS.out _ (by go_grown))
            (first | (go_at_call 50; refine (wit_any _ _ _ (by decide) (by decide)).mono ?_; rintro e w' ⟨rfl, rfl⟩))
          all_goals (go_wp2_with fail; go_meet)
          all_goals
            case rel => exact ⟨wr.heap.size, rfl, ⟨by simp [go_sem], by simp [go_sem], by simp [go_sem]⟩, Nat.le_refl _, by go_grown⟩
        case rest =>
          obtain ⟨w6, hw6e⟩ : ∃ w6, w6 = wc := ⟨_, rfl⟩
          subst hw6e
          obtain ⟨b6, rfl, hw6, hb6, hBc⟩ := hcut
          obtain ⟨xr, hxr, xr0, xr3⟩ : ∃ xr : Int, ((wit z0 3 : Nat) : Int) = xr ∧ 0 ≤ xr ∧ xr < 3 := ⟨_, rfl, by omega, wit_lt z0 3 (by omega)⟩
          obtain ⟨xy, hxy, xy0, xy2⟩ : ∃ xy : Int, ((wit z1 2 : Nat) : Int) = xy ∧ 0 ≤ xy ∧ xy < 2 := ⟨_, rfl, by omega, wit_lt z1 2 (by omega)⟩
          obtain ⟨xt, hxt, xt0, xt4⟩ : ∃ xt : Int, ((wit z2 40 : Nat) : Int) = xt ∧ 0 ≤ xt ∧ xt < 40 := ⟨_, rfl, by omega, wit_lt z2 40 (by omega)⟩
          rw [hxr, hxy, hxt] at hw6
          have HWX : Hid (0 ≤ xr ∧ xr < 3 ∧ 0 ≤ xy ∧ xy < 2 ∧ 0 ≤ xt ∧ xt < 40) := ⟨xr0, xr3, xy0, xy2, xt0, xt4⟩
          obtain ⟨f0, f1, f2⟩ := hw6
          simp only at f0 f1 f2
          obtain ⟨g0, g1, g2⟩ := HSS.out w6 hBc
          have hb6l := cell_lt f0
          have hrbc := cell_lt g0
          obtain ⟨j, hj⟩ : ∃ j, wit z2 2 = j := ⟨_, rfl⟩
          have hj2 : j < 2 := by rw [← hj]; exact_mod_cast wit_lt z2 2 (by omega)
          have hj0 : (0 : Int) ≤ (j : Int) := by omega
          have hj2' : (j : Int) < 2 := by omega
          have hs7 : ∀ h, [Value.string ⟨#[97]⟩, .string ⟨#[98]⟩][j]'h = .string (abS j) := fun h => abS_list h
          have HJ := Lib.hid hj
          have hrb1 : rb < w6.heap.size + 1 := by omega
          have HB6 := Lib.hid hBc
          clear hj hxr hxy hxt xr0 xr3 xy0 xy2 xt0 xt4 e0 e1 e2 hBc
          go_wp2_with fail
          refine (wit_to HJ.out _ (by decide) (by decide)).mono ?_
          rintro e w' ⟨rfl, rfl⟩
          go_wp2_with fail
          obtain ⟨W, hW⟩ : ∃ W, W = w6.alloc (.cells #[.string ⟨#[97]⟩, .string ⟨#[98]⟩] 9) := ⟨_, rfl⟩
          have hA : Below w6.heap.size w6 W := by rw [hW]; exact (Below.refl _ _).alloc (Nat.le_refl _) _
          have hBW := HB6.out.trans (hA.mono HB6.out.size)
          have HS8 : Hid (∀ V, Below W.heap.size W V → V.cell? ⟨b6, 0, none⟩ = some (.int .i64 xr) ∧ V.cell? ⟨b6, 1, none⟩ = some (.int .i64 xy) ∧ V.cell? ⟨b6, 2, none⟩ = some (.int .i64 xt) ∧ V.cell? ⟨rb, ro + 1, none⟩ = some (.int .i64 z1)) := fun V h => by
            have h6 := hA.trans (h.mono hA.size)
            exact ⟨(h6.cell (p := ⟨b6, 0, none⟩) hb6l).trans f0, (h6.cell (p := ⟨b6, 1, none⟩) hb6l).trans f1, (h6.cell (p := ⟨b6, 2, none⟩) hb6l).trans f2, (h6.cell (p := ⟨rb, ro + 1, none⟩) hrbc).trans g1⟩
          rw [← hW]
          have HBW := Lib.hid hBW
          obtain ⟨k0, k1, k2, k3⟩ := HS8.out W (Below.refl _ _)
          clear hW hA hBW f0 f1 f2 g0 g1 g2 hs7 hrb1 hj0 hj2' HB6 hb6l hrbc
          go_cut [8] from 42 to 51 (fun s8 wx => Box8 ⟨⟨0, ⟨xr, xy, xt⟩, 0, noR, ⟨abS j, (wit z1 8 : Nat), [], []⟩, abS j, ⟨⟨#[107]⟩, ⟨#[120]⟩⟩⟩, ⟨none, 0, At.none⟩⟩ W s8 wx)
          case first =>
            clear HS HN hi0 hz0 hz1 hz2 hN1 hN2 hmin hm hl HR HNQ HB HRI HRN hrm hrl r1 i1 i2 hlt hk h3 hc0 HSS HWX HBW HJ hj2 hb6
            go_region_held3 (fun w' => w'.cell? ⟨b6, 0, none⟩ = some (.int .i64 xr) ∧ w'.cell? ⟨b6, 1, none⟩ = some (.int .i64 xy) ∧ w'.cell? ⟨b6, 2, none⟩ = some (.int .i64 xt) ∧ w'.cell? ⟨rb, ro + 1, none⟩ = some (.int .i64 z1)) (first | assumption | exact HS8.out _ ((Below.refl _ _).alloc (Nat.le_refl _) _).drew | exact HS8.out _ (by go_grown))
              (first | (go_at_call 50; refine (wit_any _ _ _ (by decide) (by decide)).mono ?_; rintro e w' ⟨rfl, rfl⟩))
            all_goals (go_wp2_with fail; go_meet)
            all_goals
              case rel => exact ⟨W.heap.size, rfl, ⟨by constructor <;> simp [go_sem, At.none], fun o => by simp [go_sem]⟩, Nat.le_refl _, by go_grown⟩
          case rest =>
            obtain ⟨w8, hw8e⟩ : ∃ w8, w8 = wc := ⟨_, rfl⟩
            subst hw8e
            obtain ⟨b8, rfl, HX8, hb8, hB8⟩ := hcut
            have hB8r := HBW.out.trans (hB8.mono HBW.out.size)
            obtain ⟨g0, g1, g2⟩ := HSS.out w8 hB8r
            have HB8 := Lib.hid hB8
            have HB8R := Lib.hid hB8r
            clear k0 k1 k2 k3 hB8r hB8
            go_wp2_with fail
            obtain ⟨sw, hsw⟩ : ∃ sw, wit (wrap64 (z0.tdiv 3)) 10 = sw := ⟨_, rfl⟩
            have hsw10 : sw < 10 := by rw [← hsw]; exact_mod_cast wit_lt (wrap64 (z0.tdiv 3)) 10 (by omega)
            have HSW := Lib.hid hsw
            clear hsw
            refine (wit_to HSW.out _ (by decide) (by decide)).mono ?_
            rintro e w' ⟨rfl, rfl⟩
            obtain ⟨ct, hct, hct0, hct8⟩ : ∃ ct : Int, ((wit z1 8 : Nat) : Int) = ct ∧ 0 ≤ ct ∧ ct < 8 := ⟨_, rfl, by omega, wit_lt z1 8 (by omega)⟩
            rw [hct] at HX8
            have HCT := Lib.hid (And.intro hct0 hct8)
            have hrb8 : ¬ b8 = rb := by have := HBW.out.size; omega
            have hrb8' : ¬ rb = b8 := fun e => hrb8 e.symm
            have hb8l := cell_lt HX8.out.at_.c0
            have hrbl := cell_lt g0
            have HNO : Hid (∀ K : Int, NewOp w.heap.size (w8.setCell ⟨b8, 0, none⟩ (.int .i64 K)) ⟨⟨K, ⟨xr, xy, xt⟩, 0, noR, ⟨abS j, ct, [], []⟩, abS j, ⟨⟨#[107]⟩, ⟨#[120]⟩⟩⟩, ⟨none, 0, At.none⟩⟩) := fun K => ⟨World.ownsRow_nil _ _ _ _, NewRec.none _ _ _ _⟩
            have HAO : Hid (∀ K : Int, 1 ≤ K → K ≤ 8 → AskOk ⟨K, ⟨xr, xy, xt⟩, 0, noR, ⟨abS j, ct, [], []⟩, abS j, ⟨⟨#[107]⟩, ⟨#[120]⟩⟩⟩) := fun K h1 h8 => ⟨HWX.out.1, HWX.out.2.1, HWX.out.2.2.1, HWX.out.2.2.2.1, HWX.out.2.2.2.2.1, HWX.out.2.2.2.2.2, h1, h8, abS_nm j, rfl, ask_rec0 j hct0 hct8, kx_fd, rfl⟩
            have HFO : Hid (∀ mm : Nat, AskOk ⟨2, ⟨xr, xy, xt⟩, 0, noR, ⟨abS j, ct, [⟨⟨#[107]⟩, xyS mm⟩], []⟩, abS j, ⟨⟨#[107]⟩, ⟨#[120]⟩⟩⟩) := fun mm => ⟨HWX.out.1, HWX.out.2.1, HWX.out.2.2.1, HWX.out.2.2.2.1, HWX.out.2.2.2.2.1, HWX.out.2.2.2.2.2, (by show (1 : Int) ≤ 2; omega), (by show (2 : Int) ≤ 8; omega), abS_nm j, rfl, ask_rec1 j mm hct0 hct8, kx_fd, rfl⟩
            have HRO : Hid (∀ a1 b1 c1 : Int, (0 ≤ a1 ∧ a1 ≤ 255) → (0 ≤ b1 ∧ b1 < 40) → (0 ≤ c1 ∧ c1 ≤ 255) → AskOk ⟨1, ⟨xr, xy, xt⟩, 4, askR a1 b1 c1, ⟨abS j, ct, [], []⟩, abS j, ⟨⟨#[107]⟩, ⟨#[120]⟩⟩⟩) := fun a1 b1 c1 k1 k2 k3 => ⟨HWX.out.1, HWX.out.2.1, HWX.out.2.2.1, HWX.out.2.2.2.1, HWX.out.2.2.2.2.1, HWX.out.2.2.2.2.2, (by show (1 : Int) ≤ 1; omega), (by show (1 : Int) ≤ 8; omega), abS_nm j, rfl, ask_rec0 j hct0 hct8, kx_fd, askR_ok k1 k2 k3⟩
            have HBR : Hid (w.heap.size ≤ w8.heap.size) := Nat.le_trans HB.out.size HB8R.out.size
            clear hct hct0 hct8
            go_upto_block 2 with fail
            go_cut [] from 57 to 113 (fun wx => Boxed8 w.heap.size b8 W wx)
            case first =>
              obtain ⟨⟨c0, c1, c2, c3, c4, c5, c6, c7, c8, c9, c10, c11⟩, hz⟩ := HX8.out
              simp only [Nat.zero_add] at c0 c1 c2 c3 c4 c5 c6 c7 c8 c9 c10 c11
              have z0' := hz 0
              have z4' := hz 4
              have z7' := hz 7
              clear HS HN hi0 hz0 hz1 hz2 hN1 hN2 hmin hm hl HR HNQ HRI HRN hrm hrl r1 i1 i2 hlt hk h3 hc0 HSS HS8 hz
              have hcs : sw = 6 ∨ sw = 7 ∨ sw = 8 ∨ (sw = 0 ∨ sw = 1) ∨ (sw = 2 ∨ sw = 3 ∨ sw = 4 ∨ sw = 5) ∨ sw = 9 := by omega
              clear hsw10
              rcases hcs with rfl | rfl | rfl | h01 | h25 | rfl
              · go_wp2_with fail
                go_meet
                case rel => exact ⟨_, HX8.out.kind 3, HNO.out 3, HAO.out 3 (by decide) (by decide), HB8.out.setCell hb8 _⟩
              · go_wp2_with fail
                go_meet
                case rel => exact ⟨_, HX8.out.kind 4, HNO.out 4, HAO.out 4 (by decide) (by decide), HB8.out.setCell hb8 _⟩
              · go_wp2_with fail
                go_meet
                case rel => exact ⟨_, HX8.out.kind 5, HNO.out 5, HAO.out 5 (by decide) (by decide), HB8.out.setCell hb8 _⟩
              · rcases h01 with rfl | rfl
                all_goals
                  go_wp2_with fail
                  obtain ⟨W9, hW9⟩ : ∃ W9, W9 = w8.setCell ⟨b8, 0, none⟩ (.int .i64 1) := ⟨_, rfl⟩
                  have hx9 := HX8.out.kind 1
                  rw [← hW9] at hx9
                  have s9 : W9.heap.size = w8.heap.size := by rw [hW9]; simp [World.setCell]
                  have k1 : W9.cell? ⟨rb, ro + 1, none⟩ = some (.int .i64 z1) := by rw [hW9]; exact (World.cell?_setCell_other _ _ _ _ (by simp [hrb8])).trans g1
                  have k2 : W9.cell? ⟨rb, ro + 2, none⟩ = some (.int .i64 z2) := by rw [hW9]; exact (World.cell?_setCell_other _ _ _ _ (by simp [hrb8])).trans g2
                  have HB9 : Hid (Below W.heap.size W W9) := by show Below _ _ _; rw [hW9]; exact HB8.out.setCell hb8 _
                  have HS9 : Hid (∀ V, Below W9.heap.size W9 V → V.cell? ⟨rb, ro + 1, none⟩ = some (.int .i64 z1) ∧ V.cell? ⟨rb, ro + 2, none⟩ = some (.int .i64 z2)) := fun V h => ⟨(h.cell (p := ⟨rb, ro + 1, none⟩) (cell_lt k1)).trans k1, (h.cell (p := ⟨rb, ro + 2, none⟩) (cell_lt k1)).trans k2⟩
                  have HSX : Hid (∀ (V : World) (v : Value), (V.cell? ⟨rb, ro + 1, none⟩ = some (.int .i64 z1) ∧ V.cell? ⟨rb, ro + 2, none⟩ = some (.int .i64 z2)) → (V.setCell ⟨b8, 4, none⟩ v).cell? ⟨rb, ro + 1, none⟩ = some (.int .i64 z1) ∧ (V.setCell ⟨b8, 4, none⟩ v).cell? ⟨rb, ro + 2, none⟩ = some (.int .i64 z2)) := fun V v h => ⟨(World.cell?_setCell_other _ _ _ _ (by simp [hrb8])).trans h.1, (World.cell?_setCell_other _ _ _ _ (by simp [hrb8])).trans h.2⟩
                  have HSY : Hid (∀ (v : Value) (V : World), Below (W9.setCell ⟨b8, 4, none⟩ v).heap.size (W9.setCell ⟨b8, 4, none⟩ v) V → V.cell? ⟨rb, ro + 1, none⟩ = some (.int .i64 z1) ∧ V.cell? ⟨rb, ro + 2, none⟩ = some (.int .i64 z2)) := fun v V h => by
                    obtain ⟨j1, j2⟩ := HSX.out W9 v ⟨k1, k2⟩
                    exact ⟨(h.cell (p := ⟨rb, ro + 1, none⟩) (cell_lt j1)).trans j1, (h.cell (p := ⟨rb, ro + 2, none⟩) (cell_lt j1)).trans j2⟩
                  have x4 : W9.cell? ⟨b8, 4, none⟩ = some (.slice none 0 0) := by have := hx9.at_.c4; rwa [Nat.zero_add] at this
                  have y4 := hx9.z 4
                  have hwr : IntKind.i64.wrap (1 + ((wit z1 3 : Nat) : Int)) = 1 + ((wit z1 3 : Nat) : Int) := by have := wit_lt z1 3 (by omega); rw [IntKind.wrap_i64]; omega
                  have HX9 := Lib.hid hx9
                  have HS9S := Lib.hid s9
                  have hb89 : b8 < W9.heap.size := by rw [s9]; exact hb8l
                  have hne1 : ¬ b8 = W9.heap.size := by omega
                  have hne2 : ¬ W9.heap.size = b8 := by omega
                  rw [← hW9]
                  clear hW9 hx9 s9 c0 c1 c2 c3 c4 c5 c6 c7 c8 c9 c10 c11 z0' z4' z7' g0 g1 g2
                  go_region_held3 (fun w' => w'.cell? ⟨rb, ro + 1, none⟩ = some (.int .i64 z1) ∧ w'.cell? ⟨rb, ro + 2, none⟩ = some (.int .i64 z2)) (first | assumption | exact HS9.out _ ((Below.refl _ _).drew) | exact HSY.out _ _ (((Below.refl _ _).alloc (Nat.le_refl _) _).drew) | exact HS9.out _ (by go_grown))
                    (first | (go_at_call 50; refine (wit_any _ _ _ (by decide) (by decide)).mono ?_; rintro e w' ⟨rfl, rfl⟩))
                  all_goals (go_wp2_with fail; go_meet)
                  all_goals
                    case rel => exact boxed_rules (by have := HBR.out; have := HS9S.out; omega) HX9.out (fun V => NewRec.none _ _ _ _) (HRO.out _ _ _ (by have := wit_lt z1 3 (by omega); omega) (by have := wit_lt z2 9 (by omega); omega) (by have := wit_lt z2 4 (by omega); omega)) HB9.out hb8
              · obtain ⟨m, hm⟩ : ∃ m, wit z2 2 = m := ⟨_, rfl⟩
                have hm2 : m < 2 := by rw [← hm]; exact_mod_cast wit_lt z2 2 (by omega)
                have hm0 : (0 : Int) ≤ (m : Int) := by omega
                have hm2' : (m : Int) < 2 := by omega
                have hxy : ∀ h, [Value.string ⟨#[120]⟩, .string ⟨#[121]⟩][m]'h = .string (xyS m) := fun h => xyS_list h
                have HM := Lib.hid hm
                clear hm
                have hrb9 : rb < w8.heap.size + 1 := by omega
                have hb89 : b8 < w8.heap.size + 1 := by omega
                have hb90 : b8 < w8.heap.size + 1 + 1 := by omega
                rcases h25 with rfl | rfl | rfl | rfl
                all_goals
                  go_wp2_with fail
                  refine (wit_to HM.out _ (by decide) (by decide)).mono ?_
                  rintro e w' ⟨rfl, rfl⟩
                  go_wp2_with fail
                  go_meet
                  case rel => exact boxed_fields m HBR.out HX8.out (fun V => World.ownsRow_nil _ _ _ _) (fun V => World.ownsRow_nil _ _ _ _) (HFO.out m) HB8.out hb8
              · obtain ⟨m, hm⟩ : ∃ m, wit z1 3 = m := ⟨_, rfl⟩
                have hm3 : m < 3 := by rw [← hm]; exact_mod_cast wit_lt z1 3 (by omega)
                have hm0 : (0 : Int) ≤ (m : Int) := by omega
                have hm3' : (m : Int) < 3 := by omega
                have hlm : ∀ h, [Value.int .i64 6, .int .i64 7, .int .i64 8][m]'h = .int .i64 (6 + m) := fun h => by
                  match m, h with
                  | 0, _ => rfl
                  | 1, _ => rfl
                  | 2, _ => rfl
                have HM := Lib.hid hm
                clear hm
                have hrb9 : rb < w8.heap.size + 1 := by omega
                go_wp2_with fail
                refine (wit_to HM.out _ (by decide) (by decide)).mono ?_
                rintro e w' ⟨rfl, rfl⟩
                go_wp2_with fail
                go_meet
                case rel =>
                  have hbk : Below (w8.setCell ⟨b8, 0, none⟩ (.int .i64 (6 + m))).heap.size (w8.setCell ⟨b8, 0, none⟩ (.int .i64 (6 + m))) ((w8.setCell ⟨b8, 0, none⟩ (.int .i64 (6 + m))).alloc (.cells #[.int .i64 6, .int .i64 7, .int .i64 8] 3)) := (Below.refl _ _).alloc (Nat.le_refl _) _
                  have hWk := HB8.out.setCell (p := ⟨b8, 0, none⟩) hb8 (.int .i64 (6 + m))
                  exact ⟨_, (HX8.out.kind (6 + m)).below hbk, (HNO.out (6 + m)).below hbk, HAO.out (6 + m) (by omega) (by omega), hWk.trans (hbk.mono hWk.size)⟩
            case rest =>
              obtain ⟨w10, hw10e⟩ : ∃ w10, w10 = wc := ⟨_, rfl⟩
              subst hw10e
              obtain ⟨x, hbx, hnew, hok, hbel⟩ := hcut
              obtain ⟨⟨c0, c1, c2, c3, c4, c5, c6, c7, c8, c9, c10, c11⟩, _⟩ := hbx
              simp only [Nat.zero_add] at c0 c1 c2 c3 c4 c5 c6 c7 c8 c9 c10 c11
              have hB10 : Below wr.heap.size wr w10 := HBW.out.trans (hbel.mono HBW.out.size)
              obtain ⟨W11, hW11⟩ : ∃ W11, W11 = w10.alloc (.cells #[.int .i64 x.o.kind, .int .i64 x.o.who.role, .int .i64 x.o.who.why, .int .i64 x.o.who.time, .slice x.P.ra x.o.n x.P.rc, .string x.o.r.id, .int .i64 x.o.r.cats, .slice x.P.p.fa x.o.r.fs.length x.P.p.fc, .slice x.P.p.ra x.o.r.rs.length x.P.p.rc, .string x.o.id, .string x.o.f.key, .string x.o.f.val] 39) := ⟨_, rfl⟩
              have hA11 : Below w10.heap.size w10 W11 := by rw [hW11]; exact (Below.refl _ _).alloc (Nat.le_refl _) _
              have hB11 := HB.out.trans ((hB10.trans (hA11.mono hB10.size)).mono HB.out.size)
              have hrow2 : OwnO w.heap.size W11 (.slice A nq c) q := own_below (own_below HR.out.2.2.1 hB10) hA11
              have hall2 : ∀ y ∈ q ++ [x], NewOp w.heap.size W11 y := fun y hy => by
                rcases List.mem_append.1 hy with hy | hy
                · exact ((HR.out.2.2.2 y hy).below hB10).below hA11
                · rw [List.mem_singleton] at hy; subst hy; exact hnew.below hA11
              have hoks : ∀ y ∈ q ++ [x], AskOk y.o := fun y hy => by
                rcases List.mem_append.1 hy with hy | hy
                · exact HR.out.2.1 y hy
                · rw [List.mem_singleton] at hy; subst hy; exact hok
              have hnews := cell_op w10 x 39
              rw [← hW11] at hnews
              have hlast : w.heap.size ≤ W11.heap.size := hB11.size
              have hqk : nq ≤ k := by have := HR.out.1; have := HNQ.out; omega
              have hn80 : nq < 1000 := by omega
              have HR2 := Lib.hid hrow2
              have HALL := Lib.hid hall2
              have HOKS := Lib.hid hoks
              have HNE := Lib.hid hnews
              have HB11 := Lib.hid hB11
              have HW11 := Lib.hid hW11
              have HQK := Lib.hid hqk
              rw [hW11] at HNE HR2
              have hlast2 := hlast
              rw [hW11] at hlast2
              clear hrow2 hall2 hoks hnews hB11 hA11 hB10 hnew hok hbel hW11 HSS HS8 HX8 hqk hlast
              go_wp2_with (at_builtin; refine wpList_append_own _ rfl _ _ 27 rfl w.heap.size 39 i0 _ 12 176 Tryz.underlying27 hi0 hz0 hz1 hz2 rfl (by decide) (.slice A nq c) nq (cellsO q) rfl (HNQ.out ▸ HR2.out) ⟨w10.heap.size, 0, none⟩ 1 1 (cellsO [x]) rfl rfl HNE.out (cellsO_one _) (by unfold maxLen; omega) (by omega) hlast2 ?_; intro v' w3 hown' hgrow hnv)
              rw [← HW11.out] at hgrow HR2
              have hr3 : OwnO w.heap.size w3 v' (q ++ [x]) := by
                unfold OwnO
                rw [cellsO_append, List.length_append, HNQ.out]
                exact hown'
              have ha3 : ∀ y ∈ q ++ [x], NewOp w.heap.size w3 y := fun y hy => (HALL.out y hy).grown HR2.out (by exact hgrow)
              have hB3 : Below w.heap.size w w3 := HB11.out.grown hgrow HB11.out.size (fun jj hj => ((World.ownsRow.lt HR2.out) jj hj).1)
              have HR3 := Lib.hid hr3
              have HA3 := Lib.hid ha3
              have HB3 := Lib.hid hB3
              clear hown' hgrow hnv ha3 HALL HB11 HNE HR2 hr3 hB3
              go_wp2_with fail
              go_roundw
              case rel =>
                refine ⟨k + 1, q ++ [x], by omega, by go_num, ⟨?_, HOKS.out, HR3.out, HA3.out⟩, HB3.out⟩
                rw [List.length_append, HNQ.out]
                exact Nat.succ_le_succ HQK.out
              case measure => simp [intOf]; omega
    · obtain rfl : k = N := by omega
      obtain ⟨h1, h2, h3, h4⟩ := HR.out
      have HSL := Lib.hid (AskRow.mk h3 h4 h2)
      have HQN : Hid (nq ≤ 30) := by show nq ≤ 30; have := HNQ.out; omega
      clear h1 h2 h3 h4
      go_wp2_with fail
      go_ret
      exact ⟨A, nq, c, q, rfl, HQN.out, HSL.out, HB.out⟩
end Go.Proofs.YteimdhkajbldjaaGreat
