/- ServerApart's walk. -/
import Derived.Test.YteimdhkajbldjaaGreatVPair
import Derived.Test.YteimdhkajbldjaaGreatVInv
import Derived.Test.YteimdhkajbldjaaGreatVAsk
import Derived.Test.YteimdhkajbldjaaGreatVTold
import Derived.Deep.CutRange
import Derived.Deep.RegionHeld3
set_option linter.unusedVariables false
set_option linter.unusedSimpArgs false
set_option maxRecDepth 100000
namespace Go.Proofs.YteimdhkajbldjaaGreat
open Go.RowKit Go.Sort

theorem SlG.take {w : World} {a : Option Addr} {g : List RowI} (h : SlG w a g) (N : Nat) : SlG w a (g.take N) := fun k r hk => by
  rw [List.getElem?_take] at hk
  split at hk
  · exact h k r hk
  · cases hk
/-- a record in a box of its own -/
structure RcB (w : World) (b : Nat) (r : RecL) (P : At) : Prop where
  r0 : w.cell? ⟨b, 0, none⟩ = some (.string r.id)
  r1 : w.cell? ⟨b, 1, none⟩ = some (.int .i64 r.cats)
  r2 : w.cell? ⟨b, 2, none⟩ = some (.slice P.fa r.fs.length P.fc)
  r3 : w.cell? ⟨b, 3, none⟩ = some (.slice P.ra r.rs.length P.rc)
theorem RcB.kept {Z : Nat → Prop} {w w' : World} {b : Nat} {r : RecL} {P : At} (h : RcB w b r P) (k : Kept Z w w') (h0 : Z b) : RcB w' b r P :=
  ⟨k.cell h0 h.r0, k.cell h0 h.r1, k.cell h0 h.r2, k.cell h0 h.r3⟩
theorem RcB.below {w w' : World} {b : Nat} {r : RecL} {P : At} (h : RcB w b r P) (hb : Below w.heap.size w w') : RcB w' b r P := h.kept (Z := fun _ => True) (Kept.of hb) trivial

set_option maxHeartbeats 8000000 in
theorem serverApart_walk (a : Option Addr) (c : Nat) (g : List RowI) (ra : RecL) (Pa : At) (rb : RecL) (Pb : At) (w : World) (hs : SlG w a g) (hl : g.length ≤ c) (hm : c ≤ maxLen) (hia : ra.in_ Pa w) (hsa : ra.short) (hib : rb.in_ Pb w) (hsb : rb.short) :
    Calls Tryz.prog 7 #[.slice a g.length c, ra.v Pa, rb.v Pb] w fun e w' => e = .returned (.bool true) ∧ Below w.heap.size w w' := by
  obtain ⟨gl, hgl⟩ : ∃ gl, g.length = gl := ⟨_, rfl⟩
  obtain ⟨N, hN⟩ : ∃ N, N = min gl 10 := ⟨_, rfl⟩
  have hmin : min (gl : Int) 10 = (N : Int) := by omega
  have hN1 : N ≤ gl := by omega
  have hN2 : (0 : Int) ≤ (N : Int) := by omega
  have hN3 : (N : Int) ≤ (gl : Int) := by omega
  have htk : (g.take N).length = N := by rw [List.length_take, hgl]; omega
  obtain ⟨W, hW⟩ : ∃ W, W = (w.alloc (.cells #[.string ra.id, .int .i64 ra.cats, .slice Pa.fa ra.fs.length Pa.fc, .slice Pa.ra ra.rs.length Pa.rc] 35)).alloc (.cells #[.string rb.id, .int .i64 rb.cats, .slice Pb.fa rb.fs.length Pb.fc, .slice Pb.ra rb.rs.length Pb.rc] 35) := ⟨_, rfl⟩
  have hA : Below w.heap.size w W := by rw [hW]; exact ((Below.refl _ _).alloc (Nat.le_refl _) _).alloc (by simp) _
  have hba : RcB W w.heap.size ra Pa := by rw [hW]; constructor <;> simp [go_sem]
  have hbb : RcB W (w.heap.size + 1) rb Pb := by rw [hW]; constructor <;> simp [go_sem]
  have hsz : W.heap.size = w.heap.size + 2 := by rw [hW]; simp
  have HS := Lib.hid hs
  have HL : Hid (N ≤ c) := by show N ≤ c; omega
  have HM := Lib.hid hm
  have HTK := Lib.hid htk
  have HIA := Lib.hid (And.intro hia hsa)
  have HIB := Lib.hid (And.intro hib hsb)
  have HA := Lib.hid hA
  have HBA := Lib.hid hba
  have HBB := Lib.hid hbb
  have HSZ := Lib.hid hsz
  have HW := Lib.hid hW
  have HGC : Hid (gl ≤ c) := by show gl ≤ c; omega
  rw [hgl]
  clear hs hl hgl hia hsa hib hsb hA hba hbb hsz hW hN htk
  go_enter Tryz.func7, Tryz.ntmps7
  go_wp2_with fail
  refine (srvBegun_is _).mono ?_
  rintro e w1 ⟨rfl, hb1⟩
  rw [← HW.out] at hb1
  have HB1 := Lib.hid (HA.out.trans (hb1.mono HA.out.size))
  have HBA1 := Lib.hid (HBA.out.below hb1)
  have HBB1 := Lib.hid (HBB.out.below hb1)
  have HS1 : Hid (w.heap.size + 1 < w1.heap.size) := by
    show w.heap.size + 1 < w1.heap.size
    have h1 := hb1.size
    have h2 := HSZ.out
    omega
  clear hb1
  go_wp2_with fail
  refine (ruled_is (fun _ => False) _ (fun z h => h.elim)).mono ?_
  rintro e w2 ⟨pa, rfl, hs2, hb2⟩
  have HB2 := Lib.hid (HB1.out.trans (hb2.mono HB1.out.size))
  have HBA2 := Lib.hid (HBA1.out.below hb2)
  have HBB2 := Lib.hid (HBB1.out.below hb2)
  have HSA2 := Lib.hid hs2
  have HSZ2 := Lib.hid hb2.size
  clear hs2 hb2
  go_wp2_with fail
  refine (ruled_is (fun z => z = pa) _ (fun z h => by rw [h]; exact HSA2.out.pw)).mono ?_
  rintro e w3 ⟨pb, rfl, hs3, hb3⟩
  have HLP3 := Lib.hid (LpQ.start HSA2.out hs3 hb3 HSZ2.out)
  have hB3 := HB2.out.trans (hb3.mono HB2.out.size)
  have HBA3 := Lib.hid (HBA2.out.below hb3)
  have HBB3 := Lib.hid (HBB2.out.below hb3)
  have HB3 := Lib.hid hB3
  have HASK := Lib.hid (asked_is a (g.take N) c w3 ((HS.out.take N).below hB3) (by rw [HTK.out]; exact HL.out) HM.out)
  rw [HTK.out] at HASK
  have hgc := HGC.out
  clear hs3 hb3 hB3
  go_wp2_with fail
  clear hgc
  refine HASK.out.mono ?_
  rintro e w4 ⟨A, n, ca, l, rfl, hn30, hrow, hb4⟩
  have HROW := Lib.hid hrow
  have HLP4 := Lib.hid (HLP3.out.below hb4).base
  have HPW := Lib.hid HLP3.out.lt
  have HBA4 := Lib.hid (HBA3.out.below hb4)
  have HBB4 := Lib.hid (HBB3.out.below hb4)
  have HB4 := Lib.hid (HB3.out.trans (hb4.mono HB3.out.size))
  clear hrow hb4 HASK HLP3
  go_wp2_with fail
  go_loopw [44] (fun i wr => ∃ (k qa qb : Nat) (X : SrvX), k ≤ n ∧ i = .int .i64 k ∧ Hid (LpQ w1.heap.size pa pb pa pb w4 qa qb X X wr)) (fun i _ => n - (intOf i).toNat)
  case atStart => exact ⟨0, _, _, _, Nat.zero_le _, rfl, HLP4.out⟩
  case round =>
    obtain ⟨k, qa, qb, X, hk, rfl, HLP⟩ := hrel
    by_cases hlt : k < n
    · have hrow := HROW.out.kept HLP.out.k (fun b hb => by have := HPW.out; omega)
      obtain ⟨y, b, off, hx, rfl, hat, hin, hok⟩ := hrow.at hlt
      obtain ⟨c0, c1, c2, c3, c4, c5, c6, c7, c8, c9, c10, c11⟩ := hat
      obtain ⟨W1, hW1⟩ : ∃ W1, W1 = wr.alloc (.cells #[.int .i64 y.o.kind, .int .i64 y.o.who.role, .int .i64 y.o.who.why, .int .i64 y.o.who.time, .slice y.P.ra y.o.n y.P.rc, .string y.o.r.id, .int .i64 y.o.r.cats, .slice y.P.p.fa y.o.r.fs.length y.P.p.fc, .slice y.P.p.ra y.o.r.rs.length y.P.p.rc, .string y.o.id, .string y.o.f.key, .string y.o.f.val] 39) := ⟨_, rfl⟩
      have hA1 : Below wr.heap.size wr W1 := by rw [hW1]; exact (Below.refl _ _).alloc (Nat.le_refl _) _
      have hat1 : OpAt W1 wr.heap.size 0 y := by rw [hW1]; constructor <;> simp [go_sem]
      have HAT1 := Lib.hid hat1
      have HDO := Lib.hid ((HLP.out.below hA1).doing y.o y.P (hin.below hA1) rfl rfl)
      have HQ := Lib.hid HLP.out.lt
      have HX := Lib.hid hx
      have HW1 := Lib.hid hW1
      have i1 : (0 : Int) ≤ (k : Int) := by omega
      have i2 : (k : Int) < (n : Int) := by omega
      rw [hW1] at HDO
      clear hrow hx hin hok hA1 hat1 hW1
      go_wp2_with fail
      refine HDO.out.mono ?_
      rintro e w5 ⟨P5, qa5, rfl, _, hl5, hq5, hk5⟩
      rw [← HW1.out] at hk5
      have hat5 := HAT1.out.kept hk5 (by have := HQ.out; constructor <;> omega)
      have hrow5 := HROW.out.kept hl5.k (fun b hb => by have := HPW.out; omega)
      obtain ⟨y5, b5, off5, hx5, he5, hat5', hin5, hok5⟩ := hrow5.at hlt
      rw [HX.out] at hx5
      obtain rfl := Option.some.inj hx5
      have HDO2 := Lib.hid (hl5.swap.doing y.o y.P hin5 rfl rfl)
      have l0 : wr.heap.size < w5.heap.size := cell_lt hat5.c0
      clear c0 c1 c2 c3 c4 c5 c6 c7 c8 c9 c10 c11
      obtain ⟨c0, c1, c2, c3, c4, c5, c6, c7, c8, c9, c10, c11⟩ := hat5
      simp only [Nat.zero_add] at c0 c1 c2 c3 c4 c5 c6 c7 c8 c9 c10 c11
      clear hl5 hq5 hk5 hrow5 hx5 hin5 he5 hat5' hok5 HDO
      go_wp2_with fail
      refine HDO2.out.mono ?_
      rintro e w6 ⟨P6, qb6, rfl, _, hl6, _, _⟩
      have HL6 := Lib.hid hl6.swap
      clear hl6 HDO2 c0 c1 c2 c3 c4 c5 c6 c7 c8 c9 c10 c11 l0
      go_wp2_with fail
      go_roundw
      case rel => exact ⟨k + 1, _, _, _, by omega, by go_num, HL6.out⟩
      case measure => simp [intOf]; omega
    · obtain rfl : k = n := by omega
      obtain ⟨wq, hwq⟩ : ∃ wq, wq = wr := ⟨_, rfl⟩
      subst hwq
      have hba := HBA4.out.kept HLP.out.k (by have := HS1.out; have := HLP.out.ge; exact ⟨⟨by omega, by omega⟩, by omega, by omega⟩)
      have hbb := HBB4.out.kept HLP.out.k (by have := HS1.out; have := HLP.out.ge; exact ⟨⟨by omega, by omega⟩, by omega, by omega⟩)
      have hge := HLP4.out.ge
      have hb := HB4.out.trans (HLP.out.k.to (S := w.heap.size) (fun z hz => by have := HS1.out; exact ⟨⟨by omega, by omega⟩, by omega, by omega⟩) HB4.out.size)
      have HBR := Lib.hid hb
      have HBAR := Lib.hid hba
      have HBBR := Lib.hid hbb
      have HGE := Lib.hid HLP.out.ge
      have HLT := Lib.hid HLP.out.lt
      obtain ⟨a0, a1, a2, a3⟩ := hba
      obtain ⟨b0, b1, b2, b3⟩ := hbb
      clear hge hb hlt hk hn30 HROW HLP4 HPW HBA HBB HBA1 HBB1 HBA2 HBB2 HBA3 HBB3 HBA4 HBB4
      have hcs : ra.id = rb.id ∨ (ra.id ≠ rb.id ∧ ra.cats = rb.cats) ∨ (ra.id ≠ rb.id ∧ ra.cats ≠ rb.cats) := by
        by_cases h1 : ra.id = rb.id
        · exact .inl h1
        · by_cases h2 : ra.cats = rb.cats
          · exact .inr (.inl ⟨h1, h2⟩)
          · exact .inr (.inr ⟨h1, h2⟩)
      rcases hcs with h1 | ⟨h1, h2⟩ | ⟨h1, h2⟩
      · have e1 : (ra.id.toList == rb.id.toList) = true := sEq_iff.2 h1
        clear h1
        go_wp2_with fail
        go_ret
        exact ⟨rfl, HBR.out⟩
      · have e1 : (ra.id.toList == rb.id.toList) = false := Bool.eq_false_iff.2 fun k => h1 (sEq_iff.1 k)
        have e2 : (ra.cats == rb.cats) = true := by simpa using h2
        clear h1 h2
        go_wp2_with fail
        go_ret
        exact ⟨rfl, HBR.out⟩
      · have HN1 := Lib.hid h1
        have HN2 := Lib.hid h2
        have HL2 := Lib.hid HLP.out.base
        have e1 : (ra.id.toList == rb.id.toList) = false := Bool.eq_false_iff.2 fun k => h1 (sEq_iff.1 k)
        have e2 : (ra.cats == rb.cats) = false := by simpa using h2
        clear h1 h2
        go_upto_region 16 with fail
        clear e1 e2
        obtain ⟨V5, hV5⟩ : ∃ V5, V5 = wq.alloc (.cells #[.int .i64 2, .int .i64 0, .int .i64 45] 30) := ⟨_, rfl⟩
        have hA5 : Below wq.heap.size wq V5 := by rw [hV5]; exact (Below.refl _ _).alloc (Nat.le_refl _) _
        have x0 : V5.cell? ⟨wq.heap.size, 0, none⟩ = some (.int .i64 2) := by rw [hV5]; simp [go_sem]
        have x1 : V5.cell? ⟨wq.heap.size, 1, none⟩ = some (.int .i64 0) := by rw [hV5]; simp [go_sem]
        have x2 : V5.cell? ⟨wq.heap.size, 2, none⟩ = some (.int .i64 45) := by rw [hV5]; simp [go_sem]
        rw [← hV5]
        have HBA5 := Lib.hid (HBAR.out.below hA5)
        have HBB5 := Lib.hid (HBBR.out.below hA5)
        have HA5 := Lib.hid hA5
        have l0 : w.heap.size < V5.heap.size := Nat.lt_of_lt_of_le (cell_lt a0) hA5.size
        have l1 : w.heap.size + 1 < V5.heap.size := Nat.lt_of_lt_of_le (cell_lt b0) hA5.size
        have l2 : wq.heap.size < V5.heap.size := cell_lt x0
        have l3 : w.heap.size < V5.heap.size + 1 := by omega
        have l4 : w.heap.size + 1 < V5.heap.size + 1 := by omega
        have l5 : wq.heap.size < V5.heap.size + 1 := by omega
        clear a0 a1 a2 a3 b0 b1 b2 b3 hV5 hA5
        obtain ⟨a0, a1, a2, a3⟩ := HBA5.out
        obtain ⟨b0, b1, b2, b3⟩ := HBB5.out
        have HS5 : Hid (∀ V, Below V5.heap.size V5 V → V.cell? ⟨wq.heap.size, 0, none⟩ = some (.int .i64 2) ∧ V.cell? ⟨wq.heap.size, 1, none⟩ = some (.int .i64 0) ∧ V.cell? ⟨wq.heap.size, 2, none⟩ = some (.int .i64 45) ∧ V.cell? ⟨w.heap.size, 0, none⟩ = some (.string ra.id) ∧ V.cell? ⟨w.heap.size, 1, none⟩ = some (.int .i64 ra.cats) ∧ V.cell? ⟨w.heap.size, 2, none⟩ = some (.slice Pa.fa ra.fs.length Pa.fc) ∧ V.cell? ⟨w.heap.size, 3, none⟩ = some (.slice Pa.ra ra.rs.length Pa.rc) ∧ V.cell? ⟨w.heap.size + 1, 0, none⟩ = some (.string rb.id) ∧ V.cell? ⟨w.heap.size + 1, 1, none⟩ = some (.int .i64 rb.cats) ∧ V.cell? ⟨w.heap.size + 1, 2, none⟩ = some (.slice Pb.fa rb.fs.length Pb.fc) ∧ V.cell? ⟨w.heap.size + 1, 3, none⟩ = some (.slice Pb.ra rb.rs.length Pb.rc)) := fun V hV => ⟨(hV.cell (p := ⟨wq.heap.size, 0, none⟩) l2).trans x0, (hV.cell (p := ⟨wq.heap.size, 1, none⟩) l2).trans x1, (hV.cell (p := ⟨wq.heap.size, 2, none⟩) l2).trans x2, (hV.cell (p := ⟨w.heap.size, 0, none⟩) l0).trans a0, (hV.cell (p := ⟨w.heap.size, 1, none⟩) l0).trans a1, (hV.cell (p := ⟨w.heap.size, 2, none⟩) l0).trans a2, (hV.cell (p := ⟨w.heap.size, 3, none⟩) l0).trans a3, (hV.cell (p := ⟨w.heap.size + 1, 0, none⟩) l1).trans b0, (hV.cell (p := ⟨w.heap.size + 1, 1, none⟩) l1).trans b1, (hV.cell (p := ⟨w.heap.size + 1, 2, none⟩) l1).trans b2, (hV.cell (p := ⟨w.heap.size + 1, 3, none⟩) l1).trans b3⟩
        go_cut [14, 15] from 68 to 74 (fun s14 s15 wc => ∃ g1 g2, s14 = .pointer (some ⟨g1, 0, none⟩) ∧ s15 = .pointer (some ⟨g2, 0, none⟩) ∧ OpAt wc g1 0 ⟨⟨2, ⟨2, 0, 45⟩, 0, allR, ra, ⟨#[]⟩, ⟨⟨#[]⟩, ⟨#[]⟩⟩⟩, ⟨none, 0, Pa⟩⟩ ∧ OpAt wc g2 0 ⟨⟨2, ⟨2, 0, 45⟩, 0, allR, rb, ⟨#[]⟩, ⟨⟨#[]⟩, ⟨#[]⟩⟩⟩, ⟨none, 0, Pb⟩⟩ ∧ V5.heap.size ≤ g1 ∧ V5.heap.size ≤ g2 ∧ Below V5.heap.size V5 wc)
        case first =>
          clear HS HL HM HTK HIA HIB HA HSZ HW HGC HB1 HS1 HB2 HSA2 HSZ2 HB3 HB4 HLP HBR HBAR HBBR HGE HLT HN1 HN2 HL2 HBA5 HBB5 HA5 hmin hN1 hN2 hN3 hm
          go_region_held3 (fun w' => w'.cell? ⟨wq.heap.size, 0, none⟩ = some (.int .i64 2) ∧ w'.cell? ⟨wq.heap.size, 1, none⟩ = some (.int .i64 0) ∧ w'.cell? ⟨wq.heap.size, 2, none⟩ = some (.int .i64 45) ∧ w'.cell? ⟨w.heap.size, 0, none⟩ = some (.string ra.id) ∧ w'.cell? ⟨w.heap.size, 1, none⟩ = some (.int .i64 ra.cats) ∧ w'.cell? ⟨w.heap.size, 2, none⟩ = some (.slice Pa.fa ra.fs.length Pa.fc) ∧ w'.cell? ⟨w.heap.size, 3, none⟩ = some (.slice Pa.ra ra.rs.length Pa.rc) ∧ w'.cell? ⟨w.heap.size + 1, 0, none⟩ = some (.string rb.id) ∧ w'.cell? ⟨w.heap.size + 1, 1, none⟩ = some (.int .i64 rb.cats) ∧ w'.cell? ⟨w.heap.size + 1, 2, none⟩ = some (.slice Pb.fa rb.fs.length Pb.fc) ∧ w'.cell? ⟨w.heap.size + 1, 3, none⟩ = some (.slice Pb.ra rb.rs.length Pb.rc)) (first | assumption | exact HS5.out _ ((Below.refl _ _).drew) | exact HS5.out _ (by go_grown)) (fail)
          all_goals (go_wp2_with fail; go_meet)
          all_goals
            case rel => exact ⟨_, _, rfl, rfl, by constructor <;> simp [go_sem], by constructor <;> simp [go_sem], by simp, by simp, by go_grown⟩
        case rest =>
          obtain ⟨w5, hw5e⟩ : ∃ w5, w5 = wc := ⟨_, rfl⟩
          subst hw5e
          obtain ⟨g1, g2, rfl, rfl, ho1, ho2, hg1, hg2, hb5⟩ := hcut
          have hbr5 := HA5.out.trans (hb5.mono HA5.out.size)
          have HL5 := Lib.hid (HL2.out.below hbr5).base
          have HO1 := Lib.hid ho1
          have HO2 := Lib.hid ho2
          have HBA6 := Lib.hid (HBA5.out.below hb5)
          have HBB6 := Lib.hid (HBB5.out.below hb5)
          have HBW5 := Lib.hid (HBR.out.trans (hbr5.mono HBR.out.size))
          have HGG : Hid ((g1 ≠ pa ∧ g1 ≠ qa ∧ g1 ≠ pb ∧ g1 ≠ qb) ∧ (g2 ≠ pa ∧ g2 ≠ qa ∧ g2 ≠ pb ∧ g2 ≠ qb) ∧ g1 < w5.heap.size ∧ g2 < w5.heap.size) := by
            have h1 := HLT.out
            have h2 := HA5.out.size
            have h3 := cell_lt ho1.c0
            have h4 := cell_lt ho2.c0
            exact ⟨by omega, by omega, h3, h4⟩
          have HBT : Hid (∀ V, Kept (fun z => (z ≠ pa ∧ z ≠ qa) ∧ (z ≠ pb ∧ z ≠ qb)) w5 V → Below w.heap.size w V) := fun V hV => HBW5.out.trans (hV.to (fun z hz => by have h1 := HS1.out; have h2 := HGE.out; omega) HBW5.out.size)
          have HDA : Hid (∀ V, Below w.heap.size w V → OpL.in_ ⟨2, ⟨2, 0, 45⟩, 0, allR, ra, ⟨#[]⟩, ⟨⟨#[]⟩, ⟨#[]⟩⟩⟩ ⟨none, 0, Pa⟩ V) := fun V hV => ⟨SlR.none _ _, Nat.le_refl _, Nat.zero_le _, HIA.out.1.below hV, HIA.out.2, str0_sh⟩
          have HDB : Hid (∀ V, Below w.heap.size w V → OpL.in_ ⟨2, ⟨2, 0, 45⟩, 0, allR, rb, ⟨#[]⟩, ⟨⟨#[]⟩, ⟨#[]⟩⟩⟩ ⟨none, 0, Pb⟩ V) := fun V hV => ⟨SlR.none _ _, Nat.le_refl _, Nat.zero_le _, HIB.out.1.below hV, HIB.out.2, str0_sh⟩
          have HOK := Lib.hid HLP.out.a.ok
          have HD := Lib.hid (HL5.out.doing _ _ (HDA.out w5 HBW5.out) rfl (doX_2 rfl))
          have hgg := HGG.out.2.2
          clear a0 a1 a2 a3 b0 b1 b2 b3 x0 x1 x2 hg1 hg2 hb5 hbr5 l0 l1 l2 l3 l4 l5 HS5
          obtain ⟨c0, c1, c2, c3, c4, c5, c6, c7, c8, c9, c10, c11⟩ := ho1
          simp only [Nat.zero_add] at c0 c1 c2 c3 c4 c5 c6 c7 c8 c9 c10 c11
          clear ho2 HS HL HM HTK HA HSZ HW HGC HB1 HB2 HSA2 HSZ2 HB3 HB4 HLP HBR HBAR HBBR HL2 HBA5 HBB5 HA5 hmin hN1 hN2 hN3 hm
          go_wp2_with fail
          refine HD.out.mono ?_
          rintro e w6 ⟨P6, qa6, rfl, _, hl6, _, _⟩
          have HL6 := Lib.hid hl6
          have HD2 := Lib.hid (HL6.out.doing _ _ (HDB.out w6 (HBT.out _ hl6.k)) rfl (doX_2 rfl))
          have ho2 := HO2.out.kept hl6.k (by have := HGG.out; omega)
          clear c0 c1 c2 c3 c4 c5 c6 c7 c8 c9 c10 c11 hl6 HD
          obtain ⟨c0, c1, c2, c3, c4, c5, c6, c7, c8, c9, c10, c11⟩ := ho2
          simp only [Nat.zero_add] at c0 c1 c2 c3 c4 c5 c6 c7 c8 c9 c10 c11
          go_wp2_with fail
          refine HD2.out.mono ?_
          rintro e w7 ⟨P7, qa7, rfl, _, hl7, _, _⟩
          have HL7 := Lib.hid hl7
          have HD3 := Lib.hid (HL7.out.swap.doing _ _ (HDB.out w7 (HBT.out _ hl7.k)) rfl (doX_2 rfl))
          have ho2 := HO2.out.kept hl7.k (by have := HGG.out; omega)
          clear c0 c1 c2 c3 c4 c5 c6 c7 c8 c9 c10 c11 hl7 HD2
          obtain ⟨c0, c1, c2, c3, c4, c5, c6, c7, c8, c9, c10, c11⟩ := ho2
          simp only [Nat.zero_add] at c0 c1 c2 c3 c4 c5 c6 c7 c8 c9 c10 c11
          go_wp2_with fail
          refine HD3.out.mono ?_
          rintro e w8 ⟨P8, qb8, rfl, _, hl8, _, _⟩
          have HL8 := Lib.hid hl8.swap
          have HD4 := Lib.hid (hl8.doing _ _ (HDA.out w8 (HBT.out _ hl8.swap.k)) rfl (doX_2 rfl))
          have ho2 := HO1.out.kept hl8.swap.k (by have := HGG.out; omega)
          clear c0 c1 c2 c3 c4 c5 c6 c7 c8 c9 c10 c11 hl8 HD3
          obtain ⟨c0, c1, c2, c3, c4, c5, c6, c7, c8, c9, c10, c11⟩ := ho2
          simp only [Nat.zero_add] at c0 c1 c2 c3 c4 c5 c6 c7 c8 c9 c10 c11
          go_wp2_with fail
          refine HD4.out.mono ?_
          rintro e w9 ⟨P9, qb9, rfl, _, hl9, _, _⟩
          have HL9 := Lib.hid hl9.swap
          have ha9 := HBA6.out.kept hl9.swap.k (by have h1 := HS1.out; have h2 := HGE.out; omega)
          have hb9 := HBB6.out.kept hl9.swap.k (by have h1 := HS1.out; have h2 := HGE.out; omega)
          have HB9 := Lib.hid (HBT.out _ hl9.swap.k)
          clear c0 c1 c2 c3 c4 c5 c6 c7 c8 c9 c10 c11 hl9 HD4
          obtain ⟨a0, a1, a2, a3⟩ := ha9
          obtain ⟨b0, b1, b2, b3⟩ := hb9
          go_wp2_with fail
          obtain ⟨W9, hW9⟩ : ∃ W9, W9 = w9.alloc (.cells #[.string ra.id, .string rb.id] 9) := ⟨_, rfl⟩
          have hA9 : Below w9.heap.size w9 W9 := by rw [hW9]; exact (Below.refl _ _).alloc (Nat.le_refl _) _
          have d0 : W9.cell? ⟨w9.heap.size, 0, none⟩ = some (.string ra.id) := by rw [hW9]; simp [go_sem]
          have d1 : W9.cell? ⟨w9.heap.size, 1, none⟩ = some (.string rb.id) := by rw [hW9]; simp [go_sem]
          have HD9 := Lib.hid (And.intro d0 d1)
          rw [← hW9]
          have HL10 := Lib.hid (HL9.out.below hA9)
          have HB10 := Lib.hid (HB9.out.trans (hA9.mono HB9.out.size))
          have HT4 : Hid (∀ (y : WhoL) (o : OpL), o.who = y → (o.id = ra.id ∨ o.id = rb.id) → o.kind = 4 ∨ o.kind = 6 → doT (putS (putS X ⟨2, 0, 45⟩ ra) ⟨2, 0, 45⟩ rb) o = doT (putS (putS X ⟨2, 0, 45⟩ rb) ⟨2, 0, 45⟩ ra) o) := fun y o h1 h2 h3 => apart_told HOK.out ⟨2, 0, 45⟩ y HN1.out HN2.out h2 o h1 rfl h3
          clear a0 a1 a2 a3 b0 b1 b2 b3 d0 d1 hA9 hW9 HOK HN1 HN2 HDA HDB HBT HGG HO1 HO2 HBA6 HBB6 HL5 HL6 HL7 HL8 HL9 HB9 HBW5 hgg
          go_loopw [92] (fun i wr => ∃ j : Nat, j ≤ 2 ∧ i = .int .i64 j ∧ Hid (Below W9.heap.size W9 wr)) (fun i _ => 2 - (intOf i).toNat)
          case atStart => exact ⟨0, Nat.zero_le _, rfl, Below.refl _ _⟩
          case round =>
            obtain ⟨j, hj, rfl, HBJ⟩ := hrel
            by_cases hj2 : j < 2
            · obtain ⟨wj, hwj⟩ : ∃ wj, wj = wr := ⟨_, rfl⟩
              subst hwj
              obtain ⟨id, hid, hido⟩ : ∃ id, wj.cell? ⟨w9.heap.size, j, none⟩ = some (.string id) ∧ (id = ra.id ∨ id = rb.id) := by
                have hcs : j = 0 ∨ j = 1 := by omega
                rcases hcs with rfl | rfl
                · exact ⟨_, (HBJ.out.cell (p := ⟨w9.heap.size, 0, none⟩) (cell_lt HD9.out.1)).trans HD9.out.1, .inl rfl⟩
                · exact ⟨_, (HBJ.out.cell (p := ⟨w9.heap.size, 1, none⟩) (cell_lt HD9.out.2)).trans HD9.out.2, .inr rfl⟩
              have HIDO := Lib.hid hido
              have i1 : (0 : Int) ≤ (j : Int) := by omega
              have i2 : (j : Int) < 2 := by omega
              clear hido
              go_wp2_with fail
              go_loopw [96] (fun i wr => ∃ m : Nat, m ≤ 3 ∧ i = .int .i64 m ∧ Hid (Below W9.heap.size W9 wr)) (fun i _ => 3 - (intOf i).toNat)
              case atStart => exact ⟨0, Nat.zero_le _, rfl, HBJ.out⟩
              case round =>
                obtain ⟨m, hm3, rfl, HBM⟩ := hrel
                obtain ⟨wm, hwm⟩ : ∃ wm, wm = wr := ⟨_, rfl⟩
                subst hwm
                by_cases hm2 : m < 3
                · have m1 : (m : Int) < 3 := by omega
                  have hc0 : wm.heap.size < wm.heap.size + 1 := by omega
                  go_upto_region 29 with fail
                  obtain ⟨Wm, hWm⟩ : ∃ Wm, Wm = (wm.alloc (.cells #[.int .i64 6, .int .i64 (m : Int), .int .i64 0, .int .i64 1, .slice none 0 0, .string ⟨#[]⟩, .int .i64 0, .slice none 0 0, .slice none 0 0, .string id, .string ⟨#[]⟩, .string ⟨#[]⟩] 39)).alloc (.cells #[.int .i64 4, .int .i64 (m : Int), .int .i64 0, .int .i64 1, .slice none 0 0, .string ⟨#[]⟩, .int .i64 0, .slice none 0 0, .slice none 0 0, .string id, .string ⟨#[]⟩, .string ⟨#[]⟩] 39) := ⟨_, rfl⟩
                  have hAm : Below wm.heap.size wm Wm := by rw [hWm]; exact ((Below.refl _ _).alloc (Nat.le_refl _) _).alloc (by simp) _
                  have hzm : Wm.heap.size = wm.heap.size + 2 := by rw [hWm]; simp
                  have HSS : Hid (∀ V, Below Wm.heap.size Wm V → Below Wm.heap.size Wm V ∧ V.cell? ⟨wm.heap.size, 0, none⟩ = some (.int .i64 6) ∧ V.cell? ⟨wm.heap.size, 1, none⟩ = some (.int .i64 (m : Int)) ∧ V.cell? ⟨wm.heap.size, 2, none⟩ = some (.int .i64 0) ∧ V.cell? ⟨wm.heap.size, 3, none⟩ = some (.int .i64 1) ∧ V.cell? ⟨wm.heap.size, 4, none⟩ = some (.slice none 0 0) ∧ V.cell? ⟨wm.heap.size, 5, none⟩ = some (.string ⟨#[]⟩) ∧ V.cell? ⟨wm.heap.size, 6, none⟩ = some (.int .i64 0) ∧ V.cell? ⟨wm.heap.size, 7, none⟩ = some (.slice none 0 0) ∧ V.cell? ⟨wm.heap.size, 8, none⟩ = some (.slice none 0 0) ∧ V.cell? ⟨wm.heap.size, 9, none⟩ = some (.string id) ∧ V.cell? ⟨wm.heap.size, 10, none⟩ = some (.string ⟨#[]⟩) ∧ V.cell? ⟨wm.heap.size, 11, none⟩ = some (.string ⟨#[]⟩) ∧ V.cell? ⟨wm.heap.size + 1, 0, none⟩ = some (.int .i64 4) ∧ V.cell? ⟨wm.heap.size + 1, 1, none⟩ = some (.int .i64 (m : Int)) ∧ V.cell? ⟨wm.heap.size + 1, 2, none⟩ = some (.int .i64 0) ∧ V.cell? ⟨wm.heap.size + 1, 3, none⟩ = some (.int .i64 1) ∧ V.cell? ⟨wm.heap.size + 1, 4, none⟩ = some (.slice none 0 0) ∧ V.cell? ⟨wm.heap.size + 1, 5, none⟩ = some (.string ⟨#[]⟩) ∧ V.cell? ⟨wm.heap.size + 1, 6, none⟩ = some (.int .i64 0) ∧ V.cell? ⟨wm.heap.size + 1, 7, none⟩ = some (.slice none 0 0) ∧ V.cell? ⟨wm.heap.size + 1, 8, none⟩ = some (.slice none 0 0) ∧ V.cell? ⟨wm.heap.size + 1, 9, none⟩ = some (.string id) ∧ V.cell? ⟨wm.heap.size + 1, 10, none⟩ = some (.string ⟨#[]⟩) ∧ V.cell? ⟨wm.heap.size + 1, 11, none⟩ = some (.string ⟨#[]⟩)) := fun V hV => by
                    refine ⟨hV, ?_⟩
                    refine ⟨?_, ?_, ?_, ?_, ?_, ?_, ?_, ?_, ?_, ?_, ?_, ?_, ?_, ?_, ?_, ?_, ?_, ?_, ?_, ?_, ?_, ?_, ?_, ?_⟩
                    all_goals
                      refine (hV.cell (by first | (show wm.heap.size < Wm.heap.size; omega) | (show wm.heap.size + 1 < Wm.heap.size; omega))).trans ?_
                      rw [hWm]
                      simp [go_sem]
                  have HLm := Lib.hid (HL10.out.below (HBM.out.trans (hAm.mono HBM.out.size)))
                  have HBm := Lib.hid (HBM.out.trans (hAm.mono HBM.out.size))
                  obtain ⟨T6, hT6⟩ : ∃ T6, doT (putS (putS X ⟨2, 0, 45⟩ ra) ⟨2, 0, 45⟩ rb) (⟨6, ⟨(m : Int), 0, 1⟩, 0, allR, RecL.zero, id, ⟨⟨#[]⟩, ⟨#[]⟩⟩⟩ : OpL) = T6 := ⟨_, rfl⟩
                  obtain ⟨T4, hT4⟩ : ∃ T4, doT (putS (putS X ⟨2, 0, 45⟩ ra) ⟨2, 0, 45⟩ rb) (⟨4, ⟨(m : Int), 0, 1⟩, 0, allR, RecL.zero, id, ⟨⟨#[]⟩, ⟨#[]⟩⟩⟩ : OpL) = T4 := ⟨_, rfl⟩
                  have HDA6 : Hid (∀ V, Below Wm.heap.size Wm V → Calls Tryz.prog 16 #[ptr pa, .agg #[.int .i64 6, .int .i64 (m : Int), .int .i64 0, .int .i64 1, .slice none 0 0, .string ⟨#[]⟩, .int .i64 0, .slice none 0 0, .slice none 0 0, .string id, .string ⟨#[]⟩, .string ⟨#[]⟩]] V (RdIs T6 V)) := fun V hV => (HLm.out.below hV).reading (⟨6, ⟨(m : Int), 0, 1⟩, 0, allR, RecL.zero, id, ⟨⟨#[]⟩, ⟨#[]⟩⟩⟩ : OpL) ⟨none, 0, At.none⟩ ⟨SlR.none _ _, Nat.le_refl _, Nat.zero_le _, zero_ok _, zero_sh, str0_sh⟩ (by refine ⟨?_, ?_, ?_, ?_⟩ <;> (show (6 : Int) ≠ _; decide)) hT6
                  have HDB6 : Hid (∀ V, Below Wm.heap.size Wm V → Calls Tryz.prog 16 #[ptr pb, .agg #[.int .i64 6, .int .i64 (m : Int), .int .i64 0, .int .i64 1, .slice none 0 0, .string ⟨#[]⟩, .int .i64 0, .slice none 0 0, .slice none 0 0, .string id, .string ⟨#[]⟩, .string ⟨#[]⟩]] V (RdIs T6 V)) := fun V hV => (HLm.out.below hV).swap.reading (⟨6, ⟨(m : Int), 0, 1⟩, 0, allR, RecL.zero, id, ⟨⟨#[]⟩, ⟨#[]⟩⟩⟩ : OpL) ⟨none, 0, At.none⟩ ⟨SlR.none _ _, Nat.le_refl _, Nat.zero_le _, zero_ok _, zero_sh, str0_sh⟩ (by refine ⟨?_, ?_, ?_, ?_⟩ <;> (show (6 : Int) ≠ _; decide)) ((HT4.out _ (⟨6, ⟨(m : Int), 0, 1⟩, 0, allR, RecL.zero, id, ⟨⟨#[]⟩, ⟨#[]⟩⟩⟩ : OpL) rfl HIDO.out (.inr rfl)).symm.trans hT6)
                  have HDA4 : Hid (∀ V, Below Wm.heap.size Wm V → Calls Tryz.prog 16 #[ptr pa, .agg #[.int .i64 4, .int .i64 (m : Int), .int .i64 0, .int .i64 1, .slice none 0 0, .string ⟨#[]⟩, .int .i64 0, .slice none 0 0, .slice none 0 0, .string id, .string ⟨#[]⟩, .string ⟨#[]⟩]] V (RdIs T4 V)) := fun V hV => (HLm.out.below hV).reading (⟨4, ⟨(m : Int), 0, 1⟩, 0, allR, RecL.zero, id, ⟨⟨#[]⟩, ⟨#[]⟩⟩⟩ : OpL) ⟨none, 0, At.none⟩ ⟨SlR.none _ _, Nat.le_refl _, Nat.zero_le _, zero_ok _, zero_sh, str0_sh⟩ (by refine ⟨?_, ?_, ?_, ?_⟩ <;> (show (4 : Int) ≠ _; decide)) hT4
                  have HDB4 : Hid (∀ V, Below Wm.heap.size Wm V → Calls Tryz.prog 16 #[ptr pb, .agg #[.int .i64 4, .int .i64 (m : Int), .int .i64 0, .int .i64 1, .slice none 0 0, .string ⟨#[]⟩, .int .i64 0, .slice none 0 0, .slice none 0 0, .string id, .string ⟨#[]⟩, .string ⟨#[]⟩]] V (RdIs T4 V)) := fun V hV => (HLm.out.below hV).swap.reading (⟨4, ⟨(m : Int), 0, 1⟩, 0, allR, RecL.zero, id, ⟨⟨#[]⟩, ⟨#[]⟩⟩⟩ : OpL) ⟨none, 0, At.none⟩ ⟨SlR.none _ _, Nat.le_refl _, Nat.zero_le _, zero_ok _, zero_sh, str0_sh⟩ (by refine ⟨?_, ?_, ?_, ?_⟩ <;> (show (4 : Int) ≠ _; decide)) ((HT4.out _ (⟨4, ⟨(m : Int), 0, 1⟩, 0, allR, RecL.zero, id, ⟨⟨#[]⟩, ⟨#[]⟩⟩⟩ : OpL) rfl HIDO.out (.inl rfl)).symm.trans hT4)
                  rw [← hWm]
                  clear hT6 hT4 hWm hAm hzm
                  go_cut [124] from 107 to 125 (fun s wc => s = .bool false ∧ Below Wm.heap.size Wm wc)
                  case first =>
                    have mk0 : True := trivial
                    have mk1 : True := trivial
                    have mk2 : True := trivial
                    have mk3 : True := trivial
                    clear HS1 HIA HIB HGE HLT HD9 HL10 HB10 HT4 HBJ hid HIDO i1 i2 HBM hj hj2 hm3 hm2 m1 hc0 HLm HBm
                    go_region_held3 (fun w' => Below Wm.heap.size Wm w' ∧ w'.cell? ⟨wm.heap.size, 0, none⟩ = some (.int .i64 6) ∧ w'.cell? ⟨wm.heap.size, 1, none⟩ = some (.int .i64 (m : Int)) ∧ w'.cell? ⟨wm.heap.size, 2, none⟩ = some (.int .i64 0) ∧ w'.cell? ⟨wm.heap.size, 3, none⟩ = some (.int .i64 1) ∧ w'.cell? ⟨wm.heap.size, 4, none⟩ = some (.slice none 0 0) ∧ w'.cell? ⟨wm.heap.size, 5, none⟩ = some (.string ⟨#[]⟩) ∧ w'.cell? ⟨wm.heap.size, 6, none⟩ = some (.int .i64 0) ∧ w'.cell? ⟨wm.heap.size, 7, none⟩ = some (.slice none 0 0) ∧ w'.cell? ⟨wm.heap.size, 8, none⟩ = some (.slice none 0 0) ∧ w'.cell? ⟨wm.heap.size, 9, none⟩ = some (.string id) ∧ w'.cell? ⟨wm.heap.size, 10, none⟩ = some (.string ⟨#[]⟩) ∧ w'.cell? ⟨wm.heap.size, 11, none⟩ = some (.string ⟨#[]⟩) ∧ w'.cell? ⟨wm.heap.size + 1, 0, none⟩ = some (.int .i64 4) ∧ w'.cell? ⟨wm.heap.size + 1, 1, none⟩ = some (.int .i64 (m : Int)) ∧ w'.cell? ⟨wm.heap.size + 1, 2, none⟩ = some (.int .i64 0) ∧ w'.cell? ⟨wm.heap.size + 1, 3, none⟩ = some (.int .i64 1) ∧ w'.cell? ⟨wm.heap.size + 1, 4, none⟩ = some (.slice none 0 0) ∧ w'.cell? ⟨wm.heap.size + 1, 5, none⟩ = some (.string ⟨#[]⟩) ∧ w'.cell? ⟨wm.heap.size + 1, 6, none⟩ = some (.int .i64 0) ∧ w'.cell? ⟨wm.heap.size + 1, 7, none⟩ = some (.slice none 0 0) ∧ w'.cell? ⟨wm.heap.size + 1, 8, none⟩ = some (.slice none 0 0) ∧ w'.cell? ⟨wm.heap.size + 1, 9, none⟩ = some (.string id) ∧ w'.cell? ⟨wm.heap.size + 1, 10, none⟩ = some (.string ⟨#[]⟩) ∧ w'.cell? ⟨wm.heap.size + 1, 11, none⟩ = some (.string ⟨#[]⟩)) (first | assumption | exact HSS.out _ (Below.refl _ _).drew | exact HSS.out _ hWA | exact HSS.out _ hWB | exact HSS.out _ hWS)
                      (first
                        | (go_at_call 16; clear mk0; refine (HDA6.out _ (Below.refl _ _).drew).mono ?_; rintro e wA ⟨PA, rfl, hoA, hbA⟩; have hWA : Below Wm.heap.size Wm wA := ((Below.refl Wm.heap.size Wm).drew).trans hbA)
                        | (go_at_call 16; clear mk1; refine (HDB6.out _ hWA).mono ?_; rintro e wB ⟨PB, rfl, hoB, hbB⟩; have hWB : Below Wm.heap.size Wm wB := hWA.trans (hbB.mono hWA.size); have hoA2 := hoA.below hbB)
                        | (go_at_call 16; clear mk2; refine (HDA4.out _ hWS).mono ?_; rintro e wA ⟨PA, rfl, hoA, hbA⟩; have hWA : Below Wm.heap.size Wm wA := hWS.trans (hbA.mono hWS.size))
                        | (go_at_call 16; clear mk3; refine (HDB4.out _ hWA).mono ?_; rintro e wB ⟨PB, rfl, hoB, hbB⟩; have hWB : Below Wm.heap.size Wm wB := hWA.trans (hbB.mono hWA.size); have hoA2 := hoA.below hbB)
                        | (go_at_call 17; refine (told_yes _ _ _ _ hoA2 hoB).mono ?_; rintro e wS ⟨rfl, hbS⟩; have hWS : Below Wm.heap.size Wm wS := hWB.trans (hbS.mono hWB.size)))
                    all_goals (go_wp2_with fail; go_meet)
                    all_goals
                      case rel => exact ⟨rfl, hWS⟩
                  case rest =>
                    obtain ⟨rfl, hbc⟩ := hcut
                    have HBc := Lib.hid (HBm.out.trans (hbc.mono HBm.out.size))
                    clear hbc hid
                    go_wp2_with fail
                    go_roundw
                    case rel => exact ⟨m + 1, by omega, by go_num, HBc.out⟩
                    case measure => simp [intOf]; omega
                · obtain rfl : m = 3 := by omega
                  clear hid
                  go_wp2_with fail
                  go_roundw
                  case rel => exact ⟨j + 1, by omega, by go_num, HBM.out⟩
                  case measure => simp [intOf]; omega
            · obtain rfl : j = 2 := by omega
              have HBF := Lib.hid (HB10.out.trans (HBJ.out.mono HB10.out.size))
              go_wp2_with fail
              go_ret
              exact ⟨rfl, HBF.out⟩
end Go.Proofs.YteimdhkajbldjaaGreat
