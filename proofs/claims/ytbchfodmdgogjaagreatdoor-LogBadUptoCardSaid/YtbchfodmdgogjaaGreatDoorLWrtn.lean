/- The contract of wykeep.written: the lines of operations, one behind the other. -/
import Derived.Test.YtbchfodmdgogjaaGreatDoorLWrite
import Derived.Test.YtbchfodmdgogjaaGreatDoorLSame
import Derived.Test.YtbchfodmdgogjaaGreatDoorLOpsR
import Derived.Test.YtbchfodmdgogjaaGreatDoorLPure
set_option linter.unusedVariables false
set_option linter.unusedSimpArgs false
set_option maxRecDepth 100000
namespace Go.Proofs.YtbchfodmdgogjaaGreatDoor
open Go.RowKit Go.Sort

/-- what wykeep.written answers -/
def WrtTo (w : World) (e : Ending) (w' : World) : Prop :=
  ∃ (M : List OpL) (L : List OO) (n : Nat) (A : Option Addr) (c : Nat), e = .returned (.tuple #[.string (bs (logText M)), .slice A n c, .bool true]) ∧ L.map (·.o) = M.map OpL.plain ∧ L.length = n ∧ (∀ o ∈ M, logErr o = 0) ∧ (logText M).length ≤ 20000 ∧ OpsR w.heap.size (.slice A n c) L w' ∧ Below w.heap.size w w'
theorem log_length : ∀ {M : List OpL}, M.length ≤ (logText M).length
  | [] => Nat.le_refl _
  | o :: M => by
    have ih := log_length (M := M)
    rw [logText_cons, List.length_append, line_eq]
    simp only [List.length_cons, List.length_append, List.length_nil]
    omega
/-- the operations that are written so far -/
structure WrR (B : Nat) (S : ByteArray) (n : Nat) (M : List OpL) (L : List OO) : Prop where
  s : S = bs (logText M)
  o : L.map (·.o) = M.map OpL.plain
  n : L.length = n
  e : ∀ o ∈ M, logErr o = 0
  l : (logText M).length ≤ 20000
theorem WrR.size {B : Nat} {S : ByteArray} {n : Nat} {M : List OpL} {L : List OO} (h : WrR B S n M L) : S.size ≤ 20000 ∧ n ≤ 20000 := by
  have h1 := h.l
  have h2 := log_length (M := M)
  have h3 := congrArg List.length h.o
  rw [List.length_map, List.length_map] at h3
  rw [h.s, bs_size, ← h.n, h3]
  exact ⟨h1, Nat.le_trans h2 h1⟩
theorem WrR.app {B : Nat} {S : ByteArray} {n : Nat} {M : List OpL} {L : List OO} (h : WrR B S n M L) {o : OpL} (P : OpP) {T ST : ByteArray} (he : logErr o = 0) (hT : wrLine o = T) (hS : S ++ T = ST) (hl : S.size + T.size ≤ 20000) : WrR B ST (n + 1) (M ++ [o]) (L ++ [⟨o.plain, P⟩]) := by
  have hTl : T = bs o.line := by rw [← hT]; unfold wrLine; rw [if_pos he]
  have e1 : logText (M ++ [o]) = logText M ++ o.line := by
    rw [logText_append, logText_cons]
    show _ ++ (o.line ++ []) = _
    rw [List.append_nil]
  refine ⟨?_, ?_, ?_, fun q hq => ?_, ?_⟩
  · rw [← hS, h.s, hTl, e1, bs_append]
  · rw [List.map_append, List.map_append, h.o]
    rfl
  · rw [List.length_append, h.n]
    rfl
  · rcases List.mem_append.1 hq with hq | hq
    · exact h.e q hq
    · rw [List.mem_singleton.1 hq]
      exact he
  · rw [e1, List.length_append]
    rw [h.s, hTl, bs_size, bs_size] at hl
    exact hl

set_option maxHeartbeats 4000000 in
theorem written_any (a : Option Addr) (l : List OO) (N cap : Nat) (w : World) (hE : Env w) (hs : SlO w a l) (hn : l.length = N) (hc : N ≤ maxLen) :
    Calls Tryz.prog 19 #[.slice a N cap] w (WrtTo w) := by
  obtain ⟨i0, hi0, hz0, hz1, hz2⟩ := info_parts Tryz.infoOp
  unfold maxLen at hc
  have HE := Lib.hid hE
  have HS := Lib.hid hs
  have HN := Lib.hid hn
  clear hE hs hn
  go_enter Tryz.func19, Tryz.ntmps19
  go_wp2_with fail
  go_loopw [5, 6, 13] (fun s v i wr => ∃ (k n : Nat) (S : ByteArray) (M : List OpL) (L : List OO) (A : Option Addr) (c : Nat), k ≤ N ∧ i = .int .i64 k ∧ s = .string S ∧ v = .slice A n c ∧ Hid (WrR w.heap.size S n M L) ∧ Hid (OpsR w.heap.size (.slice A n c) L wr) ∧ Hid (Below w.heap.size w wr)) (fun _ _ i _ => N - (intOf i).toNat)
  case atStart => exact ⟨0, 0, ⟨#[]⟩, [], [], none, 0, Nat.zero_le _, rfl, rfl, rfl, ⟨rfl, rfl, rfl, fun o ho => (by cases ho), Nat.zero_le _⟩, OpsR.nil _ _, Below.refl _ _⟩
  case round =>
    obtain ⟨k, n, S, M, L, A, c, hk, rfl, rfl, rfl, HW, HO, HB⟩ := hrel
    by_cases hlt : k < N
    · obtain ⟨x, hx⟩ : ∃ x, l[k]? = some x := ⟨_, List.getElem?_eq_getElem (by rw [HN.out]; exact hlt)⟩
      obtain ⟨ix0, _⟩ := HS.out k x hx
      obtain ⟨ix, b, off, rfl, hcc⟩ := (HS.out.below HB.out) k x hx
      obtain ⟨o, P⟩ := x
      replace ix : o.in_ P wr := ix
      replace ix0 : o.in_ P w := ix0
      obtain ⟨c0, c1, c2, c3, c4, c5, c6, c7, c8, c9, c10, c11⟩ := hcc
      replace c0 : wr.cell? ⟨b, off + k * 12, none⟩ = some (.int .i64 o.kind) := c0
      have HIX0 := Lib.hid ix0
      have j1 : (0 : Int) ≤ (k : Int) := by omega
      have j2 : (k : Int) < (N : Int) := by omega
      have lt1 := cell_lt c0
      obtain ⟨w1, hw1⟩ : ∃ w1, wr.alloc (.cells #[.int .i64 o.kind, .int .i64 o.who.role, .int .i64 o.who.why, .int .i64 o.who.time, .slice P.ra o.n P.rc, .string o.r.id, .int .i64 o.r.cats, .slice P.p.fa o.r.fs.length P.p.fc, .slice P.p.ra o.r.rs.length P.p.rc, .string o.id, .string o.f.key, .string o.f.val] 32) = w1 := ⟨_, rfl⟩
      have h01 : Below wr.heap.size wr w1 := hw1 ▸ (Below.refl _ _).alloc (Nat.le_refl _) _
      have HX1 := Lib.hid (show OpAt w1 wr.heap.size 0 ⟨o, P⟩ from by rw [← hw1]; constructor <;> simp [go_sem])
      obtain ⟨T, hT⟩ : ∃ T, wrLine o = T := ⟨_, rfl⟩
      obtain ⟨er, her⟩ : ∃ er, logErr o = er := ⟨_, rfl⟩
      have HWR := Lib.hid (logWrite_is o P w1 ((HE.out.below HB.out).below h01) (ix.below h01) hT her)
      have HW1 := Lib.hid hw1
      have H01 := Lib.hid h01
      have HT := Lib.hid hT
      have HER := Lib.hid her
      have hTs : T.size ≤ 64506 := by
        rw [← hT]
        unfold wrLine
        split
        · rename_i h0
          rw [bs_size]
          exact (line_len h0).1
        · exact Nat.zero_le _
      have HTS := Lib.hid hTs
      clear hx ix ix0 hw1 h01 hT her hTs
      go_upto_region 6 with (fail)
      rw [HW1.out]
      obtain ⟨x0, x1, x2, x3, x4, x5, x6, x7, x8, x9, x10, x11⟩ := HX1.out
      simp only [Nat.zero_add] at x0 x1 x2 x3 x4 x5 x6 x7 x8 x9 x10 x11
      clear c0 c1 c2 c3 c4 c5 c6 c7 c8 c9 c10 c11
      go_wp2_with fail
      refine HWR.out.mono ?_
      rintro e w2 ⟨rfl, hb2⟩
      have H02 := Lib.hid (H01.out.trans (hb2.mono H01.out.size))
      have HX2 := Lib.hid (HX1.out.below hb2)
      have HB2 := Lib.hid (HB.out.trans (H02.out.mono HB.out.size))
      have HO2 := Lib.hid (HO.out.below H02.out)
      have hlx := cell_lt x0
      clear hb2 x0 x1 x2 x3 x4 x5 x6 x7 x8 x9 x10 x11 HWR HX1 HW1 HO
      by_cases h0 : er = 0
      · subst h0
        have hsz := HW.out.size
        have hts := HTS.out
        obtain ⟨Z, hZ⟩ : ∃ Z : Nat, Z = S.size + T.size := ⟨_, rfl⟩
        have hwr : wrap64 ((S.size : Int) + (T.size : Int)) = (Z : Int) := by
          have := hsz.1
          unfold wrap64
          omega
        have HZ := Lib.hid hZ
        have HWRAP := Lib.hid hwr
        clear hwr
        by_cases hfit : S.size + T.size ≤ 20000
        · have hf1 : (Z : Int) ≤ 20000 := by omega
          obtain ⟨ST, hST⟩ : ∃ ST, S ++ T = ST := ⟨_, rfl⟩
          have a1 : ∀ W, (Op.stringOp .add S T).run Tryz.prog W = .ok (.string ST) W := add_run (by omega) hST
          have HAPP := Lib.hid (fun P' => HW.out.app P' HER.out HT.out hST hfit)
          have HPI := Lib.hid (plain_in HIX0.out)
          have HPL := Lib.hid (plain_any o P w2)
          obtain ⟨o2, ho2⟩ : ∃ o2, o.plain = o2 := ⟨_, rfl⟩
          obtain ⟨P2, hP2⟩ : ∃ P2, o.plainP P = P2 := ⟨_, rfl⟩
          rw [ho2, hP2] at HPI HPL
          rw [ho2] at HAPP
          obtain ⟨x0, x1, x2, x3, x4, x5, x6, x7, x8, x9, x10, x11⟩ := HX2.out
          simp only [Nat.zero_add] at x0 x1 x2 x3 x4 x5 x6 x7 x8 x9 x10 x11
          have hn2 := hsz.2
          have hwr := HWRAP.out
          clear hST hsz hts ho2 hP2 hfit hZ
          go_upto_region 8 with (fail)
          clear hwr
          go_wp2_with fail
          refine HPL.out.mono ?_
          rintro e w3 ⟨rfl, hb3⟩
          have HB3 := Lib.hid (HB2.out.trans (hb3.mono HB2.out.size))
          have HO3 := Lib.hid (HO2.out.below hb3)
          obtain ⟨w4, hw4⟩ : ∃ w4, w3.alloc (.cells #[.int .i64 o2.kind, .int .i64 o2.who.role, .int .i64 o2.who.why, .int .i64 o2.who.time, .slice P2.ra o2.n P2.rc, .string o2.r.id, .int .i64 o2.r.cats, .slice P2.p.fa o2.r.fs.length P2.p.fc, .slice P2.p.ra o2.r.rs.length P2.p.rc, .string o2.id, .string o2.f.key, .string o2.f.val] 32) = w4 := ⟨_, rfl⟩
          have h34 : Below w3.heap.size w3 w4 := hw4 ▸ (Below.refl _ _).alloc (Nat.le_refl _) _
          have HNEW := Lib.hid (cell_op w3 ⟨o2, P2⟩ 32)
          simp only [hw4] at HNEW
          have HW4 := Lib.hid hw4
          have HB4 := Lib.hid (HB3.out.trans (h34.mono HB3.out.size))
          have HO4 := Lib.hid (HO3.out.below h34)
          have hbw : w.heap.size ≤ w4.heap.size := HB4.out.size
          have HON := Lib.hid (on_old (v := .slice A n c) HPI.out HB4.out (fun z hz => (World.ownsRow.lt HO4.out.own z hz).1))
          clear hb3 hw4 h34 x0 x1 x2 x3 x4 x5 x6 x7 x8 x9 x10 x11
          go_wp2_with (at_builtin; rw [HW4.out]; refine wpList_append_own_at _ rfl _ _ 36 rfl w.heap.size 32 i0 _ 12 176 Tryz.underlying36 hi0 hz0 hz1 hz2 rfl (by decide) (.slice A n c) n (cellsO L) rfl (HW.out.n ▸ HO4.out.own) ⟨w3.heap.size, 0, none⟩ 1 1 (cellsO [⟨o2, P2⟩]) rfl rfl HNEW.out (cellsO_one _) (by unfold maxLen; omega) (by omega) hbw ?_; intro v' w5 hown' hgrow hnv hat)
          have ho5 : OwnO w.heap.size w5 v' (L ++ [⟨o2, P2⟩]) := by
            unfold OwnO
            rw [cellsO_append, List.length_append, HW.out.n]
            exact hown'
          obtain ⟨A', c', hv⟩ := OwnO.form ho5
          rw [List.length_append, HW.out.n] at hv
          have hv' : v' = .slice A' (n + 1) c' := hv
          subst hv'
          have HO5 := Lib.hid (HO4.out.app (x := ⟨o2, P2⟩) HON.out hgrow ho5 hat)
          have HB5 := Lib.hid (show Below w.heap.size w w5 from HB4.out.trans ((Kept.grown (Z := fun z => z < w.heap.size) hgrow fun z hz e => by
            have := (World.ownsRow.lt HO4.out.own z e.symm).1
            omega).to (fun z hz => hz) hbw))
          clear hown' hgrow hnv hat ho5 hv
          go_wp2_with fail
          go_roundw
          case rel => exact ⟨k + 1, n + 1, ST, M ++ [o], L ++ [(⟨o2, P2⟩ : OO)], A', c', by omega, by go_num, rfl, rfl, HAPP.out P2, HO5.out, HB5.out⟩
          case measure => simp [intOf]; omega
        · have hf1 : ¬ (Z : Int) ≤ 20000 := by omega
          have hwr := HWRAP.out
          clear hsz hts hfit hZ
          go_wp2_with fail
          go_roundw
          case rel => exact ⟨k + 1, n, S, M, L, A, c, by omega, by go_num, rfl, rfl, HW.out, HO2.out, HB2.out⟩
          case measure => simp [intOf]; omega
      · have h0f : (er == 0) = false := by simpa using h0
        have hte : T = ⟨#[]⟩ := by
          rw [← HT.out]
          unfold wrLine
          rw [if_neg (fun h => h0 (HER.out.symm.trans h))]
        subst hte
        go_wp2_with fail
        go_roundw
        case rel => exact ⟨k + 1, n, S, M, L, A, c, by omega, by go_num, rfl, rfl, HW.out, HO2.out, HB2.out⟩
        case measure => simp [intOf]; omega
    · have HWW := Lib.hid HW.out
      go_wp2_with fail
      go_ret3
      refine ⟨M, L, n, A, c, by rw [HW.out.s]; rfl, HW.out.o, HW.out.n, HW.out.e, HW.out.l, HO.out, HB.out⟩
end Go.Proofs.YtbchfodmdgogjaaGreatDoor
