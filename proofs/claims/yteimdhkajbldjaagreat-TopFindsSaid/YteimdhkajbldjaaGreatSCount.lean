/- Contracts of isFull, check, count. -/
import Derived.Test.YteimdhkajbldjaaGreatSMap
import Derived.Test.YteimdhkajbldjaaGreatRNe
import Derived.Deep.RegionHeld3
set_option linter.unusedVariables false
set_option linter.unusedSimpArgs false
set_option maxRecDepth 100000
namespace Go.Proofs.YteimdhkajbldjaaGreat
open Go.RowKit Go.Sort Go.Maps

abbrev tallyV (b1 b2 : Nat) : Value := .agg #[.map (some b1), .map (some b2)]
theorem wf_cats {c : Int} (h0 : 0 ≤ c) (h1 : c ≤ 255) : (Lit.int .i64 c).wf = true := WalkArith.wf_i64 (by omega)
theorem nm_size {s : ByteArray} (h : isNm s = true) : s.size ≤ 8 := by
  unfold isNm at h
  simp only [Bool.and_eq_true, decide_eq_true_eq] at h
  exact h.1.2
theorem nm_max {s : ByteArray} (h : isNm s = true) : s.size ≤ maxLen := Nat.le_trans (nm_size h) (by unfold maxLen; omega)

set_option maxHeartbeats 400000 in
theorem full_is {b : Bool} {b1 b2 n : Nat} {f : Int → Nat} {g : ByteArray → Int → Bool} (c : Int) (w : World) (ht : Tally w b1 b2 n f g) (hc : (Lit.int .i64 c).wf = true) (h : decide (20 ≤ f c) = b) :
    Calls Tryz.prog 134 #[tallyV b1 b2, .int .i64 c] w fun e w' => e = .returned (.bool b) ∧ Below w.heap.size w w' ∧ w'.heap.size = w.heap.size + 1 := by
  have hl := (ht.below ((Below.refl _ _).alloc (Nat.le_refl _) (.cells #[.map (some b1), .map (some b2)] 162))).look c hc
  obtain ⟨m, hm⟩ : ∃ m, f c = m := ⟨_, rfl⟩
  rw [hm] at hl h
  have HH := Lib.hid h
  clear h hm ht
  go_enter Tryz.func134, Tryz.ntmps134
  go_wp2_with fail
  go_ret
  refine ⟨ret_bool ?_, by go_grown, by simp⟩
  rw [← HH.out, decide_eq_decide]
  omega

set_option maxHeartbeats 1000000 in
theorem verCheck_is {n : Int} {b1 b2 k : Nat} {l : List VerL} (x : PV) (w : World) (ht : Tally w b1 b2 k (same l) (lives l)) (hi : x.in_ w) (h : verErr l x.v = n) :
    Calls Tryz.prog 133 #[tallyV b1 b2, x.val] w fun e w' => e = .returned (.int .i64 n) ∧ Below w.heap.size w w' := by
  have hA : Below w.heap.size w ((w.alloc (.cells #[.map (some b1), .map (some b2)] 162)).alloc (.cells #[.string x.v.r.id, .int .i64 x.v.r.cats, .slice x.p.fa x.v.r.fs.length x.p.fc, .slice x.p.ra x.v.r.rs.length x.p.rc, .bool x.v.gone] 55)) := ((Below.refl _ _).alloc (Nat.le_refl _) _).alloc (by simp) _
  obtain ⟨⟨r, gn⟩, p⟩ := x
  simp only at hi h hA ⊢
  have HI := Lib.hid hi
  have HT := Lib.hid ht
  have HA := Lib.hid hA
  have H := Lib.hid h
  clear hi ht hA h
  by_cases he : r.err = 0
  · have HO := Lib.hid (r.err_ok.1 he)
    have HE := Lib.hid he
    clear he
    go_enter Tryz.func133, Tryz.ntmps133
    go_wp2_with fail
    refine (recCheck_is r p _ (HI.out.below HA.out) HE.out).mono ?_
    rintro e w1 ⟨rfl, hb1⟩
    have hB1 : Below w.heap.size w w1 := HA.out.trans (hb1.mono HA.out.size)
    have z1 : w.heap.size + 1 < w1.heap.size := by have := hb1.size; simp at this; omega
    obtain ⟨hc1, hf1⟩ := bcell hb1
    have a0 : w1.cell? ⟨w.heap.size, 0, none⟩ = some (.map (some b1)) := by rw [hc1 _ _ (by simp; omega)]; simp [go_sem]
    have a1 : w1.cell? ⟨w.heap.size, 1, none⟩ = some (.map (some b2)) := by rw [hc1 _ _ (by simp; omega)]; simp [go_sem]
    have c0 : w1.cell? ⟨w.heap.size + 1, 0, none⟩ = some (.string r.id) := by rw [hc1 _ _ (by simp)]; simp [go_sem]
    have c1 : w1.cell? ⟨w.heap.size + 1, 1, none⟩ = some (.int .i64 r.cats) := by rw [hc1 _ _ (by simp)]; simp [go_sem]
    have c2 : w1.cell? ⟨w.heap.size + 1, 2, none⟩ = some (.slice p.fa r.fs.length p.fc) := by rw [hc1 _ _ (by simp)]; simp [go_sem]
    have c3 : w1.cell? ⟨w.heap.size + 1, 3, none⟩ = some (.slice p.ra r.rs.length p.rc) := by rw [hc1 _ _ (by simp)]; simp [go_sem]
    have c4 : w1.cell? ⟨w.heap.size + 1, 4, none⟩ = some (.bool gn) := by rw [hc1 _ _ (by simp)]; simp [go_sem]
    clear hc1 hf1 hb1
    have z2 : w.heap.size < w1.heap.size := by omega
    go_wp2_with fail
    by_cases hf : 20 ≤ same l r.cats
    · have hn : n = 2 := by rw [← H.out]; unfold verErr; rw [if_neg (by simp [HE.out]), if_pos hf]
      subst hn
      refine (full_is r.cats _ (HT.out.below hB1) (wf_cats HO.out.c0 HO.out.c1) (b := true) (by simpa using hf)).mono ?_
      rintro e w2 ⟨rfl, hb2, _⟩
      go_wp2_with fail
      go_ret
      exact ⟨rfl, hB1.trans (hb2.mono hB1.size)⟩
    · refine (full_is r.cats _ (HT.out.below hB1) (wf_cats HO.out.c0 HO.out.c1) (b := false) (by simpa using hf)).mono ?_
      rintro e w2 ⟨rfl, hb2, hz2⟩
      have HF := Lib.hid hf
      have hB2 : Below w.heap.size w w2 := hB1.trans (hb2.mono hB1.size)
      obtain ⟨hc2, hf2⟩ := bcell hb2
      replace a0 := (hc2 _ 0 z2).trans a0
      replace a1 := (hc2 _ 1 z2).trans a1
      replace c0 := (hc2 _ 0 z1).trans c0
      replace c1 := (hc2 _ 1 z1).trans c1
      replace c2 := (hc2 _ 2 z1).trans c2
      replace c3 := (hc2 _ 3 z1).trans c3
      replace c4 := (hc2 _ 4 z1).trans c4
      clear hc2 hf2 hb2 hf hB1 z1 z2 hz2
      cases gn with
      | false =>
        have hn : n = 0 := by rw [← H.out]; unfold verErr; rw [if_neg (by simp [HE.out]), if_neg HF.out, if_neg (by simp)]
        subst hn
        go_wp2_with fail
        go_quiet (fail)
        go_wp2_with fail
        go_ret
        exact ⟨rfl, hB2.trans ((drewn_below w2 _).mono hB2.size)⟩
      | true =>
        obtain ⟨nf, hnf⟩ : ∃ nf, r.fs.length = nf := ⟨_, rfl⟩
        obtain ⟨nr, hnr⟩ : ∃ nr, r.rs.length = nr := ⟨_, rfl⟩
        rw [hnf] at c2
        rw [hnr] at c3
        have b1f := HO.out.nf
        have b1r := HO.out.nr
        rw [hnf] at b1f
        rw [hnr] at b1r
        have HNF := Lib.hid hnf
        have HNR := Lib.hid hnr
        rw [hnf, hnr]
        clear hnf hnr
        by_cases h1 : 0 < nf
        · have hn : n = 3 := by
            have hne : r.fs ≠ [] := fun e => by
              have h2 := HNF.out
              rw [e, List.length_nil] at h2
              omega
            rw [← H.out]
            unfold verErr
            rw [if_neg (by simp [HE.out]), if_neg HF.out, if_pos ⟨rfl, .inl hne⟩]
          subst hn
          have d1 : decide ((nf : Int) > 0) = true := by simpa using h1
          go_wp2_with fail
          go_quiet (fail)
          go_wp2_with fail
          go_ret
          exact ⟨rfl, hB2.trans ((drewn_below w2 _).mono hB2.size)⟩
        · have h0 : nf = 0 := by omega
          subst h0
          clear h1 b1f
          by_cases h1 : 0 < nr
          · have hn : n = 3 := by
              have hne : r.rs ≠ [] := fun e => by
                have h2 := HNR.out
                rw [e, List.length_nil] at h2
                omega
              rw [← H.out]
              unfold verErr
              rw [if_neg (by simp [HE.out]), if_neg HF.out, if_pos ⟨rfl, .inr (.inl hne)⟩]
            subst hn
            have d1 : decide ((nr : Int) > 0) = true := by simpa using h1
            go_wp2_with fail
            go_quiet (fail)
            go_wp2_with fail
            go_ret
            exact ⟨rfl, hB2.trans ((drewn_below w2 _).mono hB2.size)⟩
          · have h0 : nr = 0 := by omega
            subst h0
            clear h1 b1r
            have ef : r.fs = [] := List.eq_nil_of_length_eq_zero HNF.out
            have er : r.rs = [] := List.eq_nil_of_length_eq_zero HNR.out
            obtain ⟨id, ct, fs, rs⟩ := r
            simp only at ef er
            subst ef er
            obtain ⟨lv, hlv⟩ : ∃ lv, lives l id ct = lv := ⟨_, rfl⟩
            have hn : n = if lv = true then 0 else 3 := by
              rw [← H.out]
              unfold verErr
              rw [if_neg (by simp [HE.out]), if_neg HF.out]
              simp only [hlv]
              cases lv <;> simp
            have hlk : ∀ d os, (Instr.lookup 160 (.map (some b2)) (spotV id ct) false).run Tryz.prog (grow (redrawn w2 d) os) = .ok (.bool lv) (grow (redrawn w2 d) os) := fun d os => by
              rw [← hlv]
              exact ((HT.out.below hB2).below (below_regrown w2 d os)).asks id ct (nm_max HO.out.id) (wf_cats HO.out.c0 HO.out.c1)
            have cS : ∀ d os, Calls Tryz.prog 111 #[.agg #[.string id, .int .i64 ct, .slice p.fa 0 p.fc, .slice p.ra 0 p.rc, .bool true]] (grow (redrawn w2 d) os) fun e w'' => e = .returned (spotV id ct) ∧ ∃ p : Regrown, w'' = grow (redrawn w2 p.d) p.os := fun d os => Calls.regrown_of ((spot_any ⟨⟨⟨id, ct, [], []⟩, true⟩, p⟩ _).mono fun _ _ h => ⟨h.1, h.2.1⟩)
            clear hlv
            have q0 := cell_regrown a0
            have q1 := cell_regrown a1
            have q2 := cell_regrown c0
            have q3 := cell_regrown c1
            have q4 := cell_regrown c2
            have q5 := cell_regrown c3
            have q6 := cell_regrown c4
            go_wp2_with fail
            refine region_below_lit (by kernel_rfl) (by kernel_rfl) ?_
            repeat (go_big_quiet_step (with_reducible first | exact cS _ _))
            refine wpQuiet_nil ?_
            intro _ hw'
            obtain ⟨⟨dq, osq⟩, hw''⟩ := hw'
            subst hw''
            have hB3 : Below w.heap.size w (grow (redrawn w2 dq) osq) := hB2.trans ((below_regrown w2 dq osq).mono hB2.size)
            generalize grow (redrawn w2 dq) osq = w4 at hB3 ⊢
            clear q0 q1 q2 q3 q4 q5 q6 cS hlk a0 a1 c0 c1 c2 c3 c4
            cases lv with
            | true =>
              replace hn : n = 0 := hn
              subst hn
              go_wp2_with fail
              go_ret
              exact ⟨rfl, hB3⟩
            | false =>
              replace hn : n = 3 := hn
              subst hn
              go_wp2_with fail
              go_ret
              exact ⟨rfl, hB3⟩
  · have hn : r.err = n := by rw [← H.out]; unfold verErr; rw [if_pos (by simpa using he)]
    have HN := Lib.hid hn
    clear hn
    have h0 : (n == 0) = false := by rw [← HN.out]; simpa using he
    have h1 : (n != 0) = true := by rw [← HN.out]; simpa using he
    have h2 : ¬ n = 0 := by rw [← HN.out]; exact he
    clear he
    go_enter Tryz.func133, Tryz.ntmps133
    go_wp2_with fail
    refine (recCheck_is r p _ (HI.out.below HA.out) HN.out).mono ?_
    rintro e w1 ⟨rfl, hb1⟩
    go_wp2_with fail
    go_ret
    exact ⟨rfl, HA.out.trans (hb1.mono HA.out.size)⟩

/-- the cells of a slice of versions -/
def SlW (w : World) (a : Option Addr) (l : List PV) : Prop :=
  ∀ k x, l[k]? = some x → x.in_ w ∧ ∃ b off, a = some ⟨b, off, none⟩ ∧ w.cell? ⟨b, off + k * 5, none⟩ = some (.string x.v.r.id) ∧ w.cell? ⟨b, off + k * 5 + 1, none⟩ = some (.int .i64 x.v.r.cats) ∧
    w.cell? ⟨b, off + k * 5 + 2, none⟩ = some (.slice x.p.fa x.v.r.fs.length x.p.fc) ∧ w.cell? ⟨b, off + k * 5 + 3, none⟩ = some (.slice x.p.ra x.v.r.rs.length x.p.rc) ∧ w.cell? ⟨b, off + k * 5 + 4, none⟩ = some (.bool x.v.gone)
theorem SlW.keep {w w' : World} {a : Option Addr} {l : List PV} (h : SlW w a l) (hb : ∀ b o, b < w.heap.size → w'.cell? ⟨b, o, none⟩ = w.cell? ⟨b, o, none⟩) : SlW w' a l := fun k x hk => by
  obtain ⟨hi, b, off, rfl, h0, h1, h2, h3, h4⟩ := h k x hk
  exact ⟨hi.keep hb, b, off, rfl, (hb _ _ (cell_lt h0)).trans h0, (hb _ _ (cell_lt h0)).trans h1, (hb _ _ (cell_lt h0)).trans h2, (hb _ _ (cell_lt h0)).trans h3, (hb _ _ (cell_lt h0)).trans h4⟩
theorem SlW.below {w w' : World} {a : Option Addr} {l : List PV} (h : SlW w a l) (hb : Below w.heap.size w w') : SlW w' a l := h.keep (bcell hb).1
theorem SlW.nil (w : World) (a : Option Addr) : SlW w a [] := fun k x h => by simp at h

theorem Tally.setCell {w : World} {b1 b2 n : Nat} {f : Int → Nat} {g : ByteArray → Int → Bool} (h : Tally w b1 b2 n f g) {a : Addr} (h1 : b1 ≠ a.block) (h2 : b2 ≠ a.block) (u : Value) : Tally (w.setCell a u) b1 b2 n f g := by
  obtain ⟨D, k1, l1⟩ := h.s
  obtain ⟨D', k2, l2⟩ := h.v
  exact ⟨⟨D, k1.setCell h1 u, l1⟩, ⟨D', k2.setCell h2 u, l2⟩, h.ne⟩

/-- what is known in count's loop -/
structure CntR (l : List VerL) (k : Nat) (w wr : World) : Prop where
  b : Below w.heap.size w wr
  lt : w.heap.size + 3 < wr.heap.size
  r0 : wr.cell? ⟨w.heap.size, 0, none⟩ = some (.map none)
  r1 : wr.cell? ⟨w.heap.size, 1, none⟩ = some (.map none)
  z : ∀ o, wr.frozen? ⟨w.heap.size, o, none⟩ = false
  t0 : wr.cell? ⟨w.heap.size + 3, 0, none⟩ = some (.map (some (w.heap.size + 1)))
  t1 : wr.cell? ⟨w.heap.size + 3, 1, none⟩ = some (.map (some (w.heap.size + 2)))
  t : Tally wr (w.heap.size + 1) (w.heap.size + 2) (k + k) (same (l.take k)) (lives (l.take k))
theorem CntR.below {l : List VerL} {k : Nat} {w wr w' : World} (h : CntR l k w wr) (hB : Below wr.heap.size wr w') : CntR l k w w' := by
  have hl := h.lt
  obtain ⟨hc, hf⟩ := bcell hB
  exact ⟨h.b.trans (hB.mono h.b.size), Nat.lt_of_lt_of_le hl hB.size, (hc _ _ (by omega)).trans h.r0, (hc _ _ (by omega)).trans h.r1, fun o => (hf _ o (by omega)).trans (h.z o), (hc _ _ (by omega)).trans h.t0, (hc _ _ (by omega)).trans h.t1, h.t.below hB⟩

/-- what count answers -/
def CountTo (vs : List VerL) (w : World) (e : Ending) (w' : World) : Prop :=
  Below w.heap.size w w' ∧ ((stErr vs ≠ 0 ∧ e = .returned (.tuple #[.agg #[.map none, .map none], .int .i64 (stErr vs)])) ∨
    (stErr vs = 0 ∧ e = .returned (.tuple #[tallyV (w.heap.size + 1) (w.heap.size + 2), .int .i64 0]) ∧ Tally w' (w.heap.size + 1) (w.heap.size + 2) (vs.length + vs.length) (same vs) (lives vs)))

abbrev CntMid (x : PV) (w : World) (B : Nat) (w2 w' : World) : Prop := w2.grownBy w' (some (w.heap.size + 2)) ∧ w'.cell? ⟨w.heap.size + 3, 1, none⟩ = some (.map (some (w.heap.size + 2))) ∧ w'.cell? ⟨B, 0, none⟩ = some (.string x.v.r.id) ∧ w'.cell? ⟨B, 1, none⟩ = some (.int .i64 x.v.r.cats) ∧
    w'.cell? ⟨B, 2, none⟩ = some (.slice x.p.fa x.v.r.fs.length x.p.fc) ∧ w'.cell? ⟨B, 3, none⟩ = some (.slice x.p.ra x.v.r.rs.length x.p.rc) ∧ w'.cell? ⟨B, 4, none⟩ = some (.bool x.v.gone)
theorem mid_drew {x : PV} {w w2 : World} {B : Nat} (h : CntMid x w B w2 w2) : CntMid x w B w2 w2.drew :=
  ⟨⟨h.1.os, h.1.tape, h.1.output, h.1.size, h.1.block⟩, h.2⟩
theorem mid_keep {x : PV} {w w2 w3 w4 : World} {B : Nat} (h : CntMid x w B w2 w3) (hb : Below w3.heap.size w3 w4) : CntMid x w B w2 w4 := by
  obtain ⟨h, h0, h1, h2, h3, h4, h5⟩ := h
  obtain ⟨hc, _⟩ := bcell hb
  exact ⟨⟨hb.os.trans h.os, hb.tape.trans h.tape, hb.output.trans h.output, Nat.le_trans h.size hb.size, fun k hk hn => (hb.block k (Nat.lt_of_lt_of_le hk h.size)).trans (h.block k hk hn)⟩, (hc _ _ (cell_lt h0)).trans h0, (hc _ _ (cell_lt h1)).trans h1, (hc _ _ (cell_lt h1)).trans h2, (hc _ _ (cell_lt h1)).trans h3, (hc _ _ (cell_lt h1)).trans h4, (hc _ _ (cell_lt h1)).trans h5⟩
theorem cell_grown {w w' : World} {b j o : Nat} (h : w.grownBy w' (some j)) (hb : b < w.heap.size) (hj : b ≠ j) : w'.cell? ⟨b, o, none⟩ = w.cell? ⟨b, o, none⟩ := World.cell?_of_block (h.block b hb (fun e => hj (Option.some.inj e)))
theorem frozen_grown {w w' : World} {b j o : Nat} (h : w.grownBy w' (some j)) (hb : b < w.heap.size) (hj : b ≠ j) : w'.frozen? ⟨b, o, none⟩ = w.frozen? ⟨b, o, none⟩ := World.frozen?_of_block (h.block b hb (fun e => hj (Option.some.inj e)))

set_option maxHeartbeats 4000000 in
theorem count_to (a : Option Addr) (l : List PV) (c : Nat) (w : World) (hs : SlW w a l) (hm : l.length ≤ maxLen) :
    Calls Tryz.prog 108 #[.slice a l.length c] w (CountTo (l.map (·.v)) w) := by
  have HS := Lib.hid hs
  have hmm := @run_makeMap Tryz.prog
  obtain ⟨n, hn⟩ : ∃ n, n = l.length := ⟨_, rfl⟩
  have HN := Lib.hid hn
  unfold maxLen at hm
  rw [← hn] at hm ⊢
  clear hn hs
  by_cases hbig : 5120 < n
  · have he : stErr (l.map (·.v)) = 2 := by unfold stErr; rw [if_pos (by rw [List.length_map, ← HN.out]; exact hbig)]
    have HE := Lib.hid he
    clear he
    go_enter Tryz.func108, Tryz.ntmps108
    go_wp2_with fail
    refine bodyPost_ret (v := .tuple #[.agg #[.map none, .map none], .int .i64 2]) (by simp [results, Tryz.results108, go_sem]) rfl ?_
    unfold CountTo
    rw [HE.out]
    exact ⟨by go_grown, .inl ⟨by decide, rfl⟩⟩
  · have hs0 : errFrom [] ((l.map (·.v)).take 0) = 0 := rfl
    go_enter Tryz.func108, Tryz.ntmps108
    go_wp2_with fail
    go_loopw [17] (fun i wr => ∃ k : Nat, k ≤ n ∧ i = .int .i64 k ∧ Hid (errFrom [] ((l.map (·.v)).take k) = 0) ∧ Hid (CntR (l.map (·.v)) k w wr)) (fun i _ => n - (intOf i).toNat)
    case atStart =>
      refine ⟨0, Nat.zero_le _, rfl, hs0, ?_⟩
      have ht := tally_made (w.alloc (.cells #[.map none, .map none] 162))
      rw [World.size_alloc] at ht
      exact {
        b := (((((Below.refl _ _).alloc (Nat.le_refl _) _).alloc (by simp) _).alloc (by simp; omega) _).alloc (by simp; omega) _)
        lt := by simp
        r0 := by simp [go_sem]
        r1 := by simp [go_sem]
        z := fun o => by simp [go_sem]
        t0 := by simp [go_sem]
        t1 := by simp [go_sem]
        t := ht.below ((Below.refl _ _).alloc (Nat.le_refl _) _) }
    case round =>
      obtain ⟨k, hk, rfl, HE, HC⟩ := hrel
      clear hs0
      by_cases hlt : k < n
      · obtain ⟨x, hx⟩ : ∃ x, l[k]? = some x := ⟨_, List.getElem?_eq_getElem (by rw [← HN.out]; exact hlt)⟩
        have hv : (l.map (·.v))[k]? = some x.v := by rw [List.getElem?_map, hx]; rfl
        obtain ⟨hi, b, off, rfl, d0, d1, d2, d3, d4⟩ := (HS.out.below HC.out.b) k x hx
        have HV := Lib.hid hv
        have hbx : Below wr.heap.size wr (x.box wr) := x.box_below wr
        have hC1 := HC.out.below hbx
        have HI := Lib.hid (hi.below hbx)
        obtain ⟨m, hmm1⟩ : ∃ m, verErr ((l.map (·.v)).take k) x.v = m := ⟨_, rfl⟩
        have HM := Lib.hid hmm1
        have t0 := HC.out.t0
        have t1 := HC.out.t1
        have hlw := HC.out.lt
        have i1 : (0 : Int) ≤ (k : Int) := by omega
        have i2 : (k : Int) < (n : Int) := by omega
        have HC1 := Lib.hid hC1
        clear hx hv hi hC1 hmm1 hbx HC
        go_wp2_with fail
        refine (verCheck_is x _ HC1.out.t HI.out HM.out).mono ?_
        rintro e w1 ⟨rfl, hb1⟩
        have HC2 := Lib.hid (HC1.out.below hb1)
        have hsz1 : wr.heap.size < w1.heap.size := by have := hb1.size; simp at this; omega
        obtain ⟨hc1, hf1⟩ := bcell hb1
        have a0 : w1.cell? ⟨wr.heap.size, 0, none⟩ = some (.string x.v.r.id) := by rw [hc1 _ _ (by simp)]; simp [go_sem]
        have a1 : w1.cell? ⟨wr.heap.size, 1, none⟩ = some (.int .i64 x.v.r.cats) := by rw [hc1 _ _ (by simp)]; simp [go_sem]
        have a2 : w1.cell? ⟨wr.heap.size, 2, none⟩ = some (.slice x.p.fa x.v.r.fs.length x.p.fc) := by rw [hc1 _ _ (by simp)]; simp [go_sem]
        have a3 : w1.cell? ⟨wr.heap.size, 3, none⟩ = some (.slice x.p.ra x.v.r.rs.length x.p.rc) := by rw [hc1 _ _ (by simp)]; simp [go_sem]
        have a4 : w1.cell? ⟨wr.heap.size, 4, none⟩ = some (.bool x.v.gone) := by rw [hc1 _ _ (by simp)]; simp [go_sem]
        clear hb1 hc1 hf1 d0 d1 d2 d3 d4 t0 t1 HC1
        by_cases h0 : m = 0
        · subst h0
          obtain ⟨ko, kf, kg⟩ := verErr_ok.1 HM.out
          have HK := Lib.hid ko
          have t0 := HC2.out.t0
          have t1 := HC2.out.t1
          obtain ⟨s, hsm⟩ : ∃ s, same ((l.map (·.v)).take k) x.v.r.cats = s := ⟨_, rfl⟩
          rw [hsm] at kf
          have hlk := HC2.out.t.look x.v.r.cats (wf_cats ko.c0 ko.c1)
          rw [hsm] at hlk
          obtain ⟨w2, hup, htl2, hg2⟩ := HC2.out.t.count (by unfold maxLen; omega) x.v.r.cats (wf_cats ko.c0 ko.c1) (s + 1) (by omega)
          have hup2 : (Instr.mapUpdate 159 (.map (some (w.heap.size + 1))) (.int .i64 x.v.r.cats) (.int .i64 ((s : Int) + 1))).run Tryz.prog w1 = .ok () w2 := hup
          have HSM := Lib.hid hsm
          have HT2 := Lib.hid htl2
          have HG2 := Lib.hid hg2
          clear ko kg hup htl2 hg2 hsm
          have hmid : CntMid x w wr.heap.size w2 w2 := ⟨⟨rfl, rfl, rfl, Nat.le_refl _, fun _ _ _ => rfl⟩, (cell_grown HG2.out (by omega) (by omega)).trans t1, (cell_grown HG2.out (by omega) (by omega)).trans a0, (cell_grown HG2.out (by omega) (by omega)).trans a1, (cell_grown HG2.out (by omega) (by omega)).trans a2, (cell_grown HG2.out (by omega) (by omega)).trans a3, (cell_grown HG2.out (by omega) (by omega)).trans a4⟩
          have hnote : ∀ W, Below w2.drew.heap.size w2.drew W → ∃ w4, (Instr.mapUpdate 160 (.map (some (w.heap.size + 2))) (spotV x.v.r.id x.v.r.cats) (.bool (!x.v.gone))).run Tryz.prog W = .ok () w4 ∧ CntR (l.map (·.v)) (k + 1) w w4 ∧ CntMid x w wr.heap.size w2 w4 := fun W hW => by
            have hW2 : Below w2.heap.size w2 W := ⟨hW.os, hW.tape, hW.output, hW.size, hW.block⟩
            obtain ⟨w4, hup4, ht4, hg4⟩ := (HT2.out.below hW2).note (by unfold maxLen; omega) x.v.r.id x.v.r.cats (nm_max HK.out.id) (wf_cats HK.out.c0 HK.out.c1) (!x.v.gone)
            have hm4 := mid_keep hmid hW2
            have hwl := hW2.size
            have hg2s := HG2.out.size
            have hc4 : ∀ b o, b < W.heap.size → b ≠ w.heap.size + 2 → w4.cell? ⟨b, o, none⟩ = W.cell? ⟨b, o, none⟩ := fun b o h1 h2 => cell_grown hg4 h1 h2
            have hlw1 := HC2.out.lt
            have c2 : ∀ o, w4.cell? ⟨w.heap.size, o, none⟩ = w1.cell? ⟨w.heap.size, o, none⟩ := fun o => by rw [hc4 _ _ (by omega) (by omega), hW2.cell (p := ⟨w.heap.size, o, none⟩) (by show w.heap.size < _; omega), cell_grown HG2.out (by omega) (by omega)]
            have c3 : ∀ o, w4.cell? ⟨w.heap.size + 3, o, none⟩ = w1.cell? ⟨w.heap.size + 3, o, none⟩ := fun o => by rw [hc4 _ _ (by omega) (by omega), hW2.cell (p := ⟨w.heap.size + 3, o, none⟩) (by show w.heap.size + 3 < _; omega), cell_grown HG2.out (by omega) (by omega)]
            refine ⟨w4, hup4, ?_, ?_⟩
            · exact {
                b := ((HC2.out.b.grown HG2.out HC2.out.b.size (fun j hj => by cases hj; omega)).trans (hW2.mono (by omega))).grown hg4 (by omega) (fun j hj => by cases hj; omega)
                lt := by have := hg4.size; omega
                r0 := (c2 0).trans HC2.out.r0
                r1 := (c2 1).trans HC2.out.r1
                z := fun o => by rw [frozen_grown hg4 (by omega) (by omega), hW2.frozen (p := ⟨w.heap.size, o, none⟩) (by show w.heap.size < _; omega), frozen_grown HG2.out (by omega) (by omega)]; exact HC2.out.z o
                t0 := (c3 0).trans HC2.out.t0
                t1 := (c3 1).trans HC2.out.t1
                t := (ht4.mono (by omega)).congr (fun c => by
                    rw [take_snoc HV.out, same_snoc]
                    split
                    · rename_i e; rw [e, HSM.out, if_pos rfl]
                    · rename_i e; rw [if_neg (fun e' => e e'.symm)]; rfl) (fun id c => by
                    rw [take_snoc HV.out, lives_snoc]
                    by_cases e : id = x.v.r.id ∧ c = x.v.r.cats
                    · rw [if_pos e, if_pos (VerL.on_iff.2 ⟨e.1.symm, e.2.symm⟩)]
                    · rw [if_neg e, if_neg (fun k => e ⟨(VerL.on_iff.1 k).1.symm, (VerL.on_iff.1 k).2.symm⟩)]) }
            · obtain ⟨h, h0, h1, h2, h3, h4, h5⟩ := hm4
              exact ⟨⟨hg4.os.trans h.os, hg4.tape.trans h.tape, hg4.output.trans h.output, Nat.le_trans h.size hg4.size, fun k hk hn => (hg4.block k (Nat.lt_of_lt_of_le hk h.size) hn).trans (h.block k hk hn)⟩,
                (hc4 _ _ (by omega) (by omega)).trans h0, (hc4 _ _ (by omega) (by omega)).trans h1, (hc4 _ _ (by omega) (by omega)).trans h2, (hc4 _ _ (by omega) (by omega)).trans h3, (hc4 _ _ (by omega) (by omega)).trans h4, (hc4 _ _ (by omega) (by omega)).trans h5⟩
          have HNOTE := Lib.hid hnote
          have HMID := Lib.hid hmid
          clear hnote hmid
          go_wp2_with fail
          clear a0 a1 a2 a3 a4 t0 t1 hlk hup2
          have HST := mid_drew HMID.out
          go_region_held3 (fun w' => w2.grownBy w' (some (w.heap.size + 2)) ∧ w'.cell? ⟨w.heap.size + 3, 1, none⟩ = some (.map (some (w.heap.size + 2))) ∧ w'.cell? ⟨wr.heap.size, 0, none⟩ = some (.string x.v.r.id) ∧ w'.cell? ⟨wr.heap.size, 1, none⟩ = some (.int .i64 x.v.r.cats) ∧
              w'.cell? ⟨wr.heap.size, 2, none⟩ = some (.slice x.p.fa x.v.r.fs.length x.p.fc) ∧ w'.cell? ⟨wr.heap.size, 3, none⟩ = some (.slice x.p.ra x.v.r.rs.length x.p.rc) ∧ w'.cell? ⟨wr.heap.size, 4, none⟩ = some (.bool x.v.gone)) (first | assumption | exact mid_keep (by assumption) (by assumption) | exact HST)
            (first
              | (go_at_call 111; refine (spot_any x _).mono ?_; rintro e w' ⟨rfl, hb, -⟩; obtain ⟨w4, hup4, HC4, HM4⟩ := HNOTE.out _ hb; have HS4 := mid_keep HST hb; have HCH := Lib.hid HC4; clear HC4))
          all_goals
            go_wp2_with fail
            go_roundw
            case rel => exact ⟨k + 1, by omega, by go_num, errFrom_go HE.out HV.out HM.out, by assumption⟩
            case measure => simp [intOf]; omega
        · have hst : stErr (l.map (·.v)) = m := by
            unfold stErr
            rw [if_neg (by rw [List.length_map, ← HN.out]; exact hbig), errFrom_hit HE.out HV.out (by rw [HM.out]; exact h0), HM.out]
          have HST := Lib.hid hst
          have HCC := Lib.hid HC2.out
          have r0 := HC2.out.r0
          have r1 := HC2.out.r1
          have z0 := HC2.out.z 0
          have z1 := HC2.out.z 1
          have hlw1 := HC2.out.lt
          have h1 : (m == 0) = false := by simpa using h0
          have h2 : (m != 0) = true := by simpa using h0
          clear hst
          go_wp2_with fail
          refine bodyPost_ret (v := .tuple #[.agg #[.map none, .map none], .int .i64 m]) (by simp [results, Tryz.results108, go_sem, r0, r1, z0, z1]) rfl ?_
          unfold CountTo
          rw [HST.out]
          have hle : w.heap.size ≤ w.heap.size := Nat.le_refl _
          exact ⟨((HCC.out.b.setCell hle _).setCell hle _), .inl ⟨h0, rfl⟩⟩
      · obtain rfl : k = n := by omega
        have hst : stErr (l.map (·.v)) = 0 := by
          unfold stErr
          rw [if_neg (by rw [List.length_map, ← HN.out]; exact hbig)]
          have := HE.out
          rwa [List.take_of_length_le (by rw [List.length_map, ← HN.out]; exact Nat.le_refl _)] at this
        have HST := Lib.hid hst
        have r0 := HC.out.r0
        have r1 := HC.out.r1
        have t0 := HC.out.t0
        have t1 := HC.out.t1
        have z0 := HC.out.z 0
        have z1 := HC.out.z 1
        have hlw1 := HC.out.lt
        clear hst
        go_wp2_with fail
        refine bodyPost_ret (v := .tuple #[tallyV (w.heap.size + 1) (w.heap.size + 2), .int .i64 0]) (by simp [results, Tryz.results108, go_sem, r0, r1, z0, z1]) rfl ?_
        unfold CountTo
        have hle : w.heap.size ≤ w.heap.size := Nat.le_refl _
        have ht := HC.out.t
        rw [List.take_of_length_le (by rw [List.length_map, ← HN.out]; exact Nat.le_refl _)] at ht
        refine ⟨((HC.out.b.setCell hle _).setCell hle _), .inr ⟨HST.out, rfl, ?_⟩⟩
        rw [List.length_map, ← HN.out]
        exact (ht.setCell (show w.heap.size + 1 ≠ w.heap.size by omega) (show w.heap.size + 2 ≠ w.heap.size by omega) _).setCell (show w.heap.size + 1 ≠ w.heap.size by omega) (show w.heap.size + 2 ≠ w.heap.size by omega) _

theorem SlW.len0 {w : World} {l : List PV} (h : SlW w none l) : l = [] := by
  cases l with
  | nil => rfl
  | cons x r =>
    obtain ⟨_, b, off, e, _⟩ := h 0 x rfl
    cases e

theorem count_bad {n : Int} (a : Option Addr) (l : List PV) (c : Nat) (w : World) (hs : SlW w a l) (hm : l.length ≤ maxLen) (h : stErr (l.map (·.v)) = n) (h0 : n ≠ 0) :
    Calls Tryz.prog 108 #[.slice a l.length c] w fun e w' => e = .returned (.tuple #[.agg #[.map none, .map none], .int .i64 n]) ∧ Below w.heap.size w w' := by
  refine (count_to a l c w hs hm).mono fun e w' hc => ?_
  obtain ⟨hb, ⟨_, he⟩ | ⟨he, _⟩⟩ := hc
  · rw [h] at he
    exact ⟨he, hb⟩
  · rw [h] at he
    exact absurd he h0
def CountOk (vs : List VerL) (w : World) (e : Ending) (w' : World) : Prop :=
  e = .returned (.tuple #[tallyV (w.heap.size + 1) (w.heap.size + 2), .int .i64 0]) ∧ Below w.heap.size w w' ∧ Tally w' (w.heap.size + 1) (w.heap.size + 2) (vs.length + vs.length) (same vs) (lives vs)
theorem count_ok (a : Option Addr) (l : List PV) (c : Nat) (w : World) (hs : SlW w a l) (hm : l.length ≤ maxLen) (h : stErr (l.map (·.v)) = 0) :
    Calls Tryz.prog 108 #[.slice a l.length c] w (CountOk (l.map (·.v)) w) := by
  refine (count_to a l c w hs hm).mono fun e w' hc => ?_
  obtain ⟨hb, ⟨he, _⟩ | ⟨_, he, ht⟩⟩ := hc
  · exact absurd h he
  · exact ⟨he, hb, ht⟩
set_option maxHeartbeats 1000000 in
theorem stCheck_is {n : Int} (a : Option Addr) (l : List PV) (c : Nat) (w : World) (hs : SlW w a l) (hm : l.length ≤ maxLen) (h : stErr (l.map (·.v)) = n) :
    Calls Tryz.prog 91 #[.slice a l.length c] w fun e w' => e = .returned (.int .i64 n) ∧ Below w.heap.size w w' := by
  by_cases h0 : n = 0
  · subst h0
    have HC := Lib.hid (count_ok a l c w hs hm h)
    clear h hs
    go_enter Tryz.func91, Tryz.ntmps91
    go_wp2_with fail
    refine HC.out.mono ?_
    rintro e w1 ⟨rfl, hb1, ht⟩
    clear ht
    go_wp2_with fail
    go_ret
    exact ⟨rfl, hb1.alloc hb1.size _⟩
  · have HC := Lib.hid (count_bad a l c w hs hm h h0)
    have H0 := Lib.hid h0
    clear h hs h0
    go_enter Tryz.func91, Tryz.ntmps91
    go_wp2_with fail
    refine HC.out.mono ?_
    rintro e w1 ⟨rfl, hb1⟩
    go_wp2_with fail
    go_ret
    exact ⟨rfl, hb1.alloc hb1.size _⟩
end Go.Proofs.YteimdhkajbldjaaGreat
