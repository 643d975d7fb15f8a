/- RecordSays: Id, Value, Check, Get and Set answer what the document says: the walk. -/
import Derived.Test.YtdnjboopaagleaaDoorRefSet
import Derived.Test.YtdnjboopaagleaaDoorRefRec
import Derived.Test.YtdnjboopaagleaaDoorRGet
import Derived.Test.YtdnjboopaagleaaDoorRFlds
import Derived.Test.YtdnjboopaagleaaDoorREq
set_option linter.unusedVariables false
set_option linter.unusedSimpArgs false
set_option maxRecDepth 100000
namespace Go.Proofs.YtdnjboopaagleaaDoor
open Go.RowKit Go.Sort

/-- what the loop of the law has found after k fields -/
def lookV (fs : List FieldL) (key : ByteArray) (k : Nat) : ByteArray := (look (fs.take k) key).getD ⟨#[]⟩
def lookC (fs : List FieldL) (key : ByteArray) (k : Nat) : Int := if (look (fs.take k) key).isSome then 0 else 4
theorem look_hit {fs : List FieldL} {key : ByteArray} {k : Nat} {g : FieldL} (ha : Asc (fs.map (·.key))) (hg : fs[k]? = some g) (h : g.key = key) : lookV fs key (k + 1) = g.val ∧ lookC fs key (k + 1) = 0 := by
  unfold lookV lookC
  rw [look_take_succ ha hg, if_pos (sEq_iff.2 h)]
  exact ⟨rfl, rfl⟩
theorem look_miss {fs : List FieldL} {key : ByteArray} {k : Nat} {g : FieldL} (ha : Asc (fs.map (·.key))) (hg : fs[k]? = some g) (h : g.key ≠ key) : lookV fs key (k + 1) = lookV fs key k ∧ lookC fs key (k + 1) = lookC fs key k := by
  unfold lookV lookC
  rw [look_take_succ ha hg, if_neg (by rw [sEq_iff]; exact h)]
  exact ⟨rfl, rfl⟩
theorem look_end {r : RecL} {key : ByteArray} (h : r.Ok) : lookV r.fs key r.fs.length = r.get key ∧ lookC r.fs key r.fs.length = r.getErr key := by
  have he := r.err_ok.2 h
  unfold lookV lookC RecL.get RecL.getErr
  rw [List.take_length]
  simp only [if_neg (show ¬ r.err ≠ 0 from fun k => k he)]
  refine ⟨trivial, ?_⟩
  cases hl : look r.fs key with
  | none =>
    rw [if_pos (look_none.1 hl)]
    rfl
  | some v =>
    have hth : ¬ there r.fs key = false := fun k => by rw [look_none.2 k] at hl; cases hl
    rw [if_neg hth]
    rfl

theorem refRecord_is {n : Int} (r : RecL) (p : At) (w : World) (hi : r.in_ p w) (hs : r.short) (h : r.err = n) :
    Calls Tryd.prog 8 #[r.v p] w fun e w' => e = .returned (.int .i64 n) ∧ Below w.heap.size w w' := h ▸ refRecord_any r p w hi hs

/-- what is known when Get, Set and Record have answered: where all lies -/
structure SaysPre (r : RecL) (p : At) (f : FieldL) (X : RecL) (px : At) (w W : World) (b : Nat) : Prop where
  below : Below w.heap.size w W
  hb : w.heap.size + 1 + 1 ≤ b
  lt : b < W.heap.size
  c0 : W.cell? ⟨w.heap.size, 0, none⟩ = some (.string r.id)
  c1 : W.cell? ⟨w.heap.size, 1, none⟩ = some (.int .i64 r.cats)
  c2 : W.cell? ⟨w.heap.size, 2, none⟩ = some (.slice p.fa r.fs.length p.fc)
  c3 : W.cell? ⟨w.heap.size, 3, none⟩ = some (.slice p.ra r.rs.length p.rc)
  d0 : W.cell? ⟨w.heap.size + 1, 0, none⟩ = some (.string f.key)
  d1 : W.cell? ⟨w.heap.size + 1, 1, none⟩ = some (.string f.val)
  x0 : W.cell? ⟨b, 0, none⟩ = some (.string X.id)
  x1 : W.cell? ⟨b, 1, none⟩ = some (.int .i64 X.cats)
  x2 : W.cell? ⟨b, 2, none⟩ = some (.slice px.fa X.fs.length px.fc)
  x3 : W.cell? ⟨b, 3, none⟩ = some (.slice px.ra X.rs.length px.rc)
  xi : X.in_ px W
theorem SaysPre.step {r : RecL} {p : At} {f : FieldL} {X : RecL} {px : At} {w W W' : World} {b : Nat} (h : SaysPre r p f X px w W b) (hB : Below W.heap.size W W') : SaysPre r p f X px w W' b := by
  have h0 := h.lt
  have h1 := h.hb
  obtain ⟨hc, hf⟩ := bcell hB
  exact ⟨h.below.trans (hB.mono h.below.size), h1, Nat.lt_of_lt_of_le h0 hB.size, (hc _ _ (by omega)).trans h.c0, (hc _ _ (by omega)).trans h.c1, (hc _ _ (by omega)).trans h.c2, (hc _ _ (by omega)).trans h.c3, (hc _ _ (by omega)).trans h.d0, (hc _ _ (by omega)).trans h.d1, (hc _ _ h0).trans h.x0, (hc _ _ h0).trans h.x1, (hc _ _ h0).trans h.x2, (hc _ _ h0).trans h.x3, h.xi.below hB⟩

set_option maxHeartbeats 4000000 in
theorem recordSays_walk (r : RecL) (p : At) (key : ByteArray) (f : FieldL) (w : World) (hi : r.in_ p w) (hs : r.short) (hk : key.size ≤ maxLen) (hfs : f.short) :
    Calls Tryd.prog 3 #[r.v p, .string key, f.v] w fun e w' => e = .returned (.bool true) ∧ Below w.heap.size w w' := by
  have hA : Below w.heap.size w ((r.box p w).alloc (.cells #[.string f.key, .string f.val] 27)) := (r.box_below p w).alloc (r.box_below p w).size _
  have HI := Lib.hid hi
  have HS := Lib.hid hs
  have HFS := Lib.hid hfs
  clear hi hs hfs
  go_enter Tryd.func3, Tryd.ntmps3
  go_wp2_with fail
  obtain ⟨V, hV⟩ : ∃ V, r.get key = V := ⟨_, rfl⟩
  obtain ⟨N, hN⟩ : ∃ N, r.getErr key = N := ⟨_, rfl⟩
  obtain ⟨X, hX⟩ : ∃ X, r.setRec f = X := ⟨_, rfl⟩
  obtain ⟨G, hG⟩ : ∃ G, r.setErr f = G := ⟨_, rfl⟩
  obtain ⟨n, hn⟩ : ∃ n, r.err = n := ⟨_, rfl⟩
  have HV := Lib.hid hV
  have HN := Lib.hid hN
  have HX := Lib.hid hX
  have HG := Lib.hid hG
  have HE := Lib.hid hn
  clear hV hN hX hG hn
  refine (get_is r p key _ (HI.out.below hA) HV.out HN.out).mono ?_
  rintro e w1 ⟨rfl, hb1⟩
  have hB1 : Below w.heap.size w w1 := hA.trans (hb1.mono hA.size)
  have z1 : w.heap.size + 1 + 1 ≤ w1.heap.size := by have := hb1.size; simp at this; omega
  obtain ⟨hc1, hf1⟩ := bcell hb1
  have a0 : ∀ o, w1.cell? ⟨w.heap.size, o, none⟩ = (r.box p w).cell? ⟨w.heap.size, o, none⟩ := fun o => by rw [hc1 _ _ (by simp; omega)]; simp [go_sem]
  have a1 : ∀ o, w1.cell? ⟨w.heap.size + 1, o, none⟩ = ((r.box p w).alloc (.cells #[.string f.key, .string f.val] 27)).cell? ⟨w.heap.size + 1, o, none⟩ := fun o => by rw [hc1 _ _ (by simp)]
  have c0 : w1.cell? ⟨w.heap.size, 0, none⟩ = some (.string r.id) := by simp [a0, go_sem]
  have c1 : w1.cell? ⟨w.heap.size, 1, none⟩ = some (.int .i64 r.cats) := by simp [a0, go_sem]
  have c2 : w1.cell? ⟨w.heap.size, 2, none⟩ = some (.slice p.fa r.fs.length p.fc) := by simp [a0, go_sem]
  have c3 : w1.cell? ⟨w.heap.size, 3, none⟩ = some (.slice p.ra r.rs.length p.rc) := by simp [a0, go_sem]
  have d0 : w1.cell? ⟨w.heap.size + 1, 0, none⟩ = some (.string f.key) := by simp [a1, go_sem]
  have d1 : w1.cell? ⟨w.heap.size + 1, 1, none⟩ = some (.string f.val) := by simp [a1, go_sem]
  clear hc1 hf1 hb1 a0 a1
  go_wp2_with fail
  refine (set_is r p f _ (HI.out.below hB1) HX.out HG.out).mono ?_
  rintro e w2 ⟨px, rfl, hix, _, hb2⟩
  have hB2 : Below w.heap.size w w2 := hB1.trans (hb2.mono hB1.size)
  have z2 : w.heap.size + 1 + 1 ≤ w2.heap.size := Nat.le_trans z1 hb2.size
  obtain ⟨hc2, hf2⟩ := bcell hb2
  have y0 : w.heap.size < w1.heap.size := by omega
  have y1 : w.heap.size + 1 < w1.heap.size := by omega
  replace c0 := (hc2 _ 0 y0).trans c0
  replace c1 := (hc2 _ 1 y0).trans c1
  replace c2 := (hc2 _ 2 y0).trans c2
  replace c3 := (hc2 _ 3 y0).trans c3
  replace d0 := (hc2 _ 0 y1).trans d0
  replace d1 := (hc2 _ 1 y1).trans d1
  clear hc2 hf2 hb2
  have y2 : w.heap.size < w2.heap.size := by omega
  have y3 : w.heap.size + 1 < w2.heap.size := by omega
  have HXI := Lib.hid hix
  have D0 := Lib.hid d0
  have D1 := Lib.hid d1
  clear hix y0 y1 d0 d1
  go_wp2_with fail
  have hB2' : Below w.heap.size w (w2.alloc (.cells #[.string X.id, .int .i64 X.cats, .slice px.fa X.fs.length px.fc, .slice px.ra X.rs.length px.rc] 25)) := hB2.alloc hB2.size _
  have HQ : Hid (SaysPre r p f X px w (w2.alloc (.cells #[.string X.id, .int .i64 X.cats, .slice px.fa X.fs.length px.fc, .slice px.ra X.rs.length px.rc] 25)) w2.heap.size) := {
    below := hB2', hb := z2, lt := by simp
    c0 := by simp [go_sem, c0, y2]
    c1 := by simp [go_sem, c1, y2]
    c2 := by simp [go_sem, c2, y2]
    c3 := by simp [go_sem, c3, y2]
    d0 := by simp [go_sem, D0.out, y3]
    d1 := by simp [go_sem, D1.out, y3]
    x0 := by simp [go_sem]
    x1 := by simp [go_sem]
    x2 := by simp [go_sem]
    x3 := by simp [go_sem]
    xi := HXI.out.keep (fun b o hb => by rw [World.cell?_alloc_past _ _ _ (by simpa using hb)]) }
  refine (refRecord_is r p _ (HI.out.below hB2') HS.out HE.out).mono ?_
  rintro e w3 ⟨rfl, hb3⟩
  have HP := Lib.hid (HQ.out.step hb3)
  obtain ⟨bx, hbx⟩ : ∃ bx, w2.heap.size = bx := ⟨_, rfl⟩
  rw [hbx] at HP ⊢
  clear hbx hb3 HQ c0 c1 c2 c3 hB2' D0 D1 hB2 z2 y2 y3 HXI hB1 z1 hA
  go_wp2_with fail
  obtain ⟨tk, htk⟩ : ∃ b, isNm key = b := ⟨_, rfl⟩
  obtain ⟨tv, htv⟩ : ∃ b, isVl f.val = b := ⟨_, rfl⟩
  have q0 := cell_regrown HP.out.c0
  have q1 := cell_regrown HP.out.c1
  have q2 := cell_regrown HP.out.c2
  have q3 := cell_regrown HP.out.c3
  have q5 := cell_regrown HP.out.d1
  have cI : ∀ d os, Calls Tryd.prog 9 #[.string key] (grow (redrawn w3 d) os) fun e w'' => e = .returned (.bool tk) ∧ ∃ p : Regrown, w'' = grow (redrawn w3 p.d) p.os := fun d os => Calls.regrown_of (id_is key _ htk)
  have cJ : ∀ d os, Calls Tryd.prog 10 #[.string key] (grow (redrawn w3 d) os) fun e w'' => e = .returned (.bool tk) ∧ ∃ p : Regrown, w'' = grow (redrawn w3 p.d) p.os := fun d os => Calls.regrown_of (refId_is key _ htk)
  have cV : ∀ d os, Calls Tryd.prog 11 #[.string f.val] (grow (redrawn w3 d) os) fun e w'' => e = .returned (.bool tv) ∧ ∃ p : Regrown, w'' = grow (redrawn w3 p.d) p.os := fun d os => Calls.regrown_of (value_is f.val _ htv)
  have cW : ∀ d os, Calls Tryd.prog 12 #[.string f.val] (grow (redrawn w3 d) os) fun e w'' => e = .returned (.bool tv) ∧ ∃ p : Regrown, w'' = grow (redrawn w3 p.d) p.os := fun d os => Calls.regrown_of (refValue_is f.val _ HFS.out.2 htv)
  have cC : ∀ d os, Calls Tryd.prog 13 #[r.v p] (grow (redrawn w3 d) os) fun e w'' => e = .returned (.int .i64 n) ∧ ∃ p : Regrown, w'' = grow (redrawn w3 p.d) p.os := fun d os => Calls.regrown_of (recCheck_is r p _ ((HI.out.below HP.out.below).below (below_regrown w3 d os)) HE.out)
  have cA : ∀ d os, Calls Tryd.prog 9 #[.string ⟨#[97]⟩] (grow (redrawn w3 d) os) fun e w'' => e = .returned (.bool true) ∧ ∃ p : Regrown, w'' = grow (redrawn w3 p.d) p.os := fun d os => Calls.regrown_of (id_is ⟨#[97]⟩ _ (by decide))
  refine region_below_lit (by kernel_rfl) (by kernel_rfl) ?_
  repeat (go_big_quiet_step (with_reducible first | exact cI _ _ | exact cJ _ _ | exact cV _ _ | exact cW _ _ | exact cC _ _ | exact cA _ _))
  refine wpQuiet_nil ?_
  intro _ hw'
  obtain ⟨⟨dq, osq⟩, hw''⟩ := hw'
  subst hw''
  have HP4 := Lib.hid (HP.out.step (below_regrown w3 dq osq))
  generalize grow (redrawn w3 dq) osq = w4 at HP4 ⊢
  clear q0 q1 q2 q3 q5 cI cJ cV cW cC cA HP htk htv
  by_cases h0 : n = 0
  · have ho := r.err_ok.1 (HE.out.trans h0)
    subst h0
    have HO := Lib.hid ho
    have HAS := Lib.hid (fOk_asc ho.fs)
    have hlo := look_end (key := key) ho
    rw [HV.out, HN.out] at hlo
    have HLO := Lib.hid hlo
    have n6 := ho.nf
    have c2 := HP4.out.c2
    clear ho hlo
    go_wp2_with fail
    clear c2
    go_loopw [77, 12, 13] (fun i v c wr => ∃ k : Nat, k ≤ r.fs.length ∧ i = .int .i64 k ∧ v = .string (lookV r.fs key k) ∧ c = .int .i64 (lookC r.fs key k) ∧ Hid (SaysPre r p f X px w wr bx)) (fun i _ _ _ => r.fs.length - (intOf i).toNat)
    case atStart => exact ⟨0, Nat.zero_le _, rfl, rfl, rfl, HP4⟩
    case round =>
      clear HP4
      obtain ⟨k, hk, rfl, rfl, rfl, HP⟩ := hrel
      by_cases hlt : k < r.fs.length
      · obtain ⟨g, hg⟩ : ∃ g, r.fs[k]? = some g := ⟨_, List.getElem?_eq_getElem hlt⟩
        obtain ⟨b, off, hfa, c1, c2⟩ := (HI.out.hf.below HP.out.below) k g hg
        obtain ⟨pa, pc, qa, qc⟩ := p
        simp only at hfa
        subst hfa
        have HGG := Lib.hid hg
        clear hg
        by_cases hkk : g.key = key
        · have e1 : (g.key.toList == key.toList) = true := sEq_iff.2 hkk
          have HKK := Lib.hid hkk
          clear hkk
          go_wp2_with fail
          go_roundw
          case rel =>
            obtain ⟨e2, e3⟩ := look_hit HAS.out HGG.out HKK.out
            exact ⟨k + 1, by omega, by go_num, by rw [e2], by rw [e3], HP.out.step ((Below.refl _ _).alloc (Nat.le_refl _) _)⟩
          case measure => simp [intOf]; omega
        · have e1 : (g.key.toList == key.toList) = false := sEq_false.2 hkk
          have HKK := Lib.hid hkk
          clear hkk
          go_wp2_with fail
          go_roundw
          case rel =>
            obtain ⟨e2, e3⟩ := look_miss HAS.out HGG.out HKK.out
            exact ⟨k + 1, by omega, by go_num, by rw [e2], by rw [e3], HP.out.step ((Below.refl _ _).alloc (Nat.le_refl _) _)⟩
          case measure => simp [intOf]; omega
      · obtain rfl : k = r.fs.length := by omega
        rw [HLO.out.1, HLO.out.2]
        have d0 := HP.out.d0
        have hbw := HP.out.hb
        have hbl := HP.out.lt
        cases htk2 : isNm f.key with
        | false =>
          have hse : G = 3 := by
            rw [← HG.out]
            unfold RecL.setErr
            rw [if_neg (by rw [HE.out]; simp), if_pos (by unfold isFd; rw [htk2]; rfl)]
          have hsx : X = RecL.zero := by
            rw [← HX.out]
            unfold RecL.setRec
            rw [if_neg (by rw [HG.out, hse]; decide)]
          subst hse hsx
          go_wp2_with fail
          refine (refId_is f.key _ htk2).mono ?_
          rintro e w5 ⟨rfl, hb5⟩
          have HP5 := Lib.hid (HP.out.step hb5)
          clear d0 htk2
          have x0 := HP5.out.x0
          have x1 := HP5.out.x1
          have x2 := HP5.out.x2
          have x3 := HP5.out.x3
          go_wp2_with fail
          refine (same_is (b := true) RecL.zero RecL.zero px At.none _ HP5.out.xi (zero_in _) (by decide)).mono ?_
          rintro e w6 ⟨rfl, hb6⟩
          go_wp2_with fail
          go_ret
          exact ⟨rfl, (HP5.out.step hb6).below⟩
        | true =>
          go_wp2_with fail
          refine (refId_is f.key _ htk2).mono ?_
          rintro e w5 ⟨rfl, hb5⟩
          have HP5 := Lib.hid (HP.out.step hb5)
          clear d0
          have d1 := HP5.out.d1
          cases htv2 : isVl f.val with
          | false =>
            have hse : G = 3 := by
              rw [← HG.out]
              unfold RecL.setErr
              rw [if_neg (by rw [HE.out]; simp), if_pos (by unfold isFd; rw [htv2, htk2]; rfl)]
            have hsx : X = RecL.zero := by
              rw [← HX.out]
              unfold RecL.setRec
              rw [if_neg (by rw [HG.out, hse]; decide)]
            subst hse hsx
            go_wp2_with fail
            refine (refValue_is f.val _ HFS.out.2 htv2).mono ?_
            rintro e w6 ⟨rfl, hb6⟩
            have HP6 := Lib.hid (HP5.out.step hb6)
            clear d1 htk2 htv2
            have x0 := HP6.out.x0
            have x1 := HP6.out.x1
            have x2 := HP6.out.x2
            have x3 := HP6.out.x3
            go_wp2_with fail
            refine (same_is (b := true) RecL.zero RecL.zero px At.none _ HP6.out.xi (zero_in _) (by decide)).mono ?_
            rintro e w7 ⟨rfl, hb7⟩
            go_wp2_with fail
            go_ret
            exact ⟨rfl, (HP6.out.step hb7).below⟩
          | true =>
            have HFD : Hid (isFd f = true) := by show isFd f = true; unfold isFd; rw [htk2, htv2]; rfl
            go_wp2_with fail
            refine (refValue_is f.val _ HFS.out.2 htv2).mono ?_
            rintro e w6 ⟨rfl, hb6⟩
            have HP6 := Lib.hid (HP5.out.step hb6)
            clear d1 htk2 htv2
            have c0 := HP6.out.c0
            have c1 := HP6.out.c1
            have c2 := HP6.out.c2
            have c3 := HP6.out.c3
            have e0 := HP6.out.d0
            have e1 := HP6.out.d1
            go_wp2_with fail
            have hset := refSet_any r p f w6 (HI.out.below HP6.out.below) HO.out HFD.out
            rw [HX.out, HG.out] at hset
            refine hset.mono ?_
            rintro e w7 ⟨py, rfl, hiy, hb7⟩
            have HP7 := Lib.hid (HP6.out.step hb7)
            have hbl7 := HP7.out.lt
            have HPY := Lib.hid hiy
            clear c0 c1 c2 c3 e0 e1 hset hiy hb7
            have x0 := HP7.out.x0
            have x1 := HP7.out.x1
            have x2 := HP7.out.x2
            have x3 := HP7.out.x3
            have hal : Below w7.heap.size w7 (w7.alloc (.cells #[.string X.id, .int .i64 X.cats, .slice py.fa X.fs.length py.fc, .slice py.ra X.rs.length py.rc] 25)) := (Below.refl _ _).alloc (Nat.le_refl _) _
            go_wp2_with fail
            refine (same_is (b := true) X X px py _ (HP7.out.xi.below hal) (HPY.out.below hal) (by simp)).mono ?_
            rintro e w8 ⟨rfl, hb8⟩
            go_wp2_with fail
            go_ret
            exact ⟨rfl, ((HP7.out.step hal).step hb8).below⟩
  · have hN : N = n := by
      rw [← HN.out]
      unfold RecL.getErr
      rw [if_pos (by rw [HE.out]; exact h0), HE.out]
    have hV : V = ⟨#[]⟩ := by
      rw [← HV.out]
      unfold RecL.get
      rw [if_pos (by rw [HE.out]; exact h0)]
    have hG : G = n := by
      rw [← HG.out]
      unfold RecL.setErr
      rw [if_pos (by rw [HE.out]; exact h0), HE.out]
    have hX : X = RecL.zero := by
      rw [← HX.out]
      unfold RecL.setRec
      rw [if_neg (by rw [HG.out, hG]; exact h0)]
    subst hN hV hG hX
    have h1 : (G == 0) = false := by simpa using h0
    have x0 := HP4.out.x0
    have x1 := HP4.out.x1
    have x2 := HP4.out.x2
    have x3 := HP4.out.x3
    go_wp2_with fail
    refine (same_is (b := true) RecL.zero RecL.zero px At.none _ HP4.out.xi (zero_in _) (by decide)).mono ?_
    rintro e w5 ⟨rfl, hb5⟩
    go_wp2_with fail
    go_ret
    exact ⟨rfl, (HP4.out.step hb5).below⟩
end Go.Proofs.YtdnjboopaagleaaDoor
