/- The contract of record.Write. -/
import Derived.Test.YtepenlciaanoeaaGreatDoorREnv
import Derived.Test.YtepenlciaanoeaaGreatDoorRCheck
import Derived.Deep.OwnRows
set_option linter.unusedVariables false
set_option linter.unusedSimpArgs false
set_option maxRecDepth 100000
namespace Go.Proofs.YtepenlciaanoeaaGreatDoor
open Go.RowKit Go.Sort

/-- P19: what Write answers -/
noncomputable def wrS (r : RecL) : ByteArray := if r.err = 0 then bs r.text else ⟨#[]⟩
theorem wrS_ok {r : RecL} (h : r.err = 0) : wrS r = bs r.text := if_pos h
theorem wrS_no {r : RecL} (h : r.err ≠ 0) : wrS r = ⟨#[]⟩ := if_neg h

/-- a new list of strings that is being filled -/
structure FillW (G : Nat) (xs : List ByteArray) (k : Nat) (wb wr : World) : Prop where
  done : ∀ j x, j < k → xs[j]? = some x → wr.cell? ⟨G, j, none⟩ = some (.string x)
  rest : ∀ j, k ≤ j → j < xs.length → wr.cell? ⟨G, j, none⟩ = some (.string ⟨#[]⟩)
  fz : ∀ j, wr.frozen? ⟨G, j, none⟩ = false
  lt : G < wr.heap.size
  le : wb.heap.size ≤ G
  below : Below wb.heap.size wb wr
theorem FillW.keep {G k : Nat} {xs : List ByteArray} {wb wr wr' : World} (h : FillW G xs k wb wr) (hb : Below wr.heap.size wr wr') : FillW G xs k wb wr' := by
  obtain ⟨hc, hf⟩ := bcell hb
  exact ⟨fun j x hj hx => (hc _ _ h.lt).trans (h.done j x hj hx), fun j hj hx => (hc _ _ h.lt).trans (h.rest j hj hx), fun j => (hf _ _ h.lt).trans (h.fz j), Nat.lt_of_lt_of_le h.lt hb.size, h.le, h.below.trans (hb.mono h.below.size)⟩
theorem FillW.set {G k : Nat} {xs : List ByteArray} {wb wr : World} (h : FillW G xs k wb wr) {x : ByteArray} (hx : xs[k]? = some x) : FillW G xs (k + 1) wb (wr.setCell ⟨G, k, none⟩ (.string x)) := by
  have hk : k < xs.length := (List.getElem?_eq_some_iff.1 hx).1
  have c0 := h.rest k (Nat.le_refl _) hk
  refine ⟨fun j y hj hy => ?_, fun j hj hl => ?_, fun j => ?_, by simpa using h.lt, h.le, h.below.setCell h.le _⟩
  · by_cases e : j = k
    · subst e
      rw [hx] at hy
      cases hy
      simp [go_sem, c0]
    · have := h.done j y (by omega) hy
      have e2 : ¬ k = j := fun q => e q.symm
      simp [go_sem, this, e, e2]
  · have := h.rest j (by omega) hl
    have e : j ≠ k := by omega
    have e2 : ¬ k = j := by omega
    simp [go_sem, this, e, e2]
  · simp [go_sem, h.fz j]
theorem FillW.made {xs : List ByteArray} {n : Nat} (hn : xs.length = n) (w : World) : FillW w.heap.size xs 0 w (w.alloc (.cells (madeCells #[.string ⟨#[]⟩] n) 9)) := by
  subst hn
  refine ⟨fun j x hj _ => absurd hj (Nat.not_lt_zero _), fun j _ hl => ?_, fun j => by simp [go_sem], by simp, Nat.le_refl _, (Below.refl _ _).alloc (Nat.le_refl _) _⟩
  have : (madeCells #[Value.string ⟨#[]⟩] xs.length)[j]? = some (.string ⟨#[]⟩) := by
    unfold madeCells
    rw [Array.getElem?_map, Array.getElem?_range, if_pos hl]
    simp [Nat.mod_one]
  simp only [World.cell?, World.alloc]
  simp only [Array.getElem?_push_size, Option.isSome_none, Bool.false_eq_true, if_false]
  exact this
theorem FillW.all {G : Nat} {xs : List ByteArray} {k : Nat} {wb wr : World} (h : FillW G xs k wb wr) (hk : k = xs.length) : SlS wr (some ⟨G, 0, none⟩) xs := fun j x hx => ⟨G, 0, rfl, by
  have := h.done j x (by rw [hk]; exact (List.getElem?_eq_some_iff.1 hx).1) hx
  rw [Nat.zero_add]
  exact this⟩

theorem slS_four (w : World) (a b c d : ByteArray) : SlS (w.alloc (.cells #[.string a, .string b, .string c, .string d] 9)) (some ⟨w.heap.size, 0, none⟩) [a, b, c, d] := by
  intro k x hx
  match k, hx with
  | 0, hx =>
    obtain rfl : a = x := by simpa using hx
    exact ⟨_, 0, rfl, by simp [go_sem]⟩
  | 1, hx =>
    obtain rfl : b = x := by simpa using hx
    exact ⟨_, 0, rfl, by simp [go_sem]⟩
  | 2, hx =>
    obtain rfl : c = x := by simpa using hx
    exact ⟨_, 0, rfl, by simp [go_sem]⟩
  | 3, hx =>
    obtain rfl : d = x := by simpa using hx
    exact ⟨_, 0, rfl, by simp [go_sem]⟩
  | k + 4, hx => simp at hx

theorem join_le {c : UInt8} {M : Nat} : ∀ {xs : List (List UInt8)}, (∀ x ∈ xs, x.length ≤ M) → (Lib.join xs [c]).length ≤ xs.length * (M + 1)
  | [], _ => by simp [Lib.join_nil]
  | [x], h => by
    have := h x (by simp)
    rw [Lib.join_one]
    simp
    omega
  | x :: y :: r, h => by
    have h1 := h x (by simp)
    have h2 := join_le (c := c) (xs := y :: r) fun z hz => h z (List.mem_cons_of_mem _ hz)
    rw [joinC_cons]
    simp only [List.length_append, List.length_cons] at h2 ⊢
    have e : (r.length + 1 + 1) * (M + 1) = (r.length + 1) * (M + 1) + (M + 1) := by rw [Nat.add_mul]; omega
    omega

theorem fieldText_len {r : RecL} (h : r.Ok) {f : FieldL} (hf : f ∈ r.fs) : (fieldText f).length ≤ 21 := by
  obtain ⟨h1, h2⟩ := fields_bytes h hf
  unfold isNm at h1
  unfold isVl at h2
  simp only [Bool.and_eq_true, decide_eq_true_eq] at h1 h2
  have e1 := Lib.size_eq f.key
  have e2 := Lib.size_eq f.val
  unfold fieldText
  simp only [List.length_append, List.length_cons]
  omega
theorem fieldText_cat (f : FieldL) : f.key ++ ⟨#[61]⟩ ++ f.val = bs (fieldText f) := by
  apply data_inj
  rw [data_bs]
  simp [fieldText]
theorem field_sizes {r : RecL} (h : r.Ok) {f : FieldL} (hf : f ∈ r.fs) : f.key.size ≤ 8 ∧ f.val.size ≤ 12 := by
  obtain ⟨h1, h2⟩ := fields_bytes h hf
  unfold isNm at h1
  unfold isVl at h2
  simp only [Bool.and_eq_true, decide_eq_true_eq] at h1 h2
  exact ⟨h1.1.2, h2.1⟩
theorem ref_len {r : RecL} (h : r.Ok) {s : ByteArray} (hs : s ∈ r.rs) : s.data.toList.length ≤ 8 := by
  have h1 := refs_bytes h hs
  unfold isNm at h1
  simp only [Bool.and_eq_true, decide_eq_true_eq] at h1
  have e1 := Lib.size_eq s
  omega

/-- no text is long -/
theorem text_len {r : RecL} (h : r.Ok) : r.text.length ≤ 532 := by
  have h0 := join_le (c := 44) (M := 21) (xs := r.fs.map fieldText) fun x hx => by
    obtain ⟨f, hf, rfl⟩ := List.mem_map.1 hx
    exact fieldText_len h hf
  have h1 := join_le (c := 44) (M := 8) (xs := r.rs.map (fun s : ByteArray => s.data.toList)) fun x hx => by
    obtain ⟨f, hf, rfl⟩ := List.mem_map.1 hx
    exact ref_len h hf
  rw [List.length_map] at h0 h1
  have h2 := h.nf
  have h3 := h.nr
  have h4 := (itoa_cats h.c0 h.c1).2.2
  have h5 : r.id.data.toList.length ≤ 8 := by
    have := h.id
    unfold isNm at this
    simp only [Bool.and_eq_true, decide_eq_true_eq] at this
    have e1 := Lib.size_eq r.id
    omega
  unfold RecL.text
  have := join_le (c := 59) (M := 132) (xs := [r.id.data.toList, Lib.itoa r.cats, Lib.join (r.fs.map fieldText) [44], Lib.join (r.rs.map (fun s : ByteArray => s.data.toList)) [44]]) fun x hx => by
    simp only [List.mem_cons, List.mem_nil_iff, or_false] at hx
    rcases hx with rfl | rfl | rfl | rfl <;> omega
  simpa using this

set_option maxHeartbeats 4000000 in
theorem write_any (r : RecL) (p : At) (w : World) (hE : Env w) (hi : r.in_ p w) :
    Calls Tryz.prog 177 #[r.v p] w fun e w' => e = .returned (.tuple #[.string (wrS r), .int .i64 r.err]) ∧ Below w.heap.size w w' := by
  have HE := Lib.hid hE
  obtain ⟨fa, fc, ra, rc⟩ := p
  obtain ⟨i0, hi0, hz0, hz1, hz2⟩ := info_parts Tryz.infoStr
  have hA : Below w.heap.size w (w.alloc (.cells #[.string r.id, .int .i64 r.cats, .slice fa r.fs.length fc, .slice ra r.rs.length rc] 39)) := (Below.refl _ _).alloc (Nat.le_refl _) _
  have HI := Lib.hid (hi.below hA)
  obtain ⟨er, her⟩ : ∃ er, r.err = er := ⟨_, rfl⟩
  obtain ⟨S, hS⟩ : ∃ S, S = wrS r := ⟨_, rfl⟩
  rw [her, ← hS]
  have HER := Lib.hid her
  have HS := Lib.hid hS
  clear hE hi her hS
  show Calls Tryz.prog 177 #[.agg #[.string r.id, .int .i64 r.cats, .slice fa r.fs.length fc, .slice ra r.rs.length rc]] w _
  go_enter Tryz.func177, Tryz.ntmps177
  go_wp2_with fail
  refine (recCheck_is r ⟨fa, fc, ra, rc⟩ _ HI.out HER.out).mono ?_
  rintro e w1 ⟨rfl, hb1⟩
  have hB1 : Below w.heap.size w w1 := hA.trans (hb1.mono hA.size)
  have HI1 := Lib.hid (HI.out.below hb1)
  obtain ⟨hc1, hf1⟩ := bcell hb1
  have o0 : w1.cell? ⟨w.heap.size, 0, none⟩ = some (.string r.id) := by rw [hc1 _ _ (by simp)]; simp [go_sem]
  have o1 : w1.cell? ⟨w.heap.size, 1, none⟩ = some (.int .i64 r.cats) := by rw [hc1 _ _ (by simp)]; simp [go_sem]
  have o2 : w1.cell? ⟨w.heap.size, 2, none⟩ = some (.slice fa r.fs.length fc) := by rw [hc1 _ _ (by simp)]; simp [go_sem]
  have o3 : w1.cell? ⟨w.heap.size, 3, none⟩ = some (.slice ra r.rs.length rc) := by rw [hc1 _ _ (by simp)]; simp [go_sem]
  have HE1 := Lib.hid (HE.out.below hB1)
  clear hc1 hf1 hb1 hA HI HE
  by_cases he : er = 0
  · have hok : Hid r.Ok := r.err_ok.1 (HER.out.trans he)
    subst he
    obtain rfl : S = bs r.text := HS.out.trans (wrS_ok HER.out)
    obtain ⟨xs, hxs⟩ : ∃ xs, xs = r.fs.map (fun f => bs (fieldText f)) := ⟨_, rfl⟩
    have HX := Lib.hid hxs
    have hlx : xs.length = r.fs.length := by rw [hxs, List.length_map]
    have hn6 := hok.out.nf
    have hmk := run_make_row (P := Tryz.prog) 29 9 i0 (.string ⟨#[]⟩) Tryz.underlying29 hi0 hz0 hz1 rfl .i64 .i64 r.fs.length (by rw [hz2]; omega) (by omega) w1
    have hlt := cell_lt o0
    have HM := Lib.hid (FillW.made hlx w1)
    clear hxs
    go_wp2_with fail
    go_loopw [21] (fun i wr => ∃ k : Nat, k ≤ r.fs.length ∧ i = .int .i64 k ∧ Hid (FillW w1.heap.size xs k w1 wr)) (fun i _ => r.fs.length - (intOf i).toNat)
    case atStart => exact ⟨0, Nat.zero_le _, rfl, HM⟩
    case round =>
      obtain ⟨k, hk, rfl, HF⟩ := hrel
      by_cases hlt2 : k < r.fs.length
      · obtain ⟨f, hf⟩ : ∃ f, r.fs[k]? = some f := ⟨_, List.getElem?_eq_getElem hlt2⟩
        have hx : xs[k]? = some (bs (fieldText f)) := by rw [HX.out, List.getElem?_map, hf]; rfl
        have hB := HF.out.below
        obtain ⟨b, off, hfa, d0, d1⟩ := (HI1.out.hf.below hB) k f hf
        replace hfa : fa = some ⟨b, off, none⟩ := hfa
        subst hfa
        have hc0 := HF.out.rest k (Nat.le_refl _) (by omega)
        have hz0 := HF.out.fz k
        have hgl := HF.out.lt
        have hbl := cell_lt d0
        have HXX := Lib.hid hx
        have i1 : (0 : Int) ≤ (k : Int) := by omega
        obtain ⟨hk8, hv12⟩ := field_sizes hok.out (List.mem_of_getElem? hf)
        have hse : (⟨#[61]⟩ : ByteArray).size = 1 := rfl
        clear hx hf hB o0 o1 o2 o3 hmk
        go_wp2_with fail
        refine ⟨⟨k + 1, by omega, by go_num, ?_⟩, by simp [intOf]; omega⟩
        rw [fieldText_cat]
        exact (HF.out.set HXX.out).keep ((Below.refl _ _).alloc (Nat.le_refl _) _)
      · obtain rfl : k = r.fs.length := by omega
        have hall := HF.out.all hlx.symm
        have hB := HF.out.below
        have hB2 : Below w.heap.size w wr := hB1.trans (hB.mono hB1.size)
        obtain ⟨hc, _⟩ := bcell hB
        replace o0 := (hc _ 0 hlt).trans o0
        replace o1 := (hc _ 1 hlt).trans o1
        replace o2 := (hc _ 2 hlt).trans o2
        replace o3 := (hc _ 3 hlt).trans o3
        have HE2 := Lib.hid (HE1.out.below hB)
        have HI2 := Lib.hid (HI1.out.below hB)
        have hc3 := hok.out.c0
        have hc4 := hok.out.c1
        have HJ0 := Lib.hid (show ∀ W, Below wr.heap.size wr W → Calls Tryz.prog 107 #[.int .i64 r.cats] W fun e w' => e = .returned (.string (bs (Lib.itoa r.cats))) ∧ Below wr.heap.size wr w' from fun W hW => (itoa_any r.cats W (HE2.out.below hW) (by omega) (by omega)).mono fun e w' ⟨h1, h2⟩ => ⟨h1, hW.trans (h2.mono hW.size)⟩)
        have HJ1 := Lib.hid (show ∀ W, Below wr.heap.size wr W → Calls Tryz.prog 65 #[.slice (some ⟨w1.heap.size, 0, none⟩) r.fs.length r.fs.length, .string ⟨#[44]⟩] W fun e w' => e = .returned (.string (bs (Lib.join (r.fs.map fieldText) [44]))) ∧ Below wr.heap.size wr w' from fun W hW => by
          have hxm : xs.map (fun s : ByteArray => s.data.toList) = r.fs.map fieldText := by
            rw [HX.out, List.map_map]
            exact List.map_congr_left fun f _ => data_bs _
          have := join_any (some ⟨w1.heap.size, 0, none⟩) xs xs.length ⟨#[44]⟩ W (hall.below hW) (Nat.le_refl _) (by omega) (by
            rw [hxm]
            have := join_le (c := 44) (M := 21) (xs := r.fs.map fieldText) fun x hx => by
              obtain ⟨f, hf, rfl⟩ := List.mem_map.1 hx
              exact fieldText_len hok.out hf
            rw [List.length_map] at this
            show (Lib.join (r.fs.map fieldText) [44]).length ≤ _
            omega)
          rw [hxm, hlx] at this
          exact this.mono fun e w' ⟨h1, h2⟩ => ⟨h1, hW.trans (h2.mono hW.size)⟩)
        have HJ2 := Lib.hid (show ∀ W, Below wr.heap.size wr W → Calls Tryz.prog 65 #[.slice ra r.rs.length rc, .string ⟨#[44]⟩] W fun e w' => e = .returned (.string (bs (Lib.join (r.rs.map (fun s : ByteArray => s.data.toList)) [44]))) ∧ Below wr.heap.size wr w' from fun W hW => by
          have hn4 := hok.out.nr
          have := join_any ra r.rs rc ⟨#[44]⟩ W (HI2.out.hr.below hW) HI2.out.rl (by omega) (by
            have := join_le (c := 44) (M := 8) (xs := r.rs.map (fun s : ByteArray => s.data.toList)) fun x hx => by
              obtain ⟨f, hf, rfl⟩ := List.mem_map.1 hx
              exact ref_len hok.out hf
            rw [List.length_map] at this
            show (Lib.join (r.rs.map (fun s : ByteArray => s.data.toList)) [44]).length ≤ _
            omega)
          exact this.mono fun e w' ⟨h1, h2⟩ => ⟨h1, hW.trans (h2.mono hW.size)⟩)
        have hlr : w.heap.size < wr.heap.size := cell_lt o0
        have HO := Lib.hid (show ∀ W, Below wr.heap.size wr W → W.cell? ⟨w.heap.size, 0, none⟩ = some (.string r.id) ∧ W.cell? ⟨w.heap.size, 1, none⟩ = some (.int .i64 r.cats) ∧ W.cell? ⟨w.heap.size, 2, none⟩ = some (.slice fa r.fs.length fc) ∧ W.cell? ⟨w.heap.size, 3, none⟩ = some (.slice ra r.rs.length rc) from fun W hW => ⟨(hW.cell (p := ⟨_, 0, none⟩) hlr).trans o0, (hW.cell (p := ⟨_, 1, none⟩) hlr).trans o1, (hW.cell (p := ⟨_, 2, none⟩) hlr).trans o2, (hW.cell (p := ⟨_, 3, none⟩) hlr).trans o3⟩)
        have h0 : Below wr.heap.size wr wr.drew := (Below.refl _ _).drew
        have HJ3 := Lib.hid (show ∀ W b9, SlS W (some ⟨b9, 0, none⟩) [r.id, bs (Lib.itoa r.cats), bs (Lib.join (r.fs.map fieldText) [44]), bs (Lib.join (r.rs.map (fun s : ByteArray => s.data.toList)) [44])] → Below w.heap.size w W → Calls Tryz.prog 65 #[.slice (some ⟨b9, 0, none⟩) 4 4, .string ⟨#[59]⟩] W fun e w' => e = .returned (.string (bs r.text)) ∧ Below w.heap.size w w' from fun W b9 hsl hW => by
          have e : Lib.join (([r.id, bs (Lib.itoa r.cats), bs (Lib.join (r.fs.map fieldText) [44]), bs (Lib.join (r.rs.map (fun s : ByteArray => s.data.toList)) [44])] : List ByteArray).map (·.data.toList)) (⟨#[59]⟩ : ByteArray).data.toList = r.text := by
            unfold RecL.text
            simp only [List.map_cons, List.map_nil, data_bs]
          have := join_any (some ⟨b9, 0, none⟩) _ 4 ⟨#[59]⟩ W hsl (Nat.le_refl _) (by simp) (by
            rw [e]
            exact Nat.le_trans (text_len hok.out) (by omega))
          rw [e] at this
          exact this.mono fun e w' ⟨h1, h2⟩ => ⟨h1, hW.trans (h2.mono hW.size)⟩)
        clear hall hB hc HF HM hmk
        go_upto_region 10 with (fail)
        go_cut [8] from 36 to 47 (fun z wc => ∃ b9 : Nat, z = .slice (some ⟨b9, 0, none⟩) 4 4 ∧ Hid (SlS wc (some ⟨b9, 0, none⟩) [r.id, bs (Lib.itoa r.cats), bs (Lib.join (r.fs.map fieldText) [44]), bs (Lib.join (r.rs.map (fun s : ByteArray => s.data.toList)) [44])] ∧ Below w.heap.size w wc))
        case first =>
          go_region_with (first
            | (go_at_call 107
               refine (HJ0.out _ (by assumption)).mono ?_
               rintro e w5 ⟨rfl, hb5⟩
               obtain ⟨p0, p1, p2, p3⟩ := HO.out _ hb5)
            | (go_at_call 65
               refine Calls.mono (by with_reducible first | exact HJ1.out _ (by assumption) | exact HJ2.out _ (by assumption)) ?_
               rintro e w5 ⟨rfl, hb5⟩
               obtain ⟨p0, p1, p2, p3⟩ := HO.out _ hb5))
          all_goals
            go_wp2_with fail
            go_meet
          all_goals
            case rel => exact ⟨_, rfl, slS_four _ _ _ _ _, (hB2.trans (hb5.mono hB2.size)).alloc (hB2.trans (hb5.mono hB2.size)).size _⟩
        case rest =>
          obtain ⟨b9, rfl, HR⟩ := hcut
          clear o0 o1 o2 o3
          go_wp2_with fail
          refine (HJ3.out _ _ HR.out.1 HR.out.2).mono ?_
          rintro e w6 ⟨rfl, hb6⟩
          go_wp2_with fail
          go_ret2
          exact ⟨rfl, hb6⟩
  · have he1 : (er == 0) = false := by simpa using he
    obtain rfl : S = ⟨#[]⟩ := HS.out.trans (wrS_no fun e => he (HER.out.symm.trans e))
    have HB := Lib.hid hB1
    clear o0 o1 o2 o3 hB1
    go_wp2_with fail
    go_ret2
    exact ⟨rfl, HB.out⟩
end Go.Proofs.YtepenlciaanoeaaGreatDoor
