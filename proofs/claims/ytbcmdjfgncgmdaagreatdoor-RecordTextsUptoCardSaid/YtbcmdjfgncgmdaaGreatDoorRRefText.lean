/- The contract of wyref.Text: a record as a text, by the reference's road. -/
import Derived.Test.YtbcmdjfgncgmdaaGreatDoorRRefDec
import Derived.Test.YtbcmdjfgncgmdaaGreatDoorRWrite
import Derived.Test.YtbcmdjfgncgmdaaGreatDoorRNe
set_option linter.unusedVariables false
set_option linter.unusedSimpArgs false
set_option maxRecDepth 100000
namespace Go.Proofs.YtbcmdjfgncgmdaaGreatDoor
open Go.RowKit Go.Sort

theorem join_snoc (c : UInt8) (x : List UInt8) : ∀ {xs : List (List UInt8)}, xs ≠ [] → Lib.join (xs ++ [x]) [c] = Lib.join xs [c] ++ c :: x
  | [], h => absurd rfl h
  | [y], _ => by
    show Lib.join [y, x] [c] = _
    rw [joinC_cons, Lib.join_one, Lib.join_one]
  | y :: z :: r, _ => by
    have ih := join_snoc c x (xs := z :: r) (by simp)
    show Lib.join (y :: z :: (r ++ [x])) [c] = _
    rw [joinC_cons, joinC_cons]
    have e : z :: (r ++ [x]) = (z :: r) ++ [x] := rfl
    rw [e, ih]
    simp
/-- the text of the first k pieces -/
def joinK (xs : List (List UInt8)) (k : Nat) : List UInt8 := Lib.join (xs.take k) [44]
theorem joinK_first {xs : List (List UInt8)} {x : List UInt8} (h : xs[0]? = some x) : joinK xs 1 = x := by
  cases xs with
  | nil => simp at h
  | cons y r =>
    obtain rfl : y = x := by simpa using h
    show Lib.join [y] [44] = y
    rw [Lib.join_one]
theorem joinK_next {xs : List (List UInt8)} {x : List UInt8} {k : Nat} (h0 : 0 < k) (h : xs[k]? = some x) : joinK xs (k + 1) = joinK xs k ++ 44 :: x := by
  unfold joinK
  rw [List.take_add_one, h]
  exact join_snoc 44 x (fun e => by
    have h1 : k < xs.length := (List.getElem?_eq_some_iff.1 h).1
    have := congrArg List.length e
    rw [List.length_take] at this
    have h2 : min k xs.length = 0 := this
    omega)
theorem joinK_le {M : Nat} {xs : List (List UInt8)} (h : ∀ x ∈ xs, x.length ≤ M) (k : Nat) : (joinK xs k).length ≤ xs.length * (M + 1) := by
  have h1 := join_le (c := 44) (M := M) (xs := xs.take k) fun x hx => h x (List.mem_of_mem_take hx)
  have h2 : (xs.take k).length * (M + 1) ≤ xs.length * (M + 1) := Nat.mul_le_mul_right _ (by rw [List.length_take]; omega)
  unfold joinK
  omega

theorem add_run {a b c : ByteArray} (h : a.size + b.size ≤ 1000000) (e : a ++ b = c) (W : World) : (Op.stringOp .add a b).run Tryz.prog W = .ok (.string c) W := by
  rw [run_string_add_sum W a b (by omega), e]
theorem data_append (a b : ByteArray) : (a ++ b).data.toList = a.data.toList ++ b.data.toList := by simp

set_option maxHeartbeats 4000000 in
theorem refText_any (r : RecL) (p : At) (w : World) (hok : r.Ok) (hi : r.in_ p w) :
    Calls Tryz.prog 19 #[r.v p] w fun e w' => e = .returned (.string (bs r.text)) ∧ Below w.heap.size w w' := by
  have HOK := Lib.hid hok
  have hA := r.box_below p w
  have HI := Lib.hid hi
  obtain ⟨D, hD⟩ : ∃ D, D = bs (Lib.itoa r.cats) := ⟨_, rfl⟩
  have hds : D.size ≤ 3 := by
    rw [hD, bs_size]
    exact (itoa_cats hok.c0 hok.c1).2.2
  have hids : r.id.size ≤ 8 := by
    have := hok.id
    unfold isNm at this
    simp only [Bool.and_eq_true, decide_eq_true_eq] at this
    exact this.1.2
  have HD := Lib.hid (show ∀ W, Calls Tryz.prog 79 #[.int .i64 r.cats] W fun e w' => e = .returned (.string D) ∧ w' = W from fun W => (dec_is W (by have := hok.c0; have := hok.c1; omega) hD.symm).mono fun e w' ⟨h1, h2⟩ => ⟨h1, h2.symm⟩)
  have hse : (⟨#[59]⟩ : ByteArray).size = 1 := rfl
  obtain ⟨P0, hP0⟩ : ∃ P0, P0 = r.id.data.toList ++ 59 :: (Lib.itoa r.cats ++ [59]) := ⟨_, rfl⟩
  have hpl : P0.length ≤ 13 := by
    have h1 := Lib.size_eq r.id
    have h2 := (itoa_cats hok.c0 hok.c1).2.2
    rw [hP0]
    simp
    omega
  obtain ⟨T1, hT1⟩ : ∃ T1, T1 = r.id.data.toList ++ [59] := ⟨_, rfl⟩
  obtain ⟨T2, hT2⟩ : ∃ T2, T2 = T1 ++ Lib.itoa r.cats := ⟨_, rfl⟩
  have l0 : (Lib.itoa r.cats).length ≤ 3 := (itoa_cats hok.c0 hok.c1).2.2
  have l1 : T1.length ≤ 9 := by
    have := Lib.size_eq r.id
    rw [hT1, List.length_append]
    simp
    omega
  have l2 : T2.length ≤ 12 := by rw [hT2, List.length_append]; omega
  have a1 : ∀ W, (Op.stringOp .add r.id ⟨#[59]⟩).run Tryz.prog W = .ok (.string (bs T1)) W := add_run (by omega) (data_inj (by rw [data_append, data_bs, hT1]))
  have a2 : ∀ W, (Op.stringOp .add (bs T1) D).run Tryz.prog W = .ok (.string (bs T2)) W := add_run (by rw [bs_size]; omega) (by rw [hD, bs_append, hT2])
  have a3 : ∀ W, (Op.stringOp .add (bs T2) ⟨#[59]⟩).run Tryz.prog W = .ok (.string (bs P0)) W := add_run (by rw [bs_size]; omega) (by
    rw [hP0, hT2, hT1]
    apply data_inj
    rw [data_append, data_bs, data_bs]
    simp)
  clear hT1 hT2 l0 l1 l2
  have HP0 := Lib.hid hP0
  clear hok hi hD hP0
  go_enter Tryz.func19, Tryz.ntmps19
  go_wp2_with fail
  go_quiet ((go_at_call 79; exact Calls.quiet_of_same (HD.out _)))
  clear a1 a2 a3 HD hids hds hse
  have hW : Below w.heap.size w ((r.box p w).drewN nq) := hA.trans ((drewn_below _ _).mono hA.size)
  obtain ⟨xs, hxs⟩ : ∃ xs, xs = r.fs.map fieldText := ⟨_, rfl⟩
  have hxl : xs.length = r.fs.length := by rw [hxs, List.length_map]
  have hx21 : ∀ x ∈ xs, x.length ≤ 21 := fun x hx => by
    rw [hxs] at hx
    obtain ⟨f, hf, rfl⟩ := List.mem_map.1 hx
    exact fieldText_len HOK.out hf
  have hn6 := HOK.out.nf
  have HJ := Lib.hid (joinK_le hx21)
  have HX := Lib.hid hxs
  clear hxs hx21 hA
  go_wp2_with fail
  go_loopw [19, 3] (fun i v wr => ∃ k : Nat, k ≤ r.fs.length ∧ i = .int .i64 k ∧ v = .string (bs (P0 ++ joinK xs k)) ∧ Hid (Below w.heap.size w wr ∧ wr.cell? ⟨w.heap.size, 3, none⟩ = some (.slice p.ra r.rs.length p.rc))) (fun i _ _ => r.fs.length - (intOf i).toNat)
  case atStart => exact ⟨0, Nat.zero_le _, rfl, by
    show Value.string (bs P0) = .string (bs (P0 ++ []))
    rw [List.append_nil], hW, by simp [go_sem]⟩
  case round =>
    obtain ⟨k, hk, rfl, rfl, HB⟩ := hrel
    have hjk := HJ.out k
    have hjk1 := HJ.out (k + 1)
    obtain ⟨S0, hS0⟩ : ∃ S0, S0 = P0 ++ joinK xs k := ⟨_, rfl⟩
    rw [← hS0]
    have hl0 : S0.length ≤ 200 := by rw [hS0, List.length_append]; omega
    by_cases hlt : k < r.fs.length
    · obtain ⟨f, hf⟩ : ∃ f, r.fs[k]? = some f := ⟨_, List.getElem?_eq_getElem hlt⟩
      have hx : xs[k]? = some (fieldText f) := by rw [HX.out, List.getElem?_map, hf]; rfl
      obtain ⟨b, off, hfa, c1, c2⟩ := (HI.out.hf.below HB.out.1) k f hf
      obtain ⟨hk8, hv12⟩ := field_sizes HOK.out (List.mem_of_getElem? hf)
      obtain ⟨fa, fc, ra, rc⟩ := p
      replace hfa : fa = some ⟨b, off, none⟩ := hfa
      subst hfa
      have hbl := cell_lt c1
      obtain ⟨K1, hK1⟩ : ∃ K1, K1 = f.key.data.toList ++ [61] := ⟨_, rfl⟩
      obtain ⟨K2, hK2⟩ : ∃ K2, K2 = fieldText f := ⟨_, rfl⟩
      have hks := Lib.size_eq f.key
      have hvs := Lib.size_eq f.val
      have hl1 : K1.length ≤ 9 := by rw [hK1, List.length_append]; simp; omega
      have hl2 : K2.length ≤ 21 := hK2 ▸ fieldText_len HOK.out (List.mem_of_getElem? hf)
      have b1 : ∀ W, (Op.stringOp .add f.key ⟨#[61]⟩).run Tryz.prog W = .ok (.string (bs K1)) W := add_run (by show f.key.size + 1 ≤ _; omega) (data_inj (by rw [data_append, data_bs, hK1]))
      have b2 : ∀ W, (Op.stringOp .add (bs K1) f.val).run Tryz.prog W = .ok (.string (bs K2)) W := add_run (by rw [bs_size]; omega) (data_inj (by
        rw [data_append, data_bs, data_bs, hK1, hK2]
        unfold fieldText
        simp))
      obtain ⟨S1, hS1⟩ : ∃ S1, S1 = P0 ++ joinK xs (k + 1) := ⟨_, rfl⟩
      have HS1 := Lib.hid hS1
      have i1 : (0 : Int) ≤ (k : Int) := by omega
      by_cases h0 : k = 0
      · have h0' : ¬ (0 : Int) < (k : Int) := by omega
        have b3 : ∀ W, (Op.stringOp .add (bs S0) (bs K2)).run Tryz.prog W = .ok (.string (bs S1)) W := add_run (by rw [bs_size, bs_size]; omega) (by
          rw [bs_append, hS0, hS1, hK2]
          subst h0
          rw [joinK_first hx]
          show bs (P0 ++ [] ++ _) = _
          rw [List.append_nil])
        clear hS0 hS1 hK1 hK2 hf hx hjk hjk1 hks hvs h0
        go_wp2_with fail
        refine ⟨⟨k + 1, by omega, by go_num, by rw [HS1.out], ?_⟩, by simp [intOf]; omega⟩
        exact ⟨HB.out.1.alloc HB.out.1.size _, (Below.cell (p := ⟨_, 3, none⟩) ((Below.refl _ _).alloc (Nat.le_refl _) _) (cell_lt HB.out.2)).trans HB.out.2⟩
      · have h0' : (0 : Int) < (k : Int) := by omega
        obtain ⟨S2, hS2⟩ : ∃ S2, S2 = S0 ++ [44] := ⟨_, rfl⟩
        have hl3 : S2.length ≤ 201 := by rw [hS2, List.length_append]; simp; omega
        have b3 : ∀ W, (Op.stringOp .add (bs S0) ⟨#[44]⟩).run Tryz.prog W = .ok (.string (bs S2)) W := add_run (by rw [bs_size]; show S0.length + 1 ≤ _; omega) (data_inj (by rw [data_append, data_bs, data_bs, hS2]))
        have b4 : ∀ W, (Op.stringOp .add (bs S2) (bs K2)).run Tryz.prog W = .ok (.string (bs S1)) W := add_run (by rw [bs_size, bs_size]; omega) (by
          rw [bs_append, hS2, hS0, hS1, joinK_next (by omega) hx, hK2]
          simp)
        clear hS0 hS1 hS2 hK1 hK2 hf hx hjk hjk1 hks hvs
        go_wp2_with fail
        refine ⟨⟨k + 1, by omega, by go_num, by rw [HS1.out], ?_⟩, by simp [intOf]; omega⟩
        exact ⟨HB.out.1.alloc HB.out.1.size _, (Below.cell (p := ⟨_, 3, none⟩) ((Below.refl _ _).alloc (Nat.le_refl _) _) (cell_lt HB.out.2)).trans HB.out.2⟩
    · obtain rfl : k = r.fs.length := by omega
      have o3 := HB.out.2
      have hxn : joinK xs r.fs.length = Lib.join xs [44] := by
        unfold joinK
        rw [List.take_of_length_le (by omega)]
      obtain ⟨P1, hP1⟩ : ∃ P1, P1 = S0 ++ [59] := ⟨_, rfl⟩
      have hl1 : P1.length ≤ 201 := by rw [hP1, List.length_append]; simp; omega
      have b5 : ∀ W, (Op.stringOp .add (bs S0) ⟨#[59]⟩).run Tryz.prog W = .ok (.string (bs P1)) W := add_run (by rw [bs_size]; show S0.length + 1 ≤ _; omega) (data_inj (by rw [data_append, data_bs, data_bs, hP1]))
      have HP1 := Lib.hid (show P1 = P0 ++ Lib.join xs [44] ++ [59] by rw [hP1, hS0, hxn])
      obtain ⟨ys, hys⟩ : ∃ ys, ys = r.rs.map (fun s : ByteArray => s.data.toList) := ⟨_, rfl⟩
      have hyl : ys.length = r.rs.length := by rw [hys, List.length_map]
      have hy8 : ∀ y ∈ ys, y.length ≤ 8 := fun y hy => by
        rw [hys] at hy
        obtain ⟨s, hs, rfl⟩ := List.mem_map.1 hy
        exact ref_len HOK.out hs
      have hn4 := HOK.out.nr
      have HK := Lib.hid (joinK_le hy8)
      have HY := Lib.hid hys
      have HB1 := Lib.hid HB.out.1
      clear hP1 hS0 hxn hjk hjk1 hys hy8 HB HJ
      go_wp2_with fail
      go_loopw [42, 3] (fun i v wr' => ∃ k : Nat, k ≤ r.rs.length ∧ i = .int .i64 k ∧ v = .string (bs (P1 ++ joinK ys k)) ∧ Hid (wr' = wr)) (fun i _ _ => r.rs.length - (intOf i).toNat)
      case atStart => exact ⟨0, Nat.zero_le _, rfl, by
        show Value.string (bs P1) = .string (bs (P1 ++ []))
        rw [List.append_nil], rfl⟩
      case round =>
        obtain ⟨k, hk, rfl, rfl, HB⟩ := hrel
        obtain rfl := HB.out
        have hjk := HK.out k
        have hjk1 := HK.out (k + 1)
        obtain ⟨S2, hS2⟩ : ∃ S2, S2 = P1 ++ joinK ys k := ⟨_, rfl⟩
        rw [← hS2]
        have hl2 : S2.length ≤ 300 := by rw [hS2, List.length_append]; omega
        by_cases hlt : k < r.rs.length
        · obtain ⟨s, hs⟩ : ∃ s, r.rs[k]? = some s := ⟨_, List.getElem?_eq_getElem hlt⟩
          have hy : ys[k]? = some s.data.toList := by rw [HY.out, List.getElem?_map, hs]; rfl
          obtain ⟨b, off, hra, c1⟩ := (HI.out.hr.below HB1.out) k s hs
          have hsl := ref_len HOK.out (List.mem_of_getElem? hs)
          obtain ⟨fa, fc, ra, rc⟩ := p
          replace hra : ra = some ⟨b, off, none⟩ := hra
          subst hra
          have hbl := cell_lt c1
          have hss := Lib.size_eq s
          obtain ⟨S3, hS3⟩ : ∃ S3, S3 = P1 ++ joinK ys (k + 1) := ⟨_, rfl⟩
          have HS3 := Lib.hid hS3
          have i1 : (0 : Int) ≤ (k : Int) := by omega
          by_cases h0 : k = 0
          · have h0' : ¬ (0 : Int) < (k : Int) := by omega
            have b3 : ∀ W, (Op.stringOp .add (bs S2) s).run Tryz.prog W = .ok (.string (bs S3)) W := add_run (by rw [bs_size]; omega) (data_inj (by
              rw [data_append, data_bs, data_bs, hS2, hS3]
              subst h0
              rw [joinK_first hy]
              show P1 ++ [] ++ _ = _
              rw [List.append_nil]))
            clear hS2 hS3 hs hy hjk hjk1 hsl hss h0 b5 o3
            go_wp2_with fail
            exact ⟨⟨k + 1, by omega, by go_num, by rw [HS3.out], trivial⟩, by simp [intOf]; omega⟩
          · have h0' : (0 : Int) < (k : Int) := by omega
            obtain ⟨S4, hS4⟩ : ∃ S4, S4 = S2 ++ [44] := ⟨_, rfl⟩
            have hl3 : S4.length ≤ 301 := by rw [hS4, List.length_append]; simp; omega
            have b3 : ∀ W, (Op.stringOp .add (bs S2) ⟨#[44]⟩).run Tryz.prog W = .ok (.string (bs S4)) W := add_run (by rw [bs_size]; show S2.length + 1 ≤ _; omega) (data_inj (by rw [data_append, data_bs, data_bs, hS4]))
            have b4 : ∀ W, (Op.stringOp .add (bs S4) s).run Tryz.prog W = .ok (.string (bs S3)) W := add_run (by rw [bs_size]; omega) (data_inj (by
              rw [data_append, data_bs, data_bs, hS4, hS2, hS3, joinK_next (by omega) hy]
              simp))
            clear hS2 hS3 hS4 hs hy hjk hjk1 hsl hss b5 o3
            go_wp2_with fail
            exact ⟨⟨k + 1, by omega, by go_num, by rw [HS3.out], trivial⟩, by simp [intOf]; omega⟩
        · obtain rfl : k = r.rs.length := by omega
          have HEND := Lib.hid (show S2 = r.text by
            unfold RecL.text
            rw [joinC_cons, joinC_cons, joinC_cons, Lib.join_one, ← HX.out, ← HY.out, hS2, HP1.out, HP0.out]
            unfold joinK
            rw [List.take_of_length_le (by omega)]
            simp)
          clear hS2 hjk hjk1 b5 o3
          go_wp2_with fail
          go_ret
          exact ⟨by rw [← HEND.out]; rfl, HB1.out⟩
end Go.Proofs.YtbcmdjfgncgmdaaGreatDoor
