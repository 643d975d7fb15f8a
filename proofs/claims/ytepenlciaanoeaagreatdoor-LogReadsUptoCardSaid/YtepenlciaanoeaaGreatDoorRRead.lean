/- Contracts of record.readNumber, pieces, readFields and Read. -/
import Derived.Test.YtepenlciaanoeaaGreatDoorREnv
import Derived.Test.YtepenlciaanoeaaGreatDoorRCheck
set_option linter.unusedVariables false
set_option linter.unusedSimpArgs false
set_option maxRecDepth 100000
namespace Go.Proofs.YtepenlciaanoeaaGreatDoor
open Go.RowKit Go.Sort

theorem bs_eq {a : List UInt8} {s : ByteArray} : ((bs a).toList == s.toList) = decide (a = s.data.toList) := by
  rw [Lib.toList_data, Lib.toList_data, data_bs]
  rw [Bool.eq_iff_iff, beq_iff_eq, decide_eq_true_eq]
theorem size_len (s : ByteArray) : s.size = s.data.toList.length := Lib.size_eq s

set_option maxHeartbeats 1000000 in
theorem readNumber_any (s : ByteArray) (w : World) (hE : Env w) :
    Calls Tryz.prog 129 #[.string s] w fun e w' => e = .returned (.tuple #[.int .i64 ((numL s.data.toList).getD 0), .bool (numL s.data.toList).isSome]) ∧ Below w.heap.size w w' := by
  have HE := Lib.hid hE
  clear hE
  by_cases h9 : (9 : Int) < (s.size : Int)
  · have hn : numL s.data.toList = none := by
      unfold numL
      rw [if_neg (by rw [← size_len]; omega)]
    rw [hn]
    go_enter Tryz.func129, Tryz.ntmps129
    go_wp2_with fail
    go_ret2
    exact ⟨rfl, Below.refl _ _⟩
  · have hl : s.data.toList.length ≤ 9 := by rw [← size_len]; omega
    obtain ⟨N, hN⟩ : ∃ N, N = numL s.data.toList := ⟨_, rfl⟩
    rw [← hN]
    have HN := Lib.hid hN
    clear hN
    go_enter Tryz.func129, Tryz.ntmps129
    go_wp2_with fail
    refine (atoi_any s _ HE.out (by omega)).mono ?_
    rintro e w1 ⟨⟨v, hv⟩, hb1⟩
    have HE1 := Lib.hid (HE.out.below hb1)
    rcases hv with ⟨ha, rfl⟩ | ⟨ha, n, t, q, rfl⟩
    · obtain ⟨v0, v1⟩ := Lib.atoiAll_bounds ha
      have HA := Lib.hid ha
      clear ha
      by_cases he : Lib.itoa v = s.data.toList
      · have hN2 : N = some v := by
          rw [HN.out]
          unfold numL
          rw [if_pos hl, HA.out]
          show (if Lib.itoa v = s.data.toList then some v else none) = _
          rw [if_pos he]
        subst hN2
        have hbe : ((bs (Lib.itoa v)).toList == s.toList) = true := by rw [bs_eq, decide_eq_true he]
        have HEE := Lib.hid he
        clear he
        go_wp2_with fail
        refine (itoa_any v _ HE1.out v0 v1).mono ?_
        rintro e w2 ⟨rfl, hb2⟩
        go_wp2_with fail
        go_ret2
        exact ⟨rfl, hb1.trans (hb2.mono hb1.size)⟩
      · have hN2 : N = none := by
          rw [HN.out]
          unfold numL
          rw [if_pos hl, HA.out]
          show (if Lib.itoa v = s.data.toList then some v else none) = _
          rw [if_neg he]
        subst hN2
        have hbe : ((bs (Lib.itoa v)).toList == s.toList) = false := by rw [bs_eq, decide_eq_false he]
        have HEE := Lib.hid he
        clear he
        go_wp2_with fail
        refine (itoa_any v _ HE1.out v0 v1).mono ?_
        rintro e w2 ⟨rfl, hb2⟩
        go_wp2_with fail
        go_ret2
        exact ⟨rfl, hb1.trans (hb2.mono hb1.size)⟩
    · have hN2 : N = none := by
        rw [HN.out]
        unfold numL
        rw [if_pos hl]
        split
        · rename_i m hm
          exact absurd hm (ha m)
        · rfl
      subst hN2
      clear ha
      go_wp2_with fail
      go_ret2
      exact ⟨rfl, hb1⟩

set_option maxHeartbeats 1000000 in
theorem pieces_any (s : ByteArray) (w : World) (hE : Env w) (hs : s.size < 4294967281) :
    Calls Tryz.prog 131 #[.string s] w (NewL ((piecesC 44 s.data.toList).map bs) w) := by
  have HE := Lib.hid hE
  clear hE
  by_cases h0 : s.size = 0
  · have hd : s.data.toList = [] := List.eq_nil_of_length_eq_zero (by rw [← size_len]; exact h0)
    have e1 : s.toList = [] := by rw [Lib.toList_data]; exact hd
    have e2 : s.toList.isEmpty = true := by rw [e1]; rfl
    rw [hd]
    go_enter Tryz.func131, Tryz.ntmps131
    go_wp2_with fail
    go_ret
    exact ⟨none, 0, rfl, SlS.nil _ _, Nat.le_refl _, Nat.zero_le _, Below.refl _ _, fun b off e => by cases e⟩
  · have hd : s.data.toList ≠ [] := fun e => h0 (by rw [size_len, e]; rfl)
    have e1 : ¬ s.toList = [] := by rw [Lib.toList_data]; exact hd
    have e2 : s.toList.isEmpty = false := by rw [Lib.toList_data]; cases h : s.data.toList with
      | nil => exact absurd h hd
      | cons a l => rfl
    have hp : piecesC 44 s.data.toList = splitC 44 s.data.toList := by unfold piecesC; rw [if_neg hd]
    rw [hp]
    have HS := Lib.hid (split_any s 44 w HE.out hs)
    clear hd hp
    go_enter Tryz.func131, Tryz.ntmps131
    go_wp2_with fail
    refine HS.out.mono ?_
    rintro e w1 ⟨A, c, rfl, h1, h2, h3, h4, h5⟩
    have H1 := Lib.hid h1
    clear h1
    go_wp2_with fail
    go_ret
    exact ⟨A, c, by rw [List.length_map]; rfl, H1.out, h2, h3, h4, h5⟩

/-! ## fields -/

theorem fieldsL_snoc {l : List (List UInt8)} {fs : List FieldL} (h : fieldsL l = some fs) {x : List UInt8} (hx : (Lib.cut x [61]).2.2 = true) : fieldsL (l ++ [x]) = some (fs ++ [⟨bs (Lib.cut x [61]).1, bs (Lib.cut x [61]).2.1⟩]) := by
  induction l generalizing fs with
  | nil =>
    cases h
    rw [List.nil_append, fieldsL_cons x [] hx]
    rfl
  | cons y r ih =>
    cases hc : (Lib.cut y [61]).2.2 with
    | false =>
      rw [fieldsL_none y r hc] at h
      cases h
    | true =>
      rw [fieldsL_cons y r hc] at h
      obtain ⟨gs, hg, rfl⟩ := Option.map_eq_some_iff.1 h
      rw [List.cons_append, fieldsL_cons y _ hc, ih hg]
      rfl
theorem fieldsL_bad {l r : List (List UInt8)} {fs : List FieldL} (h : fieldsL l = some fs) {x : List UInt8} (hx : (Lib.cut x [61]).2.2 = false) : fieldsL (l ++ x :: r) = none := by
  induction l generalizing fs with
  | nil => rw [List.nil_append, fieldsL_none x r hx]
  | cons y l ih =>
    cases hc : (Lib.cut y [61]).2.2 with
    | false => rw [List.cons_append, fieldsL_none y _ hc]
    | true =>
      rw [fieldsL_cons y l hc] at h
      obtain ⟨gs, hg, rfl⟩ := Option.map_eq_some_iff.1 h
      rw [List.cons_append, fieldsL_cons y _ hc, ih hg]
      rfl
theorem fieldsL_length : ∀ {l : List (List UInt8)} {fs : List FieldL}, fieldsL l = some fs → fs.length = l.length := fun {l fs} h => by
  have := text_fieldsL h
  rw [← this]
  simp
theorem splitC_le {c : UInt8} : ∀ {l x : List UInt8}, x ∈ splitC c l → x.length ≤ l.length
  | [], x, h => by
    rw [splitC] at h
    rw [List.mem_singleton.1 h]
    exact Nat.le_refl _
  | b :: r, x, h => by
    unfold splitC at h
    split at h
    · rcases List.mem_cons.1 h with rfl | h
      · exact Nat.zero_le _
      · exact Nat.le_succ_of_le (splitC_le h)
    · split at h
      · rw [List.mem_singleton.1 h]
        simp
      · rename_i y ys hs
        rcases List.mem_cons.1 h with rfl | h
        · have := splitC_le (c := c) (l := r) (x := y) (by rw [hs]; simp)
          simp only [List.length_cons]
          omega
        · have := splitC_le (c := c) (l := r) (x := x) (by rw [hs]; exact List.mem_cons_of_mem _ h)
          simp only [List.length_cons]
          omega
theorem piecesC_le {c : UInt8} {l x : List UInt8} (h : x ∈ piecesC c l) : x.length ≤ l.length := by
  unfold piecesC at h
  split at h
  · cases h
  · exact splitC_le h
theorem piecesC_length (c : UInt8) (l : List UInt8) : (piecesC c l).length ≤ l.length + 1 := by
  unfold piecesC
  split
  · simp
  · rw [splitC_length]
    have := List.count_le_length (a := c) (l := l)
    omega

theorem cell_two (w : World) (f : FieldL) (t : TypeId) : ∀ j u, (cellsF [f])[j]? = some u → (w.alloc (.cells #[.string f.key, .string f.val] t)).cell? ((⟨w.heap.size, 0, none⟩ : Addr).add j) = some u := fun j u hu => by
  rw [addr_at]
  match j, hu with
  | 0, hu =>
    cases hu
    simp [go_sem]
  | 1, hu =>
    cases hu
    simp [go_sem]
  | j + 2, hu => simp [cellsF, FieldL.cells] at hu

def ReadFs (l : List (List UInt8)) (w : World) (e : Ending) (w' : World) : Prop :=
  ∃ (fs : List FieldL) (A : Option Addr) (c : Nat), e = .returned (.tuple #[.slice A fs.length c, .bool (fieldsL l).isSome]) ∧ (∀ gs, fieldsL l = some gs → fs = gs) ∧ SlF w' A fs ∧ fs.length ≤ c ∧ c ≤ maxLen ∧ Below w.heap.size w w' ∧ ∀ b off, A = some ⟨b, off, none⟩ → w.heap.size ≤ b ∧ b < w'.heap.size

set_option maxHeartbeats 2000000 in
theorem readFields_any (s : ByteArray) (w : World) (hE : Env w) (hs : s.size < 4294967281) :
    Calls Tryz.prog 130 #[.string s] w (ReadFs (piecesC 44 s.data.toList) w) := by
  obtain ⟨i0, hi, hz0, hz1, hz2⟩ := info_parts Tryz.infoField
  have HE := Lib.hid hE
  have hpl := piecesC_length 44 s.data.toList
  rw [← size_len] at hpl
  have HPL : Hid (∀ x ∈ piecesC 44 s.data.toList, x.length < 4294967281) := fun x hx => by
    have := piecesC_le hx
    rw [← size_len] at this
    omega
  obtain ⟨ps, hps⟩ : ∃ ps, ps = piecesC 44 s.data.toList := ⟨_, rfl⟩
  rw [← hps] at hpl HPL ⊢
  have HP := Lib.hid hps
  clear hE hps
  go_enter Tryz.func130, Tryz.ntmps130
  go_wp2_with fail
  refine (pieces_any s _ HE.out hs).mono ?_
  rintro e w1 ⟨B, c1, rfl, hsl, _, _, hb1, _⟩
  rw [← HP.out] at hsl ⊢
  have HSL := Lib.hid hsl
  have hn : (ps.map bs).length = ps.length := List.length_map ..
  rw [hn]
  clear hsl hn
  go_wp2_with fail
  go_loopw [13, 4] (fun i v wr => ∃ (k : Nat) (fs : List FieldL) (A : Option Addr) (c : Nat), k ≤ ps.length ∧ i = .int .i64 k ∧ v = .slice A fs.length c ∧ OwnF w1.heap.size wr (.slice A fs.length c) fs ∧ Hid (fieldsL (ps.take k) = some fs) ∧ Below w1.heap.size w1 wr) (fun i _ _ => ps.length - (intOf i).toNat)
  case atStart => exact ⟨0, [], none, 0, Nat.zero_le _, rfl, rfl, World.ownsRow_nil _ _ _ _, rfl, Below.refl _ _⟩
  case round =>
    obtain ⟨k, fs, A, c, hk, rfl, rfl, hO, HF, hB⟩ := hrel
    have hbw : Below w.heap.size w wr := hb1.trans (hB.mono hb1.size)
    by_cases hlt : k < ps.length
    · obtain ⟨x, hx⟩ : ∃ x, ps[k]? = some x := ⟨_, List.getElem?_eq_getElem hlt⟩
      obtain ⟨b, off, rfl, d0⟩ := (HSL.out.below hB) k (bs x) (by rw [List.getElem?_map, hx]; rfl)
      have hxl := HPL.out x (List.mem_of_getElem? hx)
      have HX := Lib.hid hx
      have i1 : (0 : Int) ≤ (k : Int) := by omega
      have hle := fieldsL_length HF.out
      rw [List.length_take] at hle
      have hfl : fs.length ≤ 4294967300 := by omega
      have HO := Lib.hid hO
      clear hx hO hle
      cases hc : (Lib.cut x [61]).2.2 with
      | false =>
        have HC := Lib.hid hc
        clear hc
        go_wp2_with fail
        refine (cut_any (bs x) 61 _ (HE.out.below hbw) (by rw [size_len, data_bs]; exact hxl)).mono ?_
        rintro e w2 ⟨rfl, hb2⟩
        rw [data_bs, HC.out]
        go_wp2_with fail
        go_ret2
        have hno : fieldsL ps = none := by
          have e1 : ps = ps.take k ++ x :: ps.drop (k + 1) := by
            conv => lhs; rw [← List.take_append_drop k ps]
            rw [List.drop_eq_getElem_cons hlt]
            have := HX.out
            rw [List.getElem?_eq_getElem hlt] at this
            rw [Option.some.inj this]
          rw [e1]
          exact fieldsL_bad HF.out HC.out
        refine ⟨[], none, 0, ?_, fun gs hg => ?_, SlF.nil _ _, Nat.le_refl _, Nat.zero_le _, hbw.trans (hb2.mono hbw.size), fun b off e => by cases e⟩
        · rw [hno]
          rfl
        · rw [hno] at hg
          cases hg
      | true =>
        have HC := Lib.hid hc
        clear hc
        obtain ⟨f, hf⟩ : ∃ f : FieldL, f = ⟨bs (Lib.cut x [61]).1, bs (Lib.cut x [61]).2.1⟩ := ⟨_, rfl⟩
        have HFF := Lib.hid hf
        have e1 : bs (Lib.cut x [61]).1 = f.key := by rw [hf]
        have e2 : bs (Lib.cut x [61]).2.1 = f.val := by rw [hf]
        have HE1 := Lib.hid e1
        have HE2 := Lib.hid e2
        clear hf e1 e2
        go_wp2_with fail
        refine (cut_any (bs x) 61 _ (HE.out.below hbw) (by rw [size_len, data_bs]; exact hxl)).mono ?_
        rintro e w2 ⟨rfl, hb2⟩
        rw [data_bs, HC.out, HE1.out, HE2.out]
        have hB2 := hB.trans (hb2.mono hB.size)
        have hbw2 := hbw.trans (hb2.mono hbw.size)
        have hO2 := HO.out.below hb2
        have hsz2 := hB2.size
        clear hb2
        go_wp2_with (at_builtin; refine wpList_append_own _ rfl _ _ 37 rfl w1.heap.size 41 i0 _ 2 32 Tryz.underlying37 hi hz0 hz1 hz2 rfl (by decide) _ _ _ rfl (hO2.alloc _) ⟨w2.heap.size, 0, none⟩ 1 1 (cellsF [f]) rfl rfl ?c1 (cellsF_one [f]) ?c3 ?c4 ?c5 ?_)
        case c1 => exact cell_two _ _ _
        case c3 => unfold maxLen; omega
        case c4 => omega
        case c5 => simp; omega
        intro v' w3 hown3 hg3 _
        have ho3 : OwnF w1.heap.size w3 v' (fs ++ [f]) := by
          unfold OwnF
          rw [cellsF_append, List.length_append]
          exact hown3
        obtain ⟨A3, c3, rfl⟩ := ho3.form
        have hB3 : Below w1.heap.size w1 w3 := (hB2.alloc hsz2 _).grown hg3 (by simp; omega) (fun j hj => (World.ownsRow.lt hO2 j hj).1)
        have HO3 := Lib.hid ho3
        have HSN := Lib.hid (show fieldsL (ps.take (k + 1)) = some (fs ++ [f]) by
          rw [List.take_add_one, HX.out, HFF.out]
          exact fieldsL_snoc HF.out HC.out)
        clear hown3 hg3 ho3 hO2
        go_wp2_with fail
        go_roundw
        case rel => exact ⟨k + 1, fs ++ [f], A3, c3, by omega, by go_num, rfl, HO3.out, HSN, hB3⟩
        case measure => simp [intOf]; omega
    · obtain rfl : k = ps.length := by omega
      have HF2 := HF.out
      rw [List.take_length] at HF2
      have HFF := Lib.hid HF2
      have HO := Lib.hid hO
      clear hO HF2
      go_wp2_with fail
      go_ret2
      have hsl := HO.out.sl
      refine ⟨fs, A, c, by rw [HFF.out]; rfl, fun gs hg => by rw [HFF.out] at hg; exact Option.some.inj hg, hsl.1, hsl.2.1, hsl.2.2, hbw, fun b off e => ?_⟩
      obtain ⟨x1, x2⟩ := World.ownsRow.lt HO.out b (by rw [e]; rfl)
      have := hb1.size
      omega

/-! ## Read -/

/-- a block that holds the zero record -/
structure ZeroBlk (b : Nat) (w : World) : Prop where
  c0 : w.cell? ⟨b, 0, none⟩ = some (.string ⟨#[]⟩)
  c1 : w.cell? ⟨b, 1, none⟩ = some (.int .i64 0)
  c2 : w.cell? ⟨b, 2, none⟩ = some (.slice none 0 0)
  c3 : w.cell? ⟨b, 3, none⟩ = some (.slice none 0 0)
  f0 : w.frozen? ⟨b, 0, none⟩ = false
  f1 : w.frozen? ⟨b, 1, none⟩ = false
  f2 : w.frozen? ⟨b, 2, none⟩ = false
  f3 : w.frozen? ⟨b, 3, none⟩ = false
theorem ZeroBlk.below {b : Nat} {w w' : World} (h : ZeroBlk b w) (hb : Below w.heap.size w w') : ZeroBlk b w' := by
  obtain ⟨hc, hf⟩ := bcell hb
  have hl := cell_lt h.c0
  exact ⟨(hc _ _ hl).trans h.c0, (hc _ _ hl).trans h.c1, (hc _ _ hl).trans h.c2, (hc _ _ hl).trans h.c3, (hf _ _ hl).trans h.f0, (hf _ _ hl).trans h.f1, (hf _ _ hl).trans h.f2, (hf _ _ hl).trans h.f3⟩
theorem ZeroBlk.made (w : World) : ZeroBlk w.heap.size (w.alloc (.cells #[.string ⟨#[]⟩, .int .i64 0, .slice none 0 0, .slice none 0 0] 39)) := by constructor <;> simp [go_sem]
theorem ZeroBlk.drawn {b : Nat} {w : World} (h : ZeroBlk b w) : ZeroBlk b w.drew := h.below ((Below.refl _ _).drew)
/-- the cells of a record -/
def RecBlk (P : RecL) (p : At) (b : Nat) (W : World) : Prop :=
  W.cell? ⟨b, 0, none⟩ = some (.string P.id) ∧ W.cell? ⟨b, 1, none⟩ = some (.int .i64 P.cats) ∧ W.cell? ⟨b, 2, none⟩ = some (.slice p.fa P.fs.length p.fc) ∧ W.cell? ⟨b, 3, none⟩ = some (.slice p.ra P.rs.length p.rc)
theorem RecBlk.below {P : RecL} {p : At} {b : Nat} {W W' : World} (h : RecBlk P p b W) (hB : Below W.heap.size W W') : RecBlk P p b W' := by
  obtain ⟨hc, _⟩ := bcell hB
  have hl := cell_lt h.1
  exact ⟨(hc _ _ hl).trans h.1, (hc _ _ hl).trans h.2.1, (hc _ _ hl).trans h.2.2.1, (hc _ _ hl).trans h.2.2.2⟩

/-- what is known where the record is put together -/
structure ReadEnd (R : RecL) (p : At) (w : World) (b : Nat) (W : World) : Prop where
  below : Below w.heap.size w W
  z : ZeroBlk w.heap.size W
  r : RecBlk R p b W
  i : R.in_ p W
  hb : w.heap.size < b
  n1 : ∀ b off, p.fa = some ⟨b, off, none⟩ → w.heap.size < b
  n2 : ∀ b off, p.ra = some ⟨b, off, none⟩ → w.heap.size < b
theorem ReadEnd.step {R : RecL} {p : At} {w W W' : World} {b : Nat} (h : ReadEnd R p w b W) (hB : Below W.heap.size W W') : ReadEnd R p w b W' := ⟨h.below.trans (hB.mono h.below.size), h.z.below hB, h.r.below hB, h.i.below hB, h.hb, h.n1, h.n2⟩
theorem readEnd_laid {R : RecL} {p : At} {w w4 w6 : World} (hB4 : Below w.heap.size w w4) (hz : ZeroBlk w.heap.size w4) (hk : Below w4.heap.size w4 w6) (hi : R.in_ p w6) (hm1 : ∀ b off, p.fa = some ⟨b, off, none⟩ → w.heap.size < b) (hm2 : ∀ b off, p.ra = some ⟨b, off, none⟩ → w.heap.size < b) :
    ReadEnd R p w w6.heap.size (w6.alloc (.cells #[.string R.id, .int .i64 R.cats, .slice p.fa R.fs.length p.fc, .slice p.ra R.rs.length p.rc] 39)) := by
  have hk2 := hk.alloc hk.size (.cells #[.string R.id, .int .i64 R.cats, .slice p.fa R.fs.length p.fc, .slice p.ra R.rs.length p.rc] 39)
  exact ⟨hB4.trans (hk2.mono hB4.size), hz.below hk2, ⟨by simp [go_sem], by simp [go_sem], by simp [go_sem], by simp [go_sem]⟩, hi.below ((Below.refl _ _).alloc (Nat.le_refl _) _), Nat.lt_of_lt_of_le (cell_lt hz.c0) hk.size, hm1, hm2⟩
theorem readEnd_stored {R : RecL} {p : At} {w w4 w6 : World} {bz : Nat} (hB4 : Below w.heap.size w w4) (hz : ZeroBlk w.heap.size w4) (hk : Below w4.heap.size w4 w6) (hi : R.in_ p w6) (hzz : ZeroBlk bz w6) (hbz : w4.heap.size ≤ bz) (hn1 : ∀ b off, p.fa = some ⟨b, off, none⟩ → b ≠ bz) (hn2 : ∀ b off, p.ra = some ⟨b, off, none⟩ → b ≠ bz) (hm1 : ∀ b off, p.fa = some ⟨b, off, none⟩ → w.heap.size < b) (hm2 : ∀ b off, p.ra = some ⟨b, off, none⟩ → w.heap.size < b) :
    ReadEnd R p w bz ((((w6.setCell ⟨bz, 0, none⟩ (.string R.id)).setCell ⟨bz, 1, none⟩ (.int .i64 R.cats)).setCell ⟨bz, 2, none⟩ (.slice p.fa R.fs.length p.fc)).setCell ⟨bz, 3, none⟩ (.slice p.ra R.rs.length p.rc)) := by
  have hk2 := (((hk.setCell (p := ⟨bz, 0, none⟩) hbz (.string R.id)).setCell (p := ⟨bz, 1, none⟩) hbz (.int .i64 R.cats)).setCell (p := ⟨bz, 2, none⟩) hbz (.slice p.fa R.fs.length p.fc)).setCell (p := ⟨bz, 3, none⟩) hbz (.slice p.ra R.rs.length p.rc)
  exact ⟨hB4.trans (hk2.mono hB4.size), hz.below hk2, ⟨by simp [go_sem, hzz.c0], by simp [go_sem, hzz.c1], by simp [go_sem, hzz.c2], by simp [go_sem, hzz.c3]⟩,
    ⟨(((hi.hf.far hn1 _).far hn1 _).far hn1 _).far hn1 _, (((hi.hr.far hn2 _).far hn2 _).far hn2 _).far hn2 _, hi.fl, hi.rl, hi.fm, hi.rm⟩, Nat.lt_of_lt_of_le (cell_lt hz.c0) hbz, hm1, hm2⟩

/-- .. new -/
def ReadNew (l : List UInt8) (w : World) (e : Ending) (w' : World) : Prop := ∃ p' : At, e = .returned (.tuple #[(rdRec l).v p', .int .i64 (rdErr l)]) ∧ (rdRec l).in_ p' w' ∧ Below w.heap.size w w' ∧ p'.from_ (w.heap.size + 1)
def ReadTo (l : List UInt8) (w : World) (e : Ending) (w' : World) : Prop := ∃ p' : At, e = .returned (.tuple #[(rdRec l).v p', .int .i64 (rdErr l)]) ∧ (rdRec l).in_ p' w' ∧ Below w.heap.size w w'

set_option maxHeartbeats 4000000 in
theorem read_new (s : ByteArray) (w : World) (hE : Env w) (hs : s.size < 4294967281) :
    Calls Tryz.prog 38 #[.string s] w (ReadNew s.data.toList w) := by
  have HE := Lib.hid hE
  obtain ⟨ps, hps⟩ : ∃ ps, ps = splitC 59 s.data.toList := ⟨_, rfl⟩
  have HPL : Hid (∀ x ∈ ps, (bs x).size < 4294967281) := fun x hx => by
    rw [hps] at hx
    have := splitC_le hx
    rw [size_len, data_bs]
    rw [← size_len] at this
    omega
  have hpl : ps.length ≤ 4294967300 := by
    rw [hps, splitC_length]
    have := List.count_le_length (a := (59 : UInt8)) (l := s.data.toList)
    rw [← size_len] at this
    omega
  have HP := Lib.hid hps
  have HS := Lib.hid (split_any s 59 (w.alloc (.cells #[.string ⟨#[]⟩, .int .i64 0, .slice none 0 0, .slice none 0 0] 39)) (hE.below ((Below.refl _ _).alloc (Nat.le_refl _) _)) hs)
  rw [← hps] at HS
  clear hE hps
  have hA : Below w.heap.size w (w.alloc (.cells #[.string ⟨#[]⟩, .int .i64 0, .slice none 0 0, .slice none 0 0] 39)) := (Below.refl _ _).alloc (Nat.le_refl _) _
  go_enter Tryz.func38, Tryz.ntmps38
  go_wp2_with fail
  refine HS.out.mono ?_
  rintro e w1 ⟨B, c1, rfl, hsl, hcl, hcm, hb1, hfr⟩
  have HSL := Lib.hid hsl
  have hB1 : Below w.heap.size w w1 := hA.trans (hb1.mono hA.size)
  obtain ⟨hc1, hf1⟩ := bcell hb1
  have o0 : w1.cell? ⟨w.heap.size, 0, none⟩ = some (.string ⟨#[]⟩) := by rw [hc1 _ _ (by simp)]; simp [go_sem]
  have o1 : w1.cell? ⟨w.heap.size, 1, none⟩ = some (.int .i64 0) := by rw [hc1 _ _ (by simp)]; simp [go_sem]
  have o2 : w1.cell? ⟨w.heap.size, 2, none⟩ = some (.slice none 0 0) := by rw [hc1 _ _ (by simp)]; simp [go_sem]
  have o3 : w1.cell? ⟨w.heap.size, 3, none⟩ = some (.slice none 0 0) := by rw [hc1 _ _ (by simp)]; simp [go_sem]
  have z0 : w1.frozen? ⟨w.heap.size, 0, none⟩ = false := by rw [hf1 _ _ (by simp)]; simp [go_sem]
  have z1 : w1.frozen? ⟨w.heap.size, 1, none⟩ = false := by rw [hf1 _ _ (by simp)]; simp [go_sem]
  have z2 : w1.frozen? ⟨w.heap.size, 2, none⟩ = false := by rw [hf1 _ _ (by simp)]; simp [go_sem]
  have z3 : w1.frozen? ⟨w.heap.size, 3, none⟩ = false := by rw [hf1 _ _ (by simp)]; simp [go_sem]
  have hw1 : w.heap.size < w1.heap.size := by have := hb1.size; simp at this; omega
  have hn : (ps.map bs).length = ps.length := List.length_map ..
  rw [hn]
  clear hn hc1 hf1 hsl hb1 hA
  by_cases h4 : ps.length = 4
  · obtain ⟨a, b, c, d, rfl⟩ : ∃ a b c d, ps = [a, b, c, d] := by
      match ps, h4 with
      | [a, b, c, d], _ => exact ⟨a, b, c, d, rfl⟩
    obtain ⟨g, off, rfl, d0⟩ := HSL.out 0 (bs a) rfl
    have d1 : w1.cell? ⟨g, off + 1, none⟩ = some (.string (bs b)) := by
      obtain ⟨_, _, e, h⟩ := HSL.out 1 (bs b) rfl
      cases e
      exact h
    have d2 : w1.cell? ⟨g, off + 2, none⟩ = some (.string (bs c)) := by
      obtain ⟨_, _, e, h⟩ := HSL.out 2 (bs c) rfl
      cases e
      exact h
    have d3 : w1.cell? ⟨g, off + 3, none⟩ = some (.string (bs d)) := by
      obtain ⟨_, _, e, h⟩ := HSL.out 3 (bs d) rfl
      cases e
      exact h
    rw [Nat.add_zero] at d0
    have hg1 := cell_lt d0
    have HZ1 : Hid (ZeroBlk w.heap.size w1) := ⟨o0, o1, o2, o3, z0, z1, z2, z3⟩
    have HE1 := Lib.hid (HE.out.below hB1)
    obtain ⟨N, hN⟩ : ∃ N, N = numL b := ⟨_, rfl⟩
    have HN := Lib.hid hN
    clear o0 o1 o2 o3 z0 z1 z2 z3 HS hN hfr HSL hcl
    go_wp2_with fail
    refine (readNumber_any (bs b) _ HE1.out).mono ?_
    rintro e w2 ⟨rfl, hb2⟩
    rw [data_bs, ← HN.out]
    have hB2 := hB1.trans (hb2.mono hB1.size)
    have HE2 := Lib.hid (HE1.out.below hb2)
    have HZ2 := Lib.hid (HZ1.out.below hb2)
    replace d0 := (hb2.cell (p := ⟨g, off, none⟩) hg1).trans d0
    replace d2 := (hb2.cell (p := ⟨g, off + 2, none⟩) hg1).trans d2
    replace d3 := (hb2.cell (p := ⟨g, off + 3, none⟩) hg1).trans d3
    have hg2 := cell_lt d0
    clear d1 hb2 HZ1 HE1 hg1
    go_wp2_with fail
    refine (readFields_any (bs c) _ HE2.out (HPL.out c (by simp))).mono ?_
    rintro e w3 ⟨fs, A, cc, rfl, hfs, hsf, hlf, hmf, hb3, hAl⟩
    rw [data_bs] at hfs ⊢
    have hB3 := hB2.trans (hb3.mono hB2.size)
    have HE3 := Lib.hid (HE2.out.below hb3)
    have HZ3 := Lib.hid (HZ2.out.below hb3)
    replace d0 := (hb3.cell (p := ⟨g, off, none⟩) hg2).trans d0
    replace d3 := (hb3.cell (p := ⟨g, off + 3, none⟩) hg2).trans d3
    have HSF := Lib.hid hsf
    have hw2 : w.heap.size < w2.heap.size := cell_lt HZ2.out.c0
    clear d2 hb3 HZ2 HE2 hg2 hsf
    obtain ⟨F, hF⟩ : ∃ F, F = fieldsL (piecesC 44 c) := ⟨_, rfl⟩
    have HF := Lib.hid hF
    rw [← hF] at hfs ⊢
    clear hF
    by_cases hok : N.isSome = true ∧ F.isSome = true
    · obtain ⟨n, rfl⟩ := Option.isSome_iff_exists.1 hok.1
      obtain ⟨gs, rfl⟩ := Option.isSome_iff_exists.1 hok.2
      obtain rfl := hfs gs rfl
      obtain ⟨rs, hrs⟩ : ∃ rs, rs = (piecesC 44 d).map bs := ⟨_, rfl⟩
      have HRL : Hid (recL s.data.toList = some ⟨bs a, n, fs, rs⟩) := by
        show recL s.data.toList = _
        unfold recL
        rw [← HP.out]
        show (match numL b, fieldsL (piecesC 44 c) with
          | some n, some fs => some (⟨bs a, n, fs, (piecesC 44 d).map bs⟩ : RecL)
          | _, _ => none) = _
        rw [← HN.out, ← HF.out, hrs]
      have HPC := Lib.hid (show ∀ W, Below w3.heap.size w3 W → Calls Tryz.prog 131 #[.string (bs d)] W fun e w' => ∃ A' c', e = .returned (.slice A' rs.length c') ∧ SlS w' A' rs ∧ rs.length ≤ c' ∧ c' ≤ maxLen ∧ Below w3.heap.size w3 w' ∧ Below W.heap.size W w' ∧ ∀ b off, A' = some ⟨b, off, none⟩ → W.heap.size ≤ b from fun W hW => by
        have h := pieces_any (bs d) W (HE3.out.below hW) (HPL.out d (by simp))
        rw [data_bs, ← hrs] at h
        refine h.mono ?_
        rintro e w' ⟨A', c', rfl, h1, h2, h3, h4, h5⟩
        exact ⟨A', c', rfl, h1, h2, h3, hW.trans (h4.mono hW.size), h4, h5⟩)
      have hgl := cell_lt d0
      have hw3 : w.heap.size < w3.heap.size := cell_lt HZ3.out.c0
      have hfar1 : ∀ b off, A = some ⟨b, off, none⟩ → w.heap.size < b := fun b off e => by
        have := (hAl b off e).1
        omega
      clear hrs hfs hok
      go_upto_region 8 with (fail)
      go_cut [9] from 38 to 47 (fun z wc => ∃ (p : At) (b9 : Nat), z = .pointer (some ⟨b9, 0, none⟩) ∧ Hid (ReadEnd ⟨bs a, n, fs, rs⟩ p w b9 wc))
      case first =>
        go_region_with (first
          | (go_at_call 131
             refine (HPC.out w3.drew ((Below.refl _ _).drew)).mono ?_
             rintro e w5 ⟨A', c', rfl, hs5, hl5, hm5, hb35, hb5, hA5⟩
             have e0 := (hb35.cell (p := ⟨g, off, none⟩) hgl).trans d0
             have hg5 := Nat.lt_of_lt_of_le hgl hb35.size
             have hfar2 : ∀ b off, A' = some ⟨b, off, none⟩ → w.heap.size < b := fun b off e => by have := hA5 b off e; simp at this; omega)
          | (go_at_call 131
             refine (HPC.out (w3.alloc (.cells #[.string ⟨#[]⟩, .int .i64 0, .slice none 0 0, .slice none 0 0] 39)).drew (((Below.refl _ _).alloc (Nat.le_refl _) _).drew)).mono ?_
             rintro e w5 ⟨A', c', rfl, hs5, hl5, hm5, hb35, hb5, hA5⟩
             have e0 := (hb35.cell (p := ⟨g, off, none⟩) hgl).trans d0
             have hg5 := Nat.lt_of_lt_of_le hgl hb35.size
             have hfar2 : ∀ b off, A' = some ⟨b, off, none⟩ → w.heap.size < b := fun b off e => by have := hA5 b off e; simp at this; omega
             have hz5 : ZeroBlk w3.heap.size w5 := ((ZeroBlk.made w3).drawn).below hb5
             obtain ⟨v0, v1, v2, v3, v4, v5, v6, v7⟩ := id hz5))
        all_goals
          go_wp2_with fail
          go_meet
        all_goals
          case rel => first
            | exact ⟨⟨A, cc, A', c'⟩, _, rfl, readEnd_laid (R := ⟨bs a, n, fs, rs⟩) (p := ⟨A, cc, A', c'⟩) hB3 HZ3.out hb35 ⟨HSF.out.below hb35, hs5, hlf, hl5, hmf, hm5⟩ hfar1 hfar2⟩
            | exact ⟨⟨A, cc, A', c'⟩, _, rfl, readEnd_stored (R := ⟨bs a, n, fs, rs⟩) (p := ⟨A, cc, A', c'⟩) hB3 HZ3.out hb35 ⟨HSF.out.below hb35, hs5, hlf, hl5, hmf, hm5⟩ hz5 (Nat.le_refl _) (fun b off e => by have := (hAl b off e).2; omega) (fun b off e => by have := hA5 b off e; simp at this; omega) hfar1 hfar2⟩
      case rest =>
        obtain ⟨p, b9, rfl, HR⟩ := hcut
        obtain ⟨R, hRe⟩ : ∃ R, R = (⟨bs a, n, fs, rs⟩ : RecL) := ⟨_, rfl⟩
        rw [← hRe] at HR HRL
        obtain ⟨r0, r1, r2, r3⟩ := HR.out.r
        have hbl := cell_lt r0
        have hbn := HR.out.hb
        obtain ⟨er, her⟩ : ∃ er, R.err = er := ⟨_, rfl⟩
        have HER := Lib.hid her
        clear hRe her d0 d3 hgl hAl hB3 hB2 hB1
        go_wp2_with fail
        refine (recCheck_is R p _ HR.out.i HER.out).mono ?_
        rintro e w7 ⟨rfl, hb7⟩
        have HR7 := Lib.hid (HR.out.step hb7)
        obtain ⟨o0, o1, o2, o3, z0, z1, z2, z3⟩ := HR7.out.z
        obtain ⟨s0, s1, s2, s3⟩ := HR7.out.r
        clear r0 r1 r2 r3 hbl
        have hbw := HR7.out.below
        have h2 : w.heap.size ≤ w.heap.size := Nat.le_refl _
        by_cases he0 : er = 0
        · have hr : rdRec s.data.toList = R ∧ rdErr s.data.toList = 0 := by
            unfold rdRec rdErr
            rw [HRL.out]
            show (if R.err = 0 then R else RecL.zero) = R ∧ R.err = 0
            rw [HER.out, if_pos he0]
            exact ⟨rfl, he0⟩
          have HRR := Lib.hid hr
          subst he0
          clear hr hbw
          go_wp2_with fail
          refine bodyPost_ret (v := .tuple #[R.v p, .int .i64 0]) (by simp [results, Tryz.results38, go_sem, o0, o1, o2, o3, z0, z1, z2, z3]) rfl ?_
          unfold ReadNew
          rw [HRR.out.1, HRR.out.2]
          have hi := HR7.out.i
          have hm1 : ∀ b off, p.fa = some ⟨b, off, none⟩ → b ≠ w.heap.size := fun b off e => Nat.ne_of_gt (HR7.out.n1 b off e)
          have hm2 : ∀ b off, p.ra = some ⟨b, off, none⟩ → b ≠ w.heap.size := fun b off e => Nat.ne_of_gt (HR7.out.n2 b off e)
          exact ⟨p, rfl, ⟨(((hi.hf.far hm1 _).far hm1 _).far hm1 _).far hm1 _, (((hi.hr.far hm2 _).far hm2 _).far hm2 _).far hm2 _, hi.fl, hi.rl, hi.fm, hi.rm⟩, (((HR7.out.below.setCell h2 _).setCell h2 _).setCell h2 _).setCell h2 _, fun b off e => HR7.out.n1 b off e, fun b off e => HR7.out.n2 b off e⟩
        · have hr : rdRec s.data.toList = RecL.zero ∧ rdErr s.data.toList = er := by
            unfold rdRec rdErr
            rw [HRL.out]
            show (if R.err = 0 then R else RecL.zero) = RecL.zero ∧ R.err = er
            rw [HER.out, if_neg he0]
            exact ⟨rfl, rfl⟩
          have HRR := Lib.hid hr
          have he1 : (er == 0) = false := by simpa using he0
          have HBW := Lib.hid hbw
          clear hr hbw
          go_wp2_with fail
          refine bodyPost_ret (v := .tuple #[RecL.zero.v At.none, .int .i64 er]) (by simp [results, Tryz.results38, go_sem, o0, o1, o2, o3, z0, z1, z2, z3, RecL.zero, At.none]) rfl ?_
          unfold ReadNew
          rw [HRR.out.1, HRR.out.2]
          exact ⟨At.none, rfl, zero_in _, (((HBW.out.setCell h2 _).setCell h2 _).setCell h2 _).setCell h2 _, At.none_from _⟩
    · have hr : rdRec s.data.toList = RecL.zero ∧ rdErr s.data.toList = 10 := by
        have e : recL s.data.toList = none := by
          unfold recL
          rw [← HP.out]
          show (match numL b, fieldsL (piecesC 44 c) with
            | some n, some fs => some (⟨bs a, n, fs, (piecesC 44 d).map bs⟩ : RecL)
            | _, _ => none) = none
          rw [← HN.out, ← HF.out]
          cases N with
          | none => rfl
          | some n =>
            cases F with
            | none => rfl
            | some f => exact absurd ⟨rfl, rfl⟩ hok
        unfold rdRec rdErr
        rw [e]
        exact ⟨rfl, rfl⟩
      have HR := Lib.hid hr
      have HC := Lib.hid hB3
      obtain ⟨o0, o1, o2, o3, z0, z1, z2, z3⟩ := HZ3.out
      clear hr d0 d3 hB3 hB2 hB1
      cases hN2 : N.isSome with
      | false =>
        obtain rfl : N = none := by cases N with | none => rfl | some n => cases hN2
        clear hok hfs
        go_wp2_with fail
        refine bodyPost_ret (v := .tuple #[RecL.zero.v At.none, .int .i64 10]) (by simp [results, Tryz.results38, go_sem, o0, o1, o2, o3, z0, z1, z2, z3, RecL.zero, At.none]) rfl ?_
        unfold ReadNew
        rw [HR.out.1, HR.out.2]
        have h2 : w.heap.size ≤ w.heap.size := Nat.le_refl _
        exact ⟨At.none, rfl, zero_in _, (((HC.out.setCell h2 _).setCell h2 _).setCell h2 _).setCell h2 _, At.none_from _⟩
      | true =>
        have hF2 : F.isSome = false := by
          cases h : F.isSome with
          | false => rfl
          | true => exact absurd ⟨hN2, h⟩ hok
        obtain rfl : F = none := by cases F with | none => rfl | some n => cases hF2
        obtain ⟨n, rfl⟩ := Option.isSome_iff_exists.1 hN2
        clear hok hfs hN2 hF2
        go_wp2_with fail
        refine bodyPost_ret (v := .tuple #[RecL.zero.v At.none, .int .i64 10]) (by simp [results, Tryz.results38, go_sem, o0, o1, o2, o3, z0, z1, z2, z3, RecL.zero, At.none]) rfl ?_
        unfold ReadNew
        rw [HR.out.1, HR.out.2]
        have h2 : w.heap.size ≤ w.heap.size := Nat.le_refl _
        exact ⟨At.none, rfl, zero_in _, (((HC.out.setCell h2 _).setCell h2 _).setCell h2 _).setCell h2 _, At.none_from _⟩
  · have hr : rdRec s.data.toList = RecL.zero ∧ rdErr s.data.toList = 10 := by
      have e : recL s.data.toList = none := by
        unfold recL
        rw [← HP.out]
        split
        · exact absurd rfl h4
        · rfl
      unfold rdRec rdErr
      rw [e]
      exact ⟨rfl, rfl⟩
    have HR := Lib.hid hr
    have h5 : ((ps.length : Int) == 4) = false := by simp; omega
    have h6 : ¬ (ps.length : Int) = 4 := by omega
    clear hr h4
    go_wp2_with fail
    refine bodyPost_ret (v := .tuple #[RecL.zero.v At.none, .int .i64 10]) (by simp [results, Tryz.results38, go_sem, o0, o1, o2, o3, z0, z1, z2, z3, RecL.zero, At.none]) rfl ?_
    unfold ReadNew
    rw [HR.out.1, HR.out.2]
    have h2 : w.heap.size ≤ w.heap.size := Nat.le_refl _
    exact ⟨At.none, rfl, zero_in _, (((hB1.setCell h2 _).setCell h2 _).setCell h2 _).setCell h2 _, At.none_from _⟩
theorem read_any (s : ByteArray) (w : World) (hE : Env w) (hs : s.size < 4294967281) :
    Calls Tryz.prog 38 #[.string s] w (ReadTo s.data.toList w) := (read_new s w hE hs).mono fun e w' ⟨p', h1, h2, h3, _⟩ => ⟨p', h1, h2, h3⟩
end Go.Proofs.YtepenlciaanoeaaGreatDoor
