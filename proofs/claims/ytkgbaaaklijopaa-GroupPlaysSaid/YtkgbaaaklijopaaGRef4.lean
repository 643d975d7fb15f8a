/- What becomes of the document's answer for a group: Take. -/
import Derived.Test.YtkgbaaaklijopaaGRef3
import Derived.Test.YtkgbaaaklijopaaGTake2
set_option linter.unusedVariables false
set_option linter.unusedSimpArgs false
set_option maxRecDepth 100000
namespace Go.Proofs.Ytkgbaaaklijopaa
open Go.RowKit Go.Sort

/-! ## entry by entry -/
theorem takeL_end {L l : List ByteArray} {f j : Nat} {x : ByteArray} (hx : l[j]? = some x) (h : L.length ≤ f + j) (hf : f ≤ L.length) : takeL L (l.take (j + 1)) f = takeL L (l.take j) f ++ [x] := by
  have hj := (List.getElem?_eq_some_iff.1 hx).1
  unfold takeL thereN
  rw [List.take_add_one, hx, List.length_append, List.length_take]
  simp only [Option.toList_some, List.length_singleton]
  rw [Nat.min_eq_left (by omega : L.length - f ≤ min j l.length + 1), Nat.min_eq_left (by omega : L.length - f ≤ min j l.length), List.drop_append, List.append_assoc]
  congr 2
  rw [List.length_take, Nat.sub_eq_zero_of_le (by omega)]
  rfl
theorem takeL_in {L l : List ByteArray} {f j : Nat} (h : f + j ≤ L.length) : takeL L (l.take j) f = L := by
  unfold takeL thereN
  rw [List.length_take, List.drop_of_length_le (by rw [List.length_take]; omega), List.append_nil]
theorem agree_end {L l : List ByteArray} {f : Nat} (h : ∀ j, j < l.length → f + j < L.length → L[f + j]? = l[j]?) : (L.drop f).take (thereN L l f) = l.take (thereN L l f) := by
  apply List.ext_getElem?
  intro j
  rw [List.getElem?_take, List.getElem?_take]
  split
  · rename_i hj
    unfold thereN at hj
    rw [List.getElem?_drop]
    exact h j (by omega) (by omega)
  · rfl
theorem agree_not {L l : List ByteArray} {f j : Nat} (hj : j < l.length) (hf : f + j < L.length) (hne : L[f + j]? ≠ l[j]?) : (L.drop f).take (thereN L l f) ≠ l.take (thereN L l f) := fun e => by
  have h1 : ((L.drop f).take (thereN L l f))[j]? = (l.take (thereN L l f))[j]? := by rw [e]
  have hK : j < thereN L l f := by unfold thereN; omega
  rw [List.getElem?_take, List.getElem?_take, if_pos hK, if_pos hK, List.getElem?_drop] at h1
  exact hne h1

section
variable {w : World} {O : Nat → Prop} {S p h k : Nat} {X : GrpX} {A : Nat → Option Addr} {C : Nat → Nat}
def RTakeTo (O : Nat → Prop) (S p h k : Nat) (X : GrpX) (j : Nat) (l : List ByteArray) (f : Int) (er : Int) (w : World) (e : Ending) (w' : World) : Prop :=
  (er ≠ 0 ∧ e = .returned (.tuple #[.int .i64 0, .int .i64 er]) ∧ Below w.heap.size w w') ∨
  (er = 0 ∧ e = .returned (.tuple #[.int .i64 ((takeL (X.L (j + 1)) l f.toNat).length : Int), .int .i64 0]) ∧ RefTo O S p h k (X.setL (j + 1) (takeL (X.L (j + 1)) l f.toNat)) w w')
theorem RefA.take_none (r : RefA w O S p h k X A C) (hn : X.n ≤ 4) {i f : Int} (hi : i < 1 ∨ (X.n : Int) < i) {a : Option Addr} {m c : Nat} :
    Calls Try.prog 20 #[ptr p, .int .i64 i, .int .i64 f, .slice a m c] w fun e w' => e = .returned (.tuple #[.int .i64 0, .int .i64 4]) ∧ w' = w := by
  have HI := Lib.hid (r.is_no hn hi)
  clear r hi
  go_enter Try.func20, Try.ntmps20
  go_wp2_with fail
  refine HI.out.mono ?_
  rintro e w' ⟨rfl, rfl⟩
  go_wp2_with fail
  go_ret2
  exact ⟨rfl, rfl⟩
set_option maxHeartbeats 4000000 in
theorem RefA.take_any {j : Nat} (r : RefA w O S p h k X A C) (hn : X.n ≤ 4) (h60 : (X.L (j + 1)).length ≤ 60) {i f er : Int} (hi : i = ((j + 1 : Nat) : Int)) (hj : j < X.n) {a : Option Addr} {l : List ByteArray} {m c : Nat} (hl : SlS w a l) (hm : l.length = m) (hmc : m ≤ c) (he : takeE (X.L (j + 1)) l f = er) (hO : ∀ z, O z → z < w.heap.size) :
    Calls Try.prog 20 #[ptr p, .int .i64 i, .int .i64 f, .slice a m c] w (RTakeTo O S p h k X j l f er w) := by
  have HI := Lib.hid (r.is_yes hn hi hj)
  have c0 := r.c0
  have cj := r.cl (j + 1) hj
  obtain ⟨s1, s2⟩ := r.sl (j + 1) hj
  have fh := r.fh (j + 1)
  have lh := r.lh
  have lp := r.lp
  have HR := Lib.hid r
  obtain ⟨L, hL⟩ : ∃ L, X.L (j + 1) = L := ⟨_, rfl⟩
  obtain ⟨n, hn2⟩ : ∃ n, L.length = n := ⟨_, rfl⟩
  rw [hL, hn2] at cj s2
  rw [hL] at s1 he h60
  rw [hn2] at h60
  have HC := Lib.hid (cloneS_any (A (j + 1)) L (C (j + 1)) w s1 (by omega))
  have HHL := Lib.hid hL
  have HN2 := Lib.hid hn2
  have HJ := Lib.hid hj
  have HS := Lib.hid hl
  have HMM := Lib.hid hm
  have HE := Lib.hid he
  have HOO := Lib.hid hO
  generalize A (j + 1) = aj at cj HC
  generalize C (j + 1) = kj at cj HC
  rw [hn2] at HC
  obtain ⟨nm, hnm⟩ : ∃ nm, X.n + 1 = nm := ⟨_, rfl⟩
  rw [hnm] at c0
  obtain ⟨j1, hj1⟩ : ∃ j1, j1 = j + 1 := ⟨_, rfl⟩
  rw [← hj1] at cj hi fh
  have HJ1 := Lib.hid hj1
  have i2 : (j1 : Int) < (nm : Int) := by omega
  have i3 : (0 : Int) ≤ (j1 : Int) := by omega
  subst hi
  unfold takeE at he
  rw [hm, hn2] at he
  clear r s1 s2 hL hn2 hj hl hm hO hnm hj1
  by_cases h0 : f < 0
  · rw [if_pos (.inl h0)] at he
    clear hmc
    go_enter Try.func20, Try.ntmps20
    go_wp2_with fail
    refine HI.out.mono ?_
    rintro e w' ⟨rfl, rfl⟩
    go_wp2_with fail
    go_ret2
    exact .inl ⟨by omega, by rw [← he]; rfl, Below.refl _ _⟩
  by_cases h1 : 60 < m
  · rw [if_pos (.inr h1)] at he
    have i4 : (60 : Int) < (m : Int) := by omega
    clear hmc h1
    go_enter Try.func20, Try.ntmps20
    go_wp2_with fail
    refine HI.out.mono ?_
    rintro e w' ⟨rfl, rfl⟩
    go_wp2_with fail
    go_ret2
    exact .inl ⟨by omega, by rw [← he]; rfl, Below.refl _ _⟩
  rw [if_neg (by omega)] at he
  have i4 : ¬ (60 : Int) < (m : Int) := by omega
  by_cases h2 : (n : Int) < f
  · rw [if_pos h2] at he
    clear hmc h1
    go_enter Try.func20, Try.ntmps20
    go_wp2_with fail
    refine HI.out.mono ?_
    rintro e w' ⟨rfl, rfl⟩
    go_wp2_with fail
    go_ret2
    exact .inl ⟨by omega, by rw [← he]; rfl, Below.refl _ _⟩
  rw [if_neg h2] at he
  obtain ⟨F, rfl⟩ : ∃ F : Nat, f = F := ⟨f.toNat, by omega⟩
  rw [Int.toNat_natCast] at he
  have HE2 := Lib.hid he
  have hFn : F ≤ n := by omega
  have i5 : (F : Int) ≤ (n : Int) := by omega
  have i6 : (n : Int) ≤ 60 := by omega
  have i7 : (m : Int) ≤ 60 := by omega
  have HFN := Lib.hid hFn
  clear he h0 h1 h2 hmc
  go_enter Try.func20, Try.ntmps20
  go_wp2_with fail
  refine HI.out.mono ?_
  rintro e w' ⟨rfl, rfl⟩
  go_wp2_with fail
  refine HC.out.mono ?_
  rintro e w1 ⟨va, vc, rfl, ho1, hb1⟩
  have HO1 := Lib.hid ho1
  have HB1 := Lib.hid hb1
  clear ho1 hb1 HC
  rw [HN2.out]
  go_wp2_with fail
  go_loopw [11, 41] (fun v i wr => ∃ (q la : Nat) (va : Option Addr) (vc : Nat), q ≤ m ∧ i = .int .i64 (q : Int) ∧ v = .slice va la vc ∧ la = max n (F + q) ∧ Hid (OwnS w'.heap.size wr (.slice va la vc) (takeL L (l.take q) F)) ∧ Hid (Below w'.heap.size w' wr) ∧ Hid (∀ t, t < q → F + t < n → L[F + t]? = l[t]?)) (fun _ i _ => m - (intOf i).toNat)
  case atStart =>
    refine ⟨0, n, va, vc, Nat.zero_le _, rfl, rfl, by omega, ?_, HB1.out, fun t ht => absurd ht (Nat.not_lt_zero t)⟩
    have e : takeL L (l.take 0) F = L := takeL_in (by rw [HN2.out]; omega)
    rw [e]
    have := HO1.out
    rw [HN2.out] at this
    exact this
  case round =>
    obtain ⟨q, la, va, vc, hq, rfl, rfl, hla, HO, HB, HA⟩ := hrel
    have i8 : (0 : Int) ≤ (q : Int) := by omega
    have hTL : (takeL L (l.take q) F).length = la := by rw [takeL_len (by rw [HN2.out]; exact hFn), HN2.out, List.length_take, HMM.out]; omega
    by_cases hqm : q < m
    · have i9 : (q : Int) < (m : Int) := by omega
      obtain ⟨x, hx⟩ : ∃ x, l[q]? = some x := ⟨_, List.getElem?_eq_getElem (by rw [HMM.out]; exact hqm)⟩
      obtain ⟨b, off, rfl, hc⟩ := (HS.out.below HB.out) q x hx
      have HX := Lib.hid hx
      obtain ⟨at_, hat⟩ : ∃ at_, at_ = F + q := ⟨_, rfl⟩
      have e3 : (F : Int) + (q : Int) = (at_ : Int) := by omega
      have HAT := Lib.hid hat
      by_cases hend : n ≤ F + q
      · have hlq : la = at_ := by omega
        have e4 : ((at_ : Int) == (la : Int)) = true := by rw [hlq]; exact beq_self_eq_true _
        have hla60 : la ≤ 120 := by omega
        have hA : Below wr.heap.size wr (wr.alloc (.cells #[.string x] 9)) := (Below.refl _ _).alloc (Nat.le_refl _) _
        obtain ⟨A', c', w2, hrun, ho2, hb2⟩ := run_appS (B := w'.heap.size) (v := .slice va la vc) (c := 1) (fs := takeL L (l.take q) F) (q := [x]) (A := some ⟨wr.heap.size, 0, none⟩) 23 (OwnS.below HO.out hA) (slS_lit1 wr x 9) (by rw [hTL]; simp; omega) (Nat.le_trans HB.out.size hA.size)
        have hsz := HB.out.size
        have hB2 : Below w'.heap.size w' w2 := (HB.out.trans (hA.mono hsz)).trans hb2
        rw [List.length_append, hTL] at hrun ho2
        rw [← takeL_end hx (by rw [HN2.out]; exact hend) (by rw [HN2.out]; exact hFn)] at ho2
        obtain ⟨la1, hla1⟩ : ∃ la1, la1 = la + [x].length := ⟨_, rfl⟩
        rw [← hla1] at hrun ho2
        have HLA := Lib.hid (show la1 = la + 1 from hla1)
        have HO2 := Lib.hid ho2
        have HB2 := Lib.hid hB2
        have HQ := Lib.hid (show la1 = max n (F + (q + 1)) by rw [hla1]; show la + 1 = _; omega)
        have HA2 : Hid (∀ t, t < q + 1 → F + t < n → L[F + t]? = l[t]?) := fun t ht h3 => HA.out t (by omega) h3
        clear hA hsz hB2 ho2 hb2 hla1 hx hat hlq hla60 hend hTL hla HO HB HA
        go_wp2_with (at_builtin; refine wpList_app_run rfl (.tmp 54) (.tmp 56) 23 rfl (.slice va la vc) (.slice (some ⟨wr.heap.size, 0, none⟩) 1 1) (by simp [Act.eval, Act.put]) (by simp [Act.eval, Act.put]) hrun ?_)
        go_roundw
        case rel => exact ⟨q + 1, la1, A', c', by omega, by go_num, rfl, HQ.out, HO2.out, HB2.out, HA2.out⟩
        case measure => simp [intOf]; omega
      · have hlq : la = n := by omega
        have e4 : ((at_ : Int) == (la : Int)) = false := by rw [beq_eq_false_iff_ne]; omega
        have hTn : takeL L (l.take q) F = L := takeL_in (by rw [HN2.out]; omega)
        rw [hTn] at HO
        obtain ⟨y, hy⟩ : ∃ y, L[at_]? = some y := ⟨_, List.getElem?_eq_getElem (by rw [HN2.out]; omega)⟩
        have hown : OwnS w'.heap.size wr (.slice va L.length vc) L := by have := HO.out; rw [hlq, ← HN2.out] at this; exact this
        obtain ⟨s3, _, _⟩ := OwnS.sl hown
        obtain ⟨b2, off2, rfl, hc2⟩ := s3 at_ y hy
        have i10 : (0 : Int) ≤ (at_ : Int) := by omega
        have i11 : (at_ : Int) < (la : Int) := by omega
        by_cases hxy : y = x
        · have e5 : (y.toList == x.toList) = true := sEq_iff.2 hxy
          have e5' : (y.toList != x.toList) = false := by unfold bne; rw [e5]; rfl
          have HQ := Lib.hid (show la = max n (F + (q + 1)) by omega)
          have HT2 : Hid (takeL L (l.take (q + 1)) F = L) := takeL_in (by rw [HN2.out]; omega)
          have HA2 : Hid (∀ t, t < q + 1 → F + t < n → L[F + t]? = l[t]?) := fun t ht h3 => by
            by_cases e : t = q
            · subst e
              rw [← HAT.out, hy, HX.out, hxy]
            · exact HA.out t (by omega) h3
          clear hx hat hlq hend hTL hla hTn hown s3 hxy HA
          go_wp2_with fail
          go_roundw
          case rel => exact ⟨q + 1, la, _, vc, by omega, by go_num, rfl, HQ.out, by rw [HT2.out]; exact HO.out, HB.out, HA2.out⟩
          case measure => simp [intOf]; omega
        · have e5 : (y.toList == x.toList) = false := sEq_false.2 hxy
          have e5' : (y.toList != x.toList) = true := by unfold bne; rw [e5]; rfl
          have HER : Hid (er = 3) := by
            have h3 := HE2.out
            rw [if_pos (agree_not (j := q) (by rw [HMM.out]; exact hqm) (by rw [HN2.out]; omega) (by rw [← HAT.out, hy, HX.out]; exact fun e => hxy (Option.some.inj e)))] at h3
            exact h3.symm
          clear hx hat hlq hend hTL hla hTn hown s3 hxy HA HO
          go_wp2_with fail
          go_ret2
          exact .inl ⟨by rw [HER.out]; decide, by rw [HER.out]; rfl, HB.out⟩
    · obtain rfl : q = m := by omega
      have htk : l.take q = l := List.take_of_length_le (by rw [HMM.out]; exact Nat.le_refl _)
      rw [htk] at hTL HO
      have hagr := agree_end (L := L) (l := l) (f := F) (fun t ht h3 => HA.out t (by rw [← HMM.out]; exact ht) (by rw [← HN2.out]; exact h3))
      have hE := HE2.out
      rw [if_neg (by rw [hagr]; simp)] at hE
      by_cases h3 : 60 < (F : Int) + (q : Int)
      · rw [if_pos h3] at hE
        have HER := Lib.hid hE
        clear hE hagr htk hTL HO HA hla
        go_wp2_with fail
        go_ret2
        exact .inl ⟨by rw [← HER.out]; decide, by rw [← HER.out]; rfl, HB.out⟩
      · rw [if_neg h3] at hE
        have HER := Lib.hid hE
        have c0r : wr.cell? ⟨p, 0, none⟩ = some (.slice (some ⟨h, 0, none⟩) nm nm) := (HB.out.cell (p := ⟨p, 0, none⟩) lp).trans c0
        have cjr : wr.cell? ⟨h, j1, none⟩ = some (.slice aj n kj) := (HB.out.cell (p := ⟨h, j1, none⟩) lh).trans cj
        have fhr : wr.frozen? ⟨h, j1, none⟩ = false := (HB.out.frozen (p := ⟨h, j1, none⟩) lh).trans fh
        have hG : RefTo O S p h k (X.setL (j + 1) (takeL L l F)) w' (wr.setCell ⟨h, j1, none⟩ (.slice va la vc)) := by
          have hown := HO.out
          have h5 := OwnS.sl (by rw [← hTL] at hown; exact hown)
          rw [HJ1.out]
          refine ⟨_, _, (HR.out.below HB.out).setL HJ.out (Nat.succ_pos _) hTL h5.1 (by rw [← hTL]; exact h5.2.1) (fun d e => ?_), (Kept.of HB.out).trans (Kept.setCell wr (fun z => z.1 rfl) _)⟩
          have h6 := World.ownsRow.lt hown d.block (by rw [e]; rfl)
          have h7 := HR.out.lk
          refine ⟨fun z => ?_, by omega, by omega, h6.2⟩
          have := HOO.out _ z
          omega
        have HG := Lib.hid hG
        have HTL := Lib.hid hTL
        have hlr := Nat.lt_of_lt_of_le lh HB.out.size
        clear hE hagr htk hTL HO HA hla hG
        go_wp2_with fail
        go_ret2
        refine .inr ⟨HER.out.symm, ?_, ?_⟩
        · rw [HHL.out, Int.toNat_natCast, HTL.out]; rfl
        · rw [HHL.out, Int.toNat_natCast]
          exact HG.out
end
end Go.Proofs.Ytkgbaaaklijopaa
