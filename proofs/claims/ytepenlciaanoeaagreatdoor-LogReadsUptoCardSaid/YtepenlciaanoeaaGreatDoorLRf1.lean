/- The document's answer on logs: contracts of wyref.Sum and wyref.Logged. -/
import Derived.Test.YtepenlciaanoeaaGreatDoorLSum
import Derived.Test.YtepenlciaanoeaaGreatDoorLChk
import Derived.Test.YtepenlciaanoeaaGreatDoorRfRules
import Derived.Test.YtepenlciaanoeaaGreatDoorRefRec
set_option linter.unusedVariables false
set_option linter.unusedSimpArgs false
set_option maxRecDepth 100000
namespace Go.Proofs.YtepenlciaanoeaaGreatDoor
open Go.RowKit Go.Sort

/-- the sum from behind: of the bytes from place k on -/
def sumT (l : List UInt8) (k : Nat) : Nat := sumN k (l.drop k) % 65521
theorem sumT_lt (l : List UInt8) (k : Nat) : sumT l k < 65521 := Nat.mod_lt _ (by decide)
theorem sumT_step {l : List UInt8} {k : Nat} {b : UInt8} (h : l[k]? = some b) : sumT l k = (sumT l (k + 1) + (k + 1) * b.toNat) % 65521 := by
  have hk := (List.getElem?_eq_some_iff.1 h).1
  have e : l.drop k = b :: l.drop (k + 1) := by
    rw [List.drop_eq_getElem_cons hk, (List.getElem?_eq_some_iff.1 h).2]
  unfold sumT
  rw [e]
  show (b.toNat * (k + 1) + sumN (k + 1) (l.drop (k + 1))) % 65521 = _
  rw [Nat.mod_add_mod, Nat.mul_comm, Nat.add_comm]
theorem sumT_end (l : List UInt8) : sumT l l.length = 0 := by
  unfold sumT
  rw [List.drop_length]
  rfl
theorem sumT_all (l : List UInt8) : sumT l 0 = sumL l := rfl
theorem byte_idx {s : ByteArray} {k : Nat} {b : UInt8} (h : s.data.toList[k]? = some b) (W : World) : (Instr.index 9 (.string s) (.int .i64 (k : Int))).run Tryz.prog W = .ok (.int .u8 (b.toNat : Int)) W := by
  have hk := (List.getElem?_eq_some_iff.1 h).1
  rw [← Lib.size_eq] at hk
  rw [run_index_string W _ s .i64 _ Tryz.underlying9, dif_pos ⟨by omega, by omega⟩]
  simp only [Int.toNat_natCast]
  have e : s[k]'hk = b := by
    show s.data[k] = b
    rw [← Array.getElem_toList]
    exact (List.getElem?_eq_some_iff.1 h).2
  rw [e]

set_option maxHeartbeats 1000000 in
theorem refSum_any (s : ByteArray) (w : World) (hs : s.size < 4294967296) :
    Calls Tryz.prog 103 #[.string s] w fun e w' => e = .returned (.int .i64 (sumL s.data.toList : Nat)) ∧ Below w.heap.size w w' := by
  go_enter Tryz.func103, Tryz.ntmps103
  go_wp2
  go_loop [3, 4] (fun v i => ∃ k : Nat, k ≤ s.size ∧ i = .int .i64 k ∧ v = .int .i64 (sumT s.data.toList k : Nat)) (fun v i => (intOf i).toNat)
  case atStart => exact ⟨s.size, Nat.le_refl _, rfl, by rw [Lib.size_eq, sumT_end]; rfl⟩
  case round =>
    obtain ⟨k, hk, rfl, rfl⟩ := hrel
    have hlt0 := sumT_lt s.data.toList k
    obtain ⟨S, hS⟩ : ∃ S, S = sumT s.data.toList k := ⟨_, rfl⟩
    rw [← hS] at hlt0 ⊢
    by_cases h0 : 0 < k
    · obtain ⟨K, hK⟩ : ∃ K, k = K + 1 := ⟨k - 1, by omega⟩
      obtain ⟨b, hb⟩ : ∃ b, s.data.toList[K]? = some b := ⟨_, List.getElem?_eq_getElem (by rw [← Lib.size_eq]; omega)⟩
      have hgx : ∀ h : k - 1 < s.size, (s[k - 1]'h).toNat = b.toNat := fun h => by
        have e : s[k - 1]'h = b := by
          show s.data[k - 1] = b
          rw [← Array.getElem_toList]
          have h2 := (List.getElem?_eq_some_iff.1 hb).2
          simpa [show k - 1 = K by omega] using h2
        rw [e]
      have hbl := b.toNat_lt
      have hsx := sumT_step hb
      rw [← hK, ← hS] at hsx
      obtain ⟨B, hB⟩ : ∃ B, B = b.toNat := ⟨_, rfl⟩
      rw [← hB] at hbl hsx
      simp only [← hB] at hgx
      obtain ⟨M, hM⟩ : ∃ M, M = k * B := ⟨_, rfl⟩
      have hMl : M ≤ 4294967296 * 255 := by rw [hM]; exact Nat.mul_le_mul (by omega) (by omega)
      have hwB : wrap64 (B : Int) = (B : Int) := wrap64_nat (by omega)
      have hm : (k : Int) * (B : Int) = (M : Int) := by rw [hM]; exact (Int.natCast_mul _ _).symm
      have hw2 : wrap64 (M : Int) = (M : Int) := wrap64_nat (by omega)
      have hw3 : wrap64 ((S : Int) + (M : Int)) = (S : Int) + (M : Int) := wrap64_add (Nat.lt_of_le_of_lt (Nat.add_le_add (Nat.le_of_lt hlt0) hMl) (by decide))
      have ht : ((S : Int) + (M : Int)).tmod 65521 = (((S + M) % 65521 : Nat) : Int) := sum_t
      have HS := Lib.hid (show sumT s.data.toList K = (S + M) % 65521 by rw [hsx, hM, hK])
      have hlt9 : (S + M) % 65521 < 65521 := Nat.mod_lt _ (by decide)
      obtain ⟨T, hT⟩ : ∃ T, T = (S + M) % 65521 := ⟨_, rfl⟩
      rw [← hT] at ht HS hlt9
      have hw4 : wrap64 (T : Int) = (T : Int) := wrap64_nat (by omega)
      have hw5 : wrap64 ((k : Int) - 1) = (K : Int) := by
        rw [show (k : Int) - 1 = (K : Int) by omega]
        exact wrap64_nat (by omega)
      have h0' : (0 : Int) < (k : Int) := by omega
      have HKK := Lib.hid hK
      clear hb hsx hM hMl hB hT hS hK h0
      go_wp2
      go_round
      case rel => exact ⟨K, by have := HKK.out; omega, by have := HKK.out; congr 1; omega, by rw [HS.out]⟩
      case measure => have := HKK.out; simp [intOf]; omega
    · obtain rfl : k = 0 := by omega
      have HE := Lib.hid (show S = sumL s.data.toList by rw [hS, sumT_all])
      clear hS
      go_wp2
      go_ret
      exact ⟨congrArg (fun n : Nat => Ending.returned (.int .i64 (n : Int))) HE.out, Below.refl _ _⟩
theorem refSum_is {n : Nat} (s : ByteArray) (w : World) (hs : s.size < 4294967296) (h : sumL s.data.toList = n) :
    Calls Tryz.prog 103 #[.string s] w fun e w' => e = .returned (.int .i64 n) ∧ Below w.heap.size w w' := h ▸ refSum_any s w hs

theorem refWho_is {b : Bool} (x : WhoL) (w : World) (h : decide x.ok = b) :
    Calls Tryz.prog 158 #[x.v] w fun e w' => e = .returned (.bool b) ∧ Below w.heap.size w w' := by
  cases b with
  | true => exact (refWho_yes x w (of_decide_eq_true h)).mono fun e w' h => ⟨h.1, h.2.1⟩
  | false => exact (refWho_no x w (of_decide_eq_false h)).mono fun e w' h => ⟨h.1, h.2.1⟩
theorem refCats_to {t : Bool} (x : Int) (w : World) (h : decide (0 ≤ x ∧ x ≤ 255) = t) : Calls Tryz.prog 153 #[.int .i64 x] w fun e w' => e = .returned (.bool t) ∧ Below w.heap.size w w' :=
  (refCats_is x w h).mono fun e w' h => ⟨h.1, h.2 ▸ Below.refl _ _⟩
theorem refRecord_to {er : Int} (r : RecL) (p : At) (w : World) (hi : r.in_ p w) (hs : r.short) (he : r.err = er) :
    Calls Tryz.prog 81 #[r.v p] w fun e w' => e = .returned (.int .i64 er) ∧ Below w.heap.size w w' := he ▸ refRecord_any r p w hi hs

set_option maxHeartbeats 2000000 in
theorem refLogged_any (o : OpL) (P : OpP) (w : World) (hi : o.in_ P w) :
    Calls Tryz.prog 105 #[o.v P] w fun e w' => e = .returned (.int .i64 (logErr o)) ∧ Below w.heap.size w w' := by
  have hA := o.box_below P w
  have HI := Lib.hid (hi.below hA)
  obtain ⟨E, hE⟩ : ∃ E, E = logErr o := ⟨_, rfl⟩
  rw [← hE]
  have HE := Lib.hid hE
  have HA := Lib.hid hA
  clear hE hi hA
  obtain ⟨kind, who, n, rs, r, id, f⟩ := o
  obtain ⟨ra, rc, p⟩ := P
  by_cases h1 : kind = 1
  · subst h1
    have HE1 : Hid (rulesErr n rs = E) := by rw [HE.out]; unfold logErr; exact (if_pos rfl).symm
    go_enter Tryz.func105, Tryz.ntmps105
    go_wp2_with fail
    refine (refRules_any ra n rc rs _ HI.out.rs (Nat.le_trans HI.out.rl HI.out.rm)).mono ?_
    rintro e w1 ⟨rfl, hb⟩
    rw [HE1.out]
    have hB := HA.out.trans (hb.mono HA.out.size)
    have HB := Lib.hid hB
    clear hb hB
    go_wp2_with fail
    go_ret
    exact ⟨rfl, HB.out⟩
  · have h1f : (kind == 1) = false := by simpa using h1
    by_cases h2 : kind = 2
    · subst h2
      obtain ⟨bw, hbw⟩ : ∃ bw, decide who.ok = bw := ⟨_, rfl⟩
      have HBW := Lib.hid hbw
      have HE1 : Hid (E = if bw = true then r.err else 1) := by
        show _ = _
        rw [HE.out]
        unfold logErr
        rw [if_neg (show ¬ (2 : Int) = 1 by decide), if_pos rfl, ← hbw]
        by_cases hw : who.ok
        · rw [if_pos hw, if_pos (decide_eq_true hw)]
        · rw [if_neg hw, if_neg (by simpa using hw)]
      clear hbw
      go_enter Tryz.func105, Tryz.ntmps105
      go_wp2_with fail
      refine (refWho_is who _ HBW.out).mono ?_
      rintro e w1 ⟨rfl, hb⟩
      have hB := HA.out.trans (hb.mono HA.out.size)
      have HI1 := Lib.hid (HI.out.below hb)
      have HB := Lib.hid hB
      obtain ⟨hc, hf⟩ := bcell hb
      clear hb hB
      cases bw with
      | false =>
        have he : E = 1 := HE1.out
        subst he
        go_wp2_with fail
        go_ret
        exact ⟨rfl, HB.out⟩
      | true =>
        have he : r.err = E := HE1.out.symm
        have HER := Lib.hid he
        clear he
        go_wp2_with fail
        refine (refRecord_to r p _ HI1.out.r HI.out.sh HER.out).mono ?_
        rintro e w2 ⟨rfl, hb2⟩
        have hB2 := HB.out.trans (hb2.mono HB.out.size)
        clear hc hf hb2
        go_wp2_with fail
        go_ret
        exact ⟨rfl, hB2⟩
    · have h2f : (kind == 2) = false := by simpa using h2
      by_cases h3 : kind = 3
      · subst h3
        obtain ⟨bw, hbw⟩ : ∃ bw, decide who.ok = bw := ⟨_, rfl⟩
        obtain ⟨bc, hbc⟩ : ∃ bc, decide (0 ≤ r.cats ∧ r.cats ≤ 255) = bc := ⟨_, rfl⟩
        obtain ⟨bi, hbi⟩ : ∃ bi, isNm id = bi := ⟨_, rfl⟩
        have HBW := Lib.hid hbw
        have HBC := Lib.hid hbc
        have HBI := Lib.hid hbi
        have HE1 : Hid (E = if bw = true then (if bc = true then (if bi = true then 0 else 3) else 1) else 1) := by
          show _ = _
          rw [HE.out]
          unfold logErr
          rw [if_neg (show ¬ (3 : Int) = 1 by decide), if_neg (show ¬ (3 : Int) = 2 by decide), if_pos rfl, ← hbw, ← hbc, ← hbi]
          by_cases hw : who.ok
          · rw [if_pos (decide_eq_true hw)]
            by_cases hcc : 0 ≤ r.cats ∧ r.cats ≤ 255
            · rw [if_pos ⟨hw, hcc⟩, if_pos (decide_eq_true hcc)]
            · rw [if_neg (fun k => hcc k.2), if_neg (by simpa using hcc)]
          · rw [if_neg (fun k => hw k.1), if_neg (by simpa using hw)]
        clear hbw hbc hbi
        go_enter Tryz.func105, Tryz.ntmps105
        go_wp2_with fail
        refine (refWho_is who _ HBW.out).mono ?_
        rintro e w1 ⟨rfl, hb⟩
        have hB := HA.out.trans (hb.mono HA.out.size)
        have HB := Lib.hid hB
        obtain ⟨hc, hf⟩ := bcell hb
        clear hb hB
        cases bw with
        | false =>
          have he : E = 1 := HE1.out
          subst he
          go_wp2_with fail
          go_ret
          exact ⟨rfl, HB.out⟩
        | true =>
          have HLC := Lib.hid (fun W => refCats_to (t := bc) r.cats W HBC.out)
          cases bc with
          | false =>
            have he : E = 1 := HE1.out
            subst he
            go_wp2_with fail
            refine (HLC.out _).mono ?_
            rintro e w2 ⟨rfl, hb2⟩
            have hB2 := HB.out.trans (hb2.mono HB.out.size)
            go_wp2_with fail
            go_ret
            exact ⟨rfl, hB2⟩
          | true =>
            have he : E = if bi = true then 0 else 3 := HE1.out
            have HEI := Lib.hid he
            clear he
            go_wp2_with fail
            refine (HLC.out _).mono ?_
            rintro e w2 ⟨rfl, hb2⟩
            have hB2 := HB.out.trans (hb2.mono HB.out.size)
            have HB2 := Lib.hid hB2
            have hx1 : w1.cell? ⟨w.heap.size, 9, none⟩ = some (.string id) := by
              rw [hc w.heap.size 9 (by simp)]
              simp [go_sem]
            have hx2 : w2.cell? ⟨w.heap.size, 9, none⟩ = some (.string id) := ((bcell hb2).1 _ _ (cell_lt hx1)).trans hx1
            clear hc hf hb2 hB2 hx1
            go_wp2_with fail
            refine (refId_is id _ HBI.out).mono ?_
            rintro e w3 ⟨rfl, hb3⟩
            have hB3 := HB2.out.trans (hb3.mono HB2.out.size)
            cases bi with
            | true =>
              have he : E = 0 := HEI.out
              subst he
              go_wp2_with fail
              go_ret
              exact ⟨rfl, hB3⟩
            | false =>
              have he : E = 3 := HEI.out
              subst he
              go_wp2_with fail
              go_ret
              exact ⟨rfl, hB3⟩
      · have h3f : (kind == 3) = false := by simpa using h3
        have he : E = 3 := by
          rw [HE.out]
          unfold logErr
          exact (if_neg h1).trans ((if_neg h2).trans (if_neg h3))
        subst he
        go_enter Tryz.func105, Tryz.ntmps105
        go_wp2_with fail
        go_ret
        exact ⟨rfl, HA.out⟩
theorem refLogged_is {n : Int} (o : OpL) (P : OpP) (w : World) (hi : o.in_ P w) (h : logErr o = n) :
    Calls Tryz.prog 105 #[o.v P] w fun e w' => e = .returned (.int .i64 n) ∧ Below w.heap.size w w' := h ▸ refLogged_any o P w hi
end Go.Proofs.YtepenlciaanoeaaGreatDoor
