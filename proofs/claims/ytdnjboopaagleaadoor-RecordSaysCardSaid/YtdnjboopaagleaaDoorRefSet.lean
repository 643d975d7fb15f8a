/- The contract of wyref.Set: by a map whose keys are sorted. -/
import Derived.Test.YtdnjboopaagleaaDoorRSet
import Derived.Test.YtdnjboopaagleaaDoorRefSetMath
import Derived.Test.YtdnjboopaagleaaDoorShelf
import Derived.Maps.RangeWalk
import Derived.Maps.OwnOps
import Derived.Maps.OwnSet
import Derived.Sort.OwnSorted
import Derived.Lib.SmallJoins
set_option linter.unusedVariables false
set_option linter.unusedSimpArgs false
set_option maxRecDepth 100000
namespace Go.Proofs.YtdnjboopaagleaaDoor
open Go.RowKit Go.Sort Go.Maps

theorem lawStr : Keyed Tryd.prog 9 := string_keyed Tryd.underlying9
theorem zeroStr (w : World) : (zeroValue 9).run Tryd.prog w = .ok (.string ⟨#[]⟩) w := by kernel_rfl

/-- the fields of a record come short -/
theorem RecL.Ok.key {r : RecL} (h : r.Ok) {f : FieldL} (hf : f ∈ r.fs) : f.key.size ≤ 8 ∧ f.val.size ≤ 12 := by
  obtain ⟨k, hk⟩ := List.getElem?_of_mem hf
  have h1 := (h.fs k f (List.getElem?_eq_some_iff.1 hk).1 hk).1
  unfold isFd isNm isVl at h1
  simp only [Bool.and_eq_true, decide_eq_true_eq] at h1
  exact ⟨h1.1.1.2, h1.2.1⟩
theorem fd_size {f : FieldL} (h : isFd f = true) : f.key.size ≤ 8 ∧ f.val.size ≤ 12 := by
  unfold isFd isNm isVl at h
  simp only [Bool.and_eq_true, decide_eq_true_eq] at h
  exact ⟨h.1.1.2, h.2.1⟩

/-- the first entry of a new map -/
theorem put_first (r : RecL) (p : At) (f : FieldL) (w : World) (hf : isFd f = true) : ∃ w1, (Instr.mapUpdate 63 (.map (some (w.heap.size + 1 + 1 + 1))) (.string f.key) (.string f.val)).run Tryd.prog ((setWorld r p f w).alloc (.map #[] 0)) = .ok () w1 ∧
    (∃ D : DataW Unit, w1.ownsMap Tryd.prog 9 (plainElem Tryd.prog 9) (w.heap.size + 1 + 1 + 1) 1 D ∧ Says D (part r.fs f 0)) ∧ Below (w.heap.size + 1 + 1 + 1) (setWorld r p f w) w1 := by
  have hs : (setWorld r p f w).heap.size = w.heap.size + 1 + 1 + 1 := by simp
  obtain ⟨kf, vf⟩ := fd_size hf
  have h0 := World.ownsMap_made (H := Unit) (setWorld r p f w) Tryd.prog 9 (plainElem Tryd.prog 9)
  rw [hs] at h0
  obtain ⟨w1, hrun, h1, h2⟩ := h0.update lawStr Tryd.underlying63 (by unfold maxLen; omega) (WideMaps.keyOf_string_mk Tryd.underlying9 (s := f.key) (by unfold maxLen; omega)) (plainElem_string Tryd.underlying9 (s := f.val) (by unfold maxLen; omega))
  refine ⟨w1, hrun, ⟨_, h1, (Says.empty.put f.key f.val).congr fun x => ?_⟩, ?_⟩
  · rw [part_zero]
  · exact ((Below.refl _ _).alloc (by rw [hs]; exact Nat.le_refl _) _).grown h2 (by simp) (fun j hj => by cases hj; exact Nat.le_refl _)

/-- a look-up where the elements are strings -/
theorem wpList_lookup_own_str {H : Type} {P : Program} (w : World) {ops : Array Oper} {rest : List Oper} {o : Oper} {a : Act} {Q : Exit → Act → World → Prop}
    (hg : o.guard = none) (m x : Operand) (t : TypeId) (hop : o.op = Op.lookup t m x false)
    (k e : TypeId) (K : Keyed P k) (ht : P.underlying t = some (.map k e)) (he : P.underlying e = some .string) (hz : (zeroValue e).run P w = .ok (.string ⟨#[]⟩) w) (b n : Nat) (D : DataW H)
    (hm : a.eval m = .map (some b)) (hown : w.ownsMap P k (plainElem P e) b n D) (key : Value) (kl : Lit) (hx : a.eval x = key) (hkey : keyOf P k key = some kl) (c : ByteArray) (hc : ∀ z, D.atKey kl z = .lit (.string c.data.toList))
    (hK : wpList P ops Q rest (a.put o.dst (.string c)) w) :
    wpList P ops Q (o :: rest) a w := by
  refine wpList_plain hg fun K' hK' => ?_
  obtain ⟨v, ps, hrun, hv⟩ := hown.lookup K ht hz (plainElem_string he (by decide)) hkey
  obtain ⟨s, rfl, hs, _⟩ := plainElem_string_inv he hv
  rw [hc] at hs
  simp only [Prod.mk.injEq] at hs
  have e1 : s = c := bytes_inj (by
    have := hs.1
    injection this with h
    injection h with h
    exact h.symm)
  subst e1
  unfold Oper.wp
  simp [execOp, hop, hm, hx, hrun, Result.andThen]
  exact hK' _ _ hK

/-- the boxes stay -/
theorem boxes {r : RecL} {p : At} {f : FieldL} {w wr : World} (h : Below (w.heap.size + 1 + 1 + 1) (setWorld r p f w) wr) :
    (∀ o, wr.cell? ⟨w.heap.size, o, none⟩ = (setWorld r p f w).cell? ⟨w.heap.size, o, none⟩) ∧ (∀ o, wr.cell? ⟨w.heap.size + 1, o, none⟩ = (setWorld r p f w).cell? ⟨w.heap.size + 1, o, none⟩) ∧
    (∀ o, wr.cell? ⟨w.heap.size + 1 + 1, o, none⟩ = (setWorld r p f w).cell? ⟨w.heap.size + 1 + 1, o, none⟩) ∧ (∀ o, wr.frozen? ⟨w.heap.size + 1 + 1, o, none⟩ = (setWorld r p f w).frozen? ⟨w.heap.size + 1 + 1, o, none⟩) ∧
    w.heap.size + 1 + 1 + 1 ≤ wr.heap.size ∧ Below w.heap.size w wr :=
  ⟨fun o => h.cell (p := ⟨w.heap.size, o, none⟩) (by simp; omega), fun o => h.cell (p := ⟨w.heap.size + 1, o, none⟩) (by simp), fun o => h.cell (p := ⟨w.heap.size + 1 + 1, o, none⟩) (by simp),
    fun o => h.frozen (p := ⟨w.heap.size + 1 + 1, o, none⟩) (by simp), by have := h.size; simp at this; omega, (setWorld_below r p f w).trans (h.mono (by omega))⟩

theorem setFs_pos : ∀ {fs : List FieldL} {f : FieldL}, 1 ≤ (setFs fs f).length
  | [], f => Nat.le_refl _
  | g :: r, f => by
    unfold setFs
    split
    · simp
    · split <;> simp
theorem keys_at {B g cap : Nat} {w : World} {gs : List FieldL} (h : OwnS B w (.slice (some ⟨g, 0, none⟩) gs.length cap) (gs.map (·.key))) {k : Nat} {y : FieldL} (hy : gs[k]? = some y) : w.cell? ⟨g, k, none⟩ = some (.string y.key) := by
  have e : gs.length = (gs.map (·.key)).length := by simp
  rw [e] at h
  obtain ⟨b, off, h1, h2⟩ := h.sl.1 k y.key (by rw [List.getElem?_map, hy]; rfl)
  cases h1
  rw [Nat.zero_add] at h2
  exact h2
theorem OwnS_below {B : Nat} {w w' : World} {v : Value} {rs : List ByteArray} (h : OwnS B w v rs) (hb : Below w.heap.size w w') : OwnS B w' v rs := h.below hb
theorem cellsF_snoc {gs : List FieldL} {k : Nat} {y : FieldL} (hy : gs[k]? = some y) : cellsF (gs.take k) ++ cellsF [y] = cellsF (gs.take (k + 1)) := by
  rw [← cellsF_append, List.take_add_one, hy]
  rfl
theorem cell_of_block {w w' : World} {b o : Nat} (h : w'.heap[b]? = w.heap[b]?) : w'.cell? ⟨b, o, none⟩ = w.cell? ⟨b, o, none⟩ := by
  unfold World.cell?
  simp only [h]
theorem frozen_of_block {w w' : World} {b o : Nat} (h : w'.heap[b]? = w.heap[b]?) : w'.frozen? ⟨b, o, none⟩ = w.frozen? ⟨b, o, none⟩ := by
  unfold World.frozen?
  simp only [h]
theorem cell_two_new (w : World) (f : FieldL) (t : TypeId) : ∀ j u, (cellsF [f])[j]? = some u → (w.alloc (.cells #[.string f.key, .string f.val] t)).cell? ((⟨w.heap.size, 0, none⟩ : Addr).add j) = some u := fun j u hu => by
  rw [addr_at]
  match j, hu with
  | 0, hu =>
    cases hu
    simp [go_sem]
  | 1, hu =>
    cases hu
    simp [go_sem]
  | j + 2, hu => simp [cellsF, FieldL.cells] at hu
theorem row_slice {w : World} {B n size : Nat} {e : TypeId} {v : Value} {xs : List Value} (h : w.ownsRow B e size v n xs) : ∃ A c, v = .slice A n c := by
  rcases h.2 with ⟨e, h0⟩ | ⟨g, cap, cur, e, _⟩
  · exact ⟨none, 0, by rw [e, h0]⟩
  · exact ⟨_, _, e⟩
def RefSetTo (r : RecL) (n : Int) (w : World) (e : Ending) (w' : World) : Prop := ∃ p' : At, e = .returned (.tuple #[r.v p', .int .i64 n]) ∧ r.in_ p' w' ∧ Below w.heap.size w w'

theorem grown_none {W w1 w2 : World} {B b : Nat} (h : Below B W w1) (hg : w1.grownBy w2 (some b)) (hb : B ≤ b) (hB : B ≤ w1.heap.size) : Below B W w2 := h.grown hg hB (fun j hj => by cases hj; exact hb)

set_option maxHeartbeats 4000000 in
theorem refSet_any (r : RecL) (p : At) (f : FieldL) (w : World) (hi : r.in_ p w) (ho : r.Ok) (hf : isFd f = true) :
    Calls Tryd.prog 15 #[r.v p, f.v] w (RefSetTo (r.setRec f) (r.setErr f) w) := by
  have hA := setWorld_below r p f w
  have HI := Lib.hid hi
  have HO := Lib.hid ho
  have HF := Lib.hid hf
  obtain ⟨kf, vf⟩ := fd_size hf
  have n6 := ho.nf
  have hmm := @run_makeMap Tryd.prog
  have HA := Lib.hid (fOk_asc ho.fs)
  obtain ⟨w1, hput, ⟨D1, hown1, hS1⟩, hB1⟩ := put_first r p f w hf
  have HS1 := Lib.hid hS1
  obtain ⟨q0, q1, q2, q3, zz, hW1⟩ := boxes hB1
  have a2 : w1.cell? ⟨w.heap.size, 2, none⟩ = some (.slice p.fa r.fs.length p.fc) := by simp [q0, go_sem]
  clear hi ho hf hS1 q0 q1 q2 q3
  go_enter Tryd.func15, Tryd.ntmps15
  go_wp2_with fail
  clear hput a2
  go_loopw [23] (fun i wr => ∃ (k : Nat) (D : DataW Unit), k ≤ r.fs.length ∧ i = .int .i64 k ∧ wr.ownsMap Tryd.prog 9 (plainElem Tryd.prog 9) (w.heap.size + 1 + 1 + 1) (k + 1) D ∧ Hid (Says D (part r.fs f k)) ∧ Below (w.heap.size + 1 + 1 + 1) (setWorld r p f w) wr) (fun i _ => r.fs.length - (intOf i).toNat)
  case atStart => exact ⟨0, D1, Nat.zero_le _, rfl, hown1, HS1, hB1⟩
  case round =>
    clear hown1 HS1 D1 hB1 zz hW1
    obtain ⟨k, D, hk, rfl, hown, HS, hB⟩ := hrel
    obtain ⟨q0, q1, q2, q3, zz, hW⟩ := boxes hB
    by_cases hlt : k < r.fs.length
    · obtain ⟨g, hg⟩ : ∃ g, r.fs[k]? = some g := ⟨_, List.getElem?_eq_getElem hlt⟩
      obtain ⟨b, off, hfa, c1, c2⟩ := (HI.out.hf.below hW) k g hg
      obtain ⟨pa, pc, qa, qc⟩ := p
      simp only at hfa
      subst hfa
      obtain ⟨kg, vg⟩ := HO.out.key (List.mem_of_getElem? hg)
      have HG := Lib.hid hg
      have d0 : wr.cell? ⟨w.heap.size + 1, 0, none⟩ = some (.string f.key) := by simp [q1, go_sem]
      have z1 : w.heap.size + 1 < wr.heap.size := by omega
      clear hg q0 q1 q2 q3
      have hB2 : Below (w.heap.size + 1 + 1 + 1) (setWorld r ⟨some ⟨b, off, none⟩, pc, qa, qc⟩ f w) (wr.alloc (.cells #[.string g.key, .string g.val] 27)) := hB.alloc zz _
      by_cases hk2 : g.key = f.key
      · have e1 : (g.key.toList == f.key.toList) = true := sEq_iff.2 hk2
        have HK := Lib.hid hk2
        clear hk2
        go_wp2_with fail
        go_roundw
        case rel => exact ⟨k + 1, D, by omega, by go_num, (hown.mono (by omega)).alloc _, HS.out.congr (part_same HA.out HG.out HK.out), hB2⟩
        case measure => simp [intOf]; omega
      · have e1 : (g.key.toList == f.key.toList) = false := sEq_false.2 hk2
        have HK := Lib.hid hk2
        have hown2 := hown.alloc (.cells #[.string g.key, .string g.val] 27)
        clear hk2 hown
        go_wp2_with (at_mapUpdate; refine wpList_mapUpdate_own _ rfl _ _ _ 63 rfl 9 9 lawStr Tryd.underlying63 _ (w.heap.size + 1 + 1 + 1) (k + 1) _ rfl hown2 (by unfold maxLen; omega) _ _ _ rfl rfl (WideMaps.keyOf_string_mk Tryd.underlying9 (s := g.key) (by unfold maxLen; omega)) _ [] (plainElem_string Tryd.underlying9 (s := g.val) (by unfold maxLen; omega)) ?_; intro w2 hown3 hg3)
        go_roundw
        case rel => exact ⟨k + 1, _, by omega, by go_num, hown3, (HS.out.put g.key g.val).congr (part_other HA.out HG.out HK.out), grown_none hB2 hg3 (Nat.le_refl _) (by simp; omega)⟩
        case measure => simp [intOf]; omega
    · have HSF : Hid (Says D (look (setFs r.fs f))) := by
        obtain rfl : k = r.fs.length := by omega
        exact HS.out.congr (part_all HA.out)
      have hown7 := hown.mono (show k + 1 ≤ 7 by omega)
      clear hown HS q0 q1 q2 q3
      have hlt1 := hown7.lt
      go_wp2_with (at_range; refine wpList_range_own _ rfl _ 63 rfl 9 9 lawStr Tryd.underlying63 _ (w.heap.size + 1 + 1 + 1) 7 _ rfl hown7 ?_; intro w2 hrg0 hg0 hs0)
      go_frame
      have hB2 : Below (w.heap.size + 1 + 1 + 1) (setWorld r p f w) w2 := hB.grown hg0 zz (fun j hj => by cases hj)
      have hD7 := hown7.size_le
      obtain ⟨rr, hr⟩ : ∃ rr, rr = wr.heap.size := ⟨_, rfl⟩
      have hrs : rr ≤ w2.heap.size := by rw [hr]; exact hg0.size
      rw [← hr] at hrg0 hlt1 ⊢
      obtain ⟨i0, hi, hz0, hz1, hz2⟩ := info_parts Tryd.infoStr
      clear hown7 hg0 hs0 hB hW zz hr hlt hk
      go_loopw [9] (fun v wq => ∃ (left : Lit → Bool) (cnt : Nat) (ss : List (List UInt8)), wq.ranges Tryd.prog 9 (plainElem Tryd.prog 9) (w.heap.size + 1 + 1 + 1) rr 7 D left cnt ∧ ss.length + cnt ≤ 7 ∧
          wq.ownsRow rr 9 1 v ss.length (ss.map encStr) ∧ Hid (Collected D left ss) ∧ Below (w.heap.size + 1 + 1 + 1) (setWorld r p f w) wq ∧ rr ≤ wq.heap.size)
        (fun _ wq => wq.rangeLeft (w.heap.size + 1 + 1 + 1) rr)
      case atStart => exact ⟨_, _, [], hrg0, by simpa using hD7, World.ownsRow_nil _ _ _ _, Collected.start D, hB2, hrs⟩
      case round =>
        clear hrg0 hB2 hD7 hrs
        obtain ⟨left, cnt, ss, hrg, hcs, hrow, hC, hB, hrs⟩ := hrel
        go_wp2_with (at_next; refine wpList_next_ranges _ rfl _ rfl 9 lawStr (plainElem Tryd.prog 9) encStr Value.string (fun key kl hk => by obtain ⟨x, hx, _⟩ := Maps.keyOf_str Tryd.underlying9 hk; exact ⟨x, hx⟩) (fun v y hv => by obtain ⟨c, rfl, _⟩ := plainElem_string_inv Tryd.underlying9 hv; exact ⟨c, rfl⟩) (w.heap.size + 1 + 1 + 1) rr 7 _ _ _ rfl hrg ?_ ?_)
        · intro _ hl0
          have ha := setFs_asc (f := f) HA.out
          have hgl := setFs_length (f := f) HA.out
          have hks := keys_sorted HSF.out ha hC.out hl0
          obtain ⟨gs, hgs⟩ : ∃ gs, gs = setFs r.fs f := ⟨_, rfl⟩
          rw [← hgs] at ha hgl hks
          have hsl : ss.length = gs.length := by
            have := congrArg List.length hks
            simpa using this
          have hg1 : 1 ≤ gs.length := by
            rw [hgs]
            exact setFs_pos
          have HGS := Lib.hid hgs
          have HAG := Lib.hid ha
          have HSG : Hid (Says D (look gs)) := by rw [hgs]; exact HSF.out
          have HGL := Lib.hid hgl
          rcases hrow.2 with ⟨_, h0⟩ | ⟨g, cap, cur, rfl, hbase, hb, h1, h2, h3, h4⟩
          · omega
          have hgw : g < wr.heap.size := (Array.getElem?_eq_some_iff.1 hb).1
          have hsort : Calls Tryd.prog 36 #[.slice (some ⟨g, 0, none⟩) ss.length cap] wr fun e w' => e = .returned (.tuple #[]) ∧ (OwnS rr w' (.slice (some ⟨g, 0, none⟩) ss.length cap) (gs.map (·.key)) ∧ wr.grownBy w' (some g)) :=
            (Any.sort_Strings Tryd.lays192 g 0 cap ss wr (holds_of_block hb (by simpa using h4)) hgw (by omega)).mono fun e w' ⟨he, nn, os, hw⟩ => by
              subst hw
              refine ⟨he, ?_, grownBy_sorted _⟩
              have hs := ownsRow_sorted (w := wr) (n := nn) (os := os) (ss := ss) (ts := ss.mergeSort (fun x y => decide (x ≤ y))) (by simp) hbase hb h1 h2 h3
              rw [hks] at hs
              unfold OwnS
              rw [hks, List.length_map, ← hsl]
              have e : cellsS (gs.map (·.key)) = (gs.map (fun g => g.key.data.toList)).map encStr := by
                unfold cellsS
                rw [List.map_map, List.map_map]
                rfl
              rw [e]
              exact hs
          rw [hsl] at hsort ⊢
          have HSO := Lib.hid hsort
          have HM := Lib.hid hrg.owns
          clear hsort hsl hcs hrg hrow hl0 hb h1 h2 h3 h4 hks hgl ha hC HSF hgs
          go_wp2_with fail
          refine HSO.out.mono ?_
          rintro e w3 ⟨rfl, hks3, hg3⟩
          have hB3 : Below (w.heap.size + 1 + 1 + 1) (setWorld r p f w) w3 := grown_none hB hg3 (by omega) (by omega)
          have hM3 := HM.out.kept hg3 (show some (w.heap.size + 1 + 1 + 1) ≠ some g by intro e; injection e with e; omega)
          have hg3' : g < w3.heap.size := Nat.lt_of_lt_of_le hgw hg3.size
          clear HSO HM hB hg3 hgw hrs
          obtain ⟨q0, q1, q2, q3, zz, hW⟩ := boxes hB3
          have d0 : w3.cell? ⟨w.heap.size + 1 + 1, 0, none⟩ = some (.string ⟨#[]⟩) := by simp [q2, go_sem]
          have d1 : w3.cell? ⟨w.heap.size + 1 + 1, 1, none⟩ = some (.int .i64 0) := by simp [q2, go_sem]
          have d2 : w3.cell? ⟨w.heap.size + 1 + 1, 2, none⟩ = some (.slice none 0 0) := by simp [q2, go_sem]
          have d3 : w3.cell? ⟨w.heap.size + 1 + 1, 3, none⟩ = some (.slice none 0 0) := by simp [q2, go_sem]
          have f0 : ∀ o, w3.frozen? ⟨w.heap.size + 1 + 1, o, none⟩ = false := fun o => by rw [q3]; simp [go_sem]
          have e0 : w3.cell? ⟨w.heap.size, 0, none⟩ = some (.string r.id) := by simp [q0, go_sem]
          have e1 : w3.cell? ⟨w.heap.size, 1, none⟩ = some (.int .i64 r.cats) := by simp [q0, go_sem]
          have e3 : w3.cell? ⟨w.heap.size, 3, none⟩ = some (.slice p.ra r.rs.length p.rc) := by simp [q0, go_sem]
          have f00 := f0 0; have f01 := f0 1; have f02 := f0 2; have f03 := f0 3
          clear q0 q1 q2 q3 f0
          have z2 : w.heap.size + 1 + 1 < w3.heap.size := by omega
          have z0 : w.heap.size < w3.heap.size := by omega
          by_cases h6 : (6 : Int) < (gs.length : Int)
          · have hth : there r.fs f.key = false ∧ r.fs.length = 6 := by
              have := HGL.out
              split at this
              · omega
              · rename_i hn
                exact ⟨by simpa using hn, by omega⟩
            have hse : r.setErr f = 2 := by
              unfold RecL.setErr
              rw [if_neg (by rw [r.err_ok.2 HO.out]; simp), if_neg (by rw [HF.out]; simp), if_pos hth]
            have hsr : r.setRec f = RecL.zero := by
              unfold RecL.setRec
              rw [if_neg (by rw [hse]; decide)]
            have HSE := Lib.hid hse
            have HSR := Lib.hid hsr
            clear hse hsr
            go_wp2_with fail
            refine bodyPost_ret (v := .tuple #[RecL.zero.v At.none, .int .i64 2]) (by simp [results, Tryd.results15, go_sem, d0, d1, d2, d3, f00, f01, f02, f03, RecL.zero, At.none]) rfl ?_
            rw [HSE.out, HSR.out]
            have h2' : w.heap.size ≤ w.heap.size + 1 + 1 := by omega
            exact ⟨At.none, rfl, zero_in _, (((hW.setCell h2' _).setCell h2' _).setCell h2' _).setCell h2' _⟩
          · have h7 : gs.length ≤ 6 := by omega
            have KS := Lib.hid hks3
            have HMM := Lib.hid hM3
            have HW3 := Lib.hid hW
            go_wp2_with fail
            clear hks3 hM3 hW hB3 h6
            obtain ⟨j0, hj, jz0, jz1, jz2⟩ := info_parts Tryd.infoField
            go_loopw [63] (fun i wz => ∃ (k : Nat) (u : Value), k ≤ gs.length ∧ i = .int .i64 k ∧ wz.ownsRow (w3.heap.size + 1) 27 2 u k (cellsF (gs.take k)) ∧ wz.cell? ⟨w3.heap.size, 0, none⟩ = some (.string r.id) ∧ wz.cell? ⟨w3.heap.size, 1, none⟩ = some (.int .i64 r.cats) ∧
              wz.cell? ⟨w3.heap.size, 2, none⟩ = some u ∧ wz.cell? ⟨w3.heap.size, 3, none⟩ = some (.slice p.ra r.rs.length p.rc) ∧ wz.frozen? ⟨w3.heap.size, 2, none⟩ = false ∧ w3.heap.size + 1 ≤ wz.heap.size ∧ Below w3.heap.size w3 wz) (fun i _ => gs.length - (intOf i).toNat)
            case atStart => exact ⟨0, .slice none 0 0, Nat.zero_le _, rfl, World.ownsRow_nil _ _ _ _, by simp [go_sem], by simp [go_sem], by simp [go_sem], by simp [go_sem], by simp [go_sem], by simp, (Below.refl _ _).alloc (Nat.le_refl _) _⟩
            case round =>
              obtain ⟨k, u, hk, rfl, hrow, o0, o1, o2, o3, o4, hsz, hB⟩ := hrel
              by_cases hlt : k < gs.length
              · obtain ⟨y, hy⟩ : ∃ y, gs[k]? = some y := ⟨_, List.getElem?_eq_getElem hlt⟩
                have kc := keys_at (KS.out.below hB) hy
                have hlk : ∀ z, D.atKey (.string y.key.data.toList) z = .lit (.string y.val.data.toList) := (HSG.out.2 y.key).2 y.val (look_at HAG.out hy)
                have HLK := Lib.hid hlk
                have hMz := HMM.out.kept (row := none) ⟨hB.os, hB.tape, hB.output, hB.size, fun k hk _ => hB.block k hk⟩ (by simp)
                have HY := Lib.hid hy
                have ky : y.key.size ≤ 8 := by
                  have h1 := List.mem_of_getElem? hy
                  rw [HGS.out] at h1
                  rcases mem_setFs h1 with rfl | h1
                  · exact kf
                  · exact (HO.out.key h1).1
                have hz1 : w3.heap.size < wr.heap.size := by omega
                clear hlk hy
                go_wp2_with (first
                  | (at_lookup; refine wpList_lookup_own_str _ rfl _ _ 63 rfl 9 9 lawStr Tryd.underlying63 Tryd.underlying9 (zeroStr _) (w.heap.size + 1 + 1 + 1) 7 _ rfl hMz _ _ rfl (WideMaps.keyOf_string_mk Tryd.underlying9 (s := y.key) (by unfold maxLen; omega)) y.val HLK.out ?_)
                  | (at_builtin; refine wpList_append_own _ rfl _ _ 22 rfl (w3.heap.size + 1) 27 j0 _ 2 32 Tryd.underlying22 hj jz0 jz1 jz2 rfl (by decide) _ _ _ rfl (hrow.alloc _) ⟨wr.heap.size, 0, none⟩ 1 1 (cellsF [y]) rfl rfl ?c1 (cellsF_one [y]) ?c3 ?c4 ?c5 ?_))
                case c1 => exact cell_two_new _ _ _
                case c3 => unfold maxLen; omega
                case c4 => omega
                case c5 => simp; omega
                intro v' w5 hown5 hg5 _
                obtain ⟨A5, c5, rfl⟩ := row_slice hown5
                have hne : u.ownBlock ≠ some w3.heap.size := fun e => by have := (hrow.lt _ e).1; omega
                have hblk := hg5.block w3.heap.size (by simp; omega) (fun e => hne e.symm)
                have s0 : w5.cell? ⟨w3.heap.size, 0, none⟩ = some (.string r.id) := by rw [cell_of_block hblk]; simp [go_sem, hz1, o0]
                have s1 : w5.cell? ⟨w3.heap.size, 1, none⟩ = some (.int .i64 r.cats) := by rw [cell_of_block hblk]; simp [go_sem, hz1, o1]
                have s2 : w5.cell? ⟨w3.heap.size, 2, none⟩ = some u := by rw [cell_of_block hblk]; simp [go_sem, hz1, o2]
                have s3 : w5.cell? ⟨w3.heap.size, 3, none⟩ = some (.slice p.ra r.rs.length p.rc) := by rw [cell_of_block hblk]; simp [go_sem, hz1, o3]
                have s4 : w5.frozen? ⟨w3.heap.size, 2, none⟩ = false := by rw [frozen_of_block hblk]; simp [go_sem, hz1, o4]
                have hB5 : Below w3.heap.size w3 w5 := (hB.alloc (by omega) _).grown hg5 (by simp; omega) (fun j hj => by have := (hrow.lt j hj).1; omega)
                have hs5 : w3.heap.size + 1 ≤ w5.heap.size := by have := hg5.size; simp at this; omega
                rw [cellsF_snoc HY.out] at hown5
                have HW5 := Lib.hid hown5
                clear hrow hblk o0 o1 o2 o3 o4 hown5 hg5 hB hne hsz hz1 kc hMz
                go_wp2_with fail
                go_roundw
                case rel => exact ⟨k + 1, _, by omega, by go_num, ownsRow_setCell_below HW5.out (by simp) _, by simp [go_sem, s0], by simp [go_sem, s1], by simp [go_sem, s2], by simp [go_sem, s3], by simp [go_sem, s4], by simpa [World.setCell] using hs5, hB5.setCell (Nat.le_refl _) _⟩
                case measure => simp [intOf]; omega
              · obtain rfl : k = gs.length := by omega
                rw [List.take_length] at hrow
                obtain ⟨A5, c5, rfl⟩ := row_slice hrow
                have hth : ¬ (there r.fs f.key = false ∧ r.fs.length = 6) := fun h => by
                  have := HGL.out
                  rw [if_neg (by rw [h.1]; simp)] at this
                  omega
                have hse : r.setErr f = 0 := by
                  unfold RecL.setErr
                  rw [if_neg (by rw [r.err_ok.2 HO.out]; simp), if_neg (by rw [HF.out]; simp), if_neg hth]
                have hsr : r.setRec f = r.put f := by
                  unfold RecL.setRec
                  rw [if_pos hse]
                have hpf : (r.put f).fs = gs := HGS.out.symm
                have HSE := Lib.hid hse
                have HSR := Lib.hid hsr
                have HPF := Lib.hid hpf
                have HR := Lib.hid hrow
                obtain ⟨hcb, hfb⟩ := bcell hB
                have b0 := (hcb _ 0 z2).trans d0
                have b1 := (hcb _ 1 z2).trans d1
                have b2 := (hcb _ 2 z2).trans d2
                have b3 := (hcb _ 3 z2).trans d3
                have g0 := (hfb _ 0 z2).trans f00
                have g1 := (hfb _ 1 z2).trans f01
                have g2 := (hfb _ 2 z2).trans f02
                have g3 := (hfb _ 3 z2).trans f03
                have hWr : Below w.heap.size w wr := HW3.out.trans (hB.mono HW3.out.size)
                clear hse hsr hpf hrow hcb hfb d0 d1 d2 d3 f00 f01 f02 f03 hB
                go_wp2_with fail
                refine bodyPost_ret (v := .tuple #[.agg #[.string r.id, .int .i64 r.cats, .slice A5 gs.length c5, .slice p.ra r.rs.length p.rc], .int .i64 0]) (by simp [results, Tryd.results15, go_sem, b0, b1, b2, b3, g0, g1, g2, g3]) rfl ?_
                rw [HSE.out, HSR.out]
                have h2' : w.heap.size ≤ w.heap.size + 1 + 1 := by omega
                have hfin := (((hWr.setCell h2' (.string r.id) (p := ⟨w.heap.size + 1 + 1, 0, none⟩)).setCell h2' (.int .i64 r.cats) (p := ⟨w.heap.size + 1 + 1, 1, none⟩)).setCell h2' (.slice A5 gs.length c5) (p := ⟨w.heap.size + 1 + 1, 2, none⟩)).setCell h2' (.slice p.ra r.rs.length p.rc) (p := ⟨w.heap.size + 1 + 1, 3, none⟩)
                have h2 : w.heap.size + 1 + 1 < w3.heap.size + 1 := by omega
                have hro := ownsRow_setCell_below (ownsRow_setCell_below (ownsRow_setCell_below (ownsRow_setCell_below HR.out (a := ⟨w.heap.size + 1 + 1, 0, none⟩) h2 (.string r.id)) (a := ⟨w.heap.size + 1 + 1, 1, none⟩) h2 (.int .i64 r.cats)) (a := ⟨w.heap.size + 1 + 1, 2, none⟩) h2 (.slice A5 gs.length c5)) (a := ⟨w.heap.size + 1 + 1, 3, none⟩) h2 (.slice p.ra r.rs.length p.rc)
                have hsl : SlF _ A5 gs ∧ gs.length ≤ c5 ∧ c5 ≤ maxLen := OwnF.sl (B := w3.heap.size + 1) hro
                refine ⟨⟨A5, c5, p.ra, p.rc⟩, ?_, ⟨?_, HI.out.hr.below hfin, ?_, HI.out.rl, hsl.2.2, HI.out.rm⟩, hfin⟩
                · show _ = Ending.returned (.tuple #[.agg #[.string r.id, .int .i64 r.cats, .slice A5 (r.put f).fs.length c5, .slice p.ra r.rs.length p.rc], .int .i64 0])
                  rw [HPF.out]
                · rw [HPF.out]
                  exact hsl.1
                · rw [HPF.out]
                  exact hsl.2.1
        · intro x c kl y1 y2 w4 cnt4 hkey hlk hR hat hrg4 hlt4 hg4 hs4 hen
          obtain ⟨x', ex, rfl, _⟩ := Maps.keyOf_str Tryd.underlying9 hkey
          obtain rfl : x = x' := encStr_inj ex
          have hrow4 := hrow.kept hg4 (Or.inr (row_ne_iter hrow hrg).symm)
          have hrs4 : rr ≤ w4.heap.size := by omega
          have hB4 : Below (w.heap.size + 1 + 1 + 1) (setWorld r p f w) w4 := grown_none hB hg4 (by omega) (by omega)
          clear hs4 hg4 ex hkey hR hB hrow
          have HL := Lib.hid hlk
          have HA2 := Lib.hid hat
          clear hlk hat
          go_wp2_with (at_builtin; refine wpList_append_own _ rfl _ _ 23 rfl rr 9 i0 (.string ⟨#[]⟩) 1 16 Tryd.underlying23 hi hz0 hz1 hz2 rfl (by decide) _ _ _ rfl (hrow4.alloc _) ⟨w4.heap.size, 0, none⟩ 1 1 [encStr x] rfl rfl (cell_one_new _ _ _) (by simp [Value.oneCell', encStr]) ?c1 ?c2 ?c3 ?_)
          case c1 => unfold maxLen; omega
          case c2 => omega
          case c3 => simp; omega
          intro v' w5 hown5 hg5 _
          have hr5 : w5.ranges Tryd.prog 9 (plainElem Tryd.prog 9) (w.heap.size + 1 + 1 + 1) rr 7 D _ cnt4 := (hrg4.alloc _).kept hg5 (row_ne_low hrow4 hlt1) (row_ne_iter hrow4 hrg4)
          have hR5 := Lib.hid hr5
          have hB5 : Below (w.heap.size + 1 + 1 + 1) (setWorld r p f w) w5 := (hB4.alloc (by omega) _).grown hg5 (by simp; omega) (fun j hj => by have := (hrow4.lt j hj).1; omega)
          have hs5 : rr ≤ w5.heap.size := by have := hg5.size; simp at this; omega
          clear hr5 hg5 hB4 hrow4
          go_wp2_with fail
          go_roundw
          case rel => exact ⟨_, cnt4, ss ++ [x], hR5.out, by simp; omega, by simpa using hown5, hC.out.step HL.out HA2.out, hB5, hs5⟩
          case measure => rw [hR5.out.left_eq, hrg.left_eq]; exact hlt4
end Go.Proofs.YtdnjboopaagleaaDoor
