/- Contract of slices.Insert over fields, one field put in. -/
import Derived.Test.YtdnjboopaagleaaDoorROwn
import Derived.Lib.AppendZerosOnto
import Derived.Lib.Overlaps
import Derived.Laws.Externs
import Derived.Laws.NewBlocks
set_option linter.unusedVariables false
set_option linter.unusedSimpArgs false
set_option maxRecDepth 100000
namespace Go.Proofs.YtdnjboopaagleaaDoor
open Go.RowKit Go.Sort

/-- the fields with f put in at i -/
def insF (fs : List FieldL) (i : Nat) (f : FieldL) : List FieldL := fs.take i ++ f :: fs.drop i
theorem insF_len {fs : List FieldL} {i : Nat} {f : FieldL} (h : i ≤ fs.length) : (insF fs i f).length = fs.length + 1 := by unfold insF; simp; omega

theorem cellsF_take (fs : List FieldL) (i : Nat) : cellsF (fs.take i) = (cellsF fs).take (i * 2) := by
  induction fs generalizing i with
  | nil => simp [cellsF]
  | cons f r ih =>
    cases i with
    | zero => simp [cellsF]
    | succ i =>
      rw [List.take_succ_cons, cellsF_cons, cellsF_cons, ih, show (i + 1) * 2 = i * 2 + 1 + 1 by omega]
      rfl
theorem cellsF_drop (fs : List FieldL) (i : Nat) : cellsF (fs.drop i) = (cellsF fs).drop (i * 2) := by
  induction fs generalizing i with
  | nil => simp [cellsF]
  | cons f r ih =>
    cases i with
    | zero => simp [cellsF]
    | succ i =>
      rw [List.drop_succ_cons, cellsF_cons, ih, show (i + 1) * 2 = i * 2 + 1 + 1 by omega]
      rfl

/-- .. and but for the row that came in nothing else has turned -/
def InsTo (B : Nat) (A : Option Addr) (fs : List FieldL) (w : World) (e : Ending) (w' : World) : Prop :=
  ∃ A' c, e = .returned (.slice A' fs.length c) ∧ OwnF B w' (.slice A' fs.length c) fs ∧ Below B w w' ∧ ∀ b, b < w.heap.size → A ≠ some ⟨b, 0, none⟩ → w'.heap[b]? = w.heap[b]?

set_option maxHeartbeats 2000000 in
/-- at the end -/
theorem ins_end (B : Nat) (A : Option Addr) (fs : List FieldL) (c vb vc : Nat) (f : FieldL) (w : World) (hown : OwnF B w (.slice A fs.length c) fs) (hB : B ≤ w.heap.size) (hn : fs.length ≤ 1000)
    (h1 : w.cell? ⟨vb, 0, none⟩ = some (.string f.key)) (h2 : w.cell? ⟨vb, 1, none⟩ = some (.string f.val)) :
    Calls Tryd.prog 28 #[.slice A fs.length c, .int .i64 fs.length, .slice (some ⟨vb, 0, none⟩) 1 vc] w (InsTo B A (fs ++ [f]) w) := by
  obtain ⟨i0, hi, hz0, hz1, hz2⟩ := info_parts Tryd.infoField
  have hl : (fs ++ [f]).length = fs.length + 1 := by simp
  have hx : cellsF (fs ++ [f]) = cellsF fs ++ cellsF [f] := cellsF_append _ _
  have hnews : ∀ j u, (cellsF [f])[j]? = some u → w.cell? ((⟨vb, 0, none⟩ : Addr).add j) = some u := by
    intro j u hj
    rw [addr_at]
    match j, hj with
    | 0, hj => cases hj; exact h1
    | 1, hj => cases hj; exact h2
  have HN := Lib.hid hnews
  have HO := Lib.hid hown
  have HL := Lib.hid hl
  have HX := Lib.hid hx
  obtain ⟨n, hn'⟩ : ∃ n, n = fs.length := ⟨_, rfl⟩
  have HNN := Lib.hid hn'
  rw [← hn'] at hn ⊢
  have hown2 : w.ownsRow B 27 2 (.slice A n c) n (cellsF fs) := by rw [hn']; exact hown
  have HO2 := Lib.hid hown2
  have hnc : n ≤ c := by rw [hn']; exact hown.sl.2.1
  have hc63 : c ≤ maxLen := hown.sl.2.2
  unfold maxLen at hc63
  clear hnews hown hl hx hn' hown2 h1 h2
  cases A with
  | none =>
    have h0 : n = 0 := by
      rcases HO2.out.2 with ⟨_, h⟩ | ⟨g, cap, cur, e, _⟩
      · exact h
      · cases e
    subst h0
    go_enter Tryd.func28, Tryd.ntmps28
    go_wp2_with (at_builtin; refine wpList_append_own _ rfl _ _ 22 rfl B 27 i0 _ 2 32 Tryd.underlying22 hi hz0 hz1 hz2 rfl (by decide) _ _ _ rfl HO2.out ⟨vb, 0, none⟩ 1 vc (cellsF [f]) rfl rfl HN.out (cellsF_one [f]) ?c3 ?c4 hB ?_)
    case c3 => unfold maxLen; omega
    case c4 => omega
    intro v' w1 hown' hgrow hnv
    have hnx : Below B w w1 := ⟨hgrow.os, hgrow.tape, hgrow.output, hgrow.size, fun i hi => hgrow.block i (by omega) (fun e => by simp [Value.ownBlock] at e)⟩
    have hoth : Hid (∀ b, b < w.heap.size → (none : Option Addr) ≠ some ⟨b, 0, none⟩ → w1.heap[b]? = w.heap[b]?) := fun b hb _ => hgrow.block b hb (fun e => by simp [Value.ownBlock] at e)
    have ho : OwnF B w1 v' (fs ++ [f]) := by
      unfold OwnF
      rw [HX.out, HL.out, ← HNN.out]
      exact hown'
    obtain ⟨A', c', hv⟩ := ho.form
    have HOO := Lib.hid ho
    clear hnv hgrow hown' ho
    subst hv
    go_wp2_with fail
    go_ret
    exact ⟨A', c', rfl, HOO.out, hnx, hoth.out⟩
  | some ad =>
    obtain ⟨g, rfl⟩ : ∃ g, ad = ⟨g, 0, none⟩ := by
      rcases HO2.out.2 with ⟨e, _⟩ | ⟨g, cap, cur, e, _⟩
      · cases e
      · injection e with e1
        injection e1 with e1
        exact ⟨g, e1⟩
    have hbg : B ≤ g := (World.ownsRow.lt HO2.out g rfl).1
    go_enter Tryd.func28, Tryd.ntmps28
    go_wp2_with (at_builtin; refine wpList_append_own _ rfl _ _ 22 rfl B 27 i0 _ 2 32 Tryd.underlying22 hi hz0 hz1 hz2 rfl (by decide) _ _ _ rfl HO2.out ⟨vb, 0, none⟩ 1 vc (cellsF [f]) rfl rfl HN.out (cellsF_one [f]) ?c3 ?c4 hB ?_)
    case c3 => unfold maxLen; omega
    case c4 => omega
    all_goals
      intro v' w1 hown' hgrow hnv
      have hnx : Below B w w1 := ⟨hgrow.os, hgrow.tape, hgrow.output, hgrow.size, fun i hi => hgrow.block i (by omega) (fun e => by simp [Value.ownBlock] at e; omega)⟩
      have hoth : Hid (∀ b, b < w.heap.size → some (⟨g, 0, none⟩ : Addr) ≠ some ⟨b, 0, none⟩ → w1.heap[b]? = w.heap[b]?) := fun b hb hne => hgrow.block b hb (fun e => hne (by simp [Value.ownBlock] at e; rw [e]))
      have ho : OwnF B w1 v' (fs ++ [f]) := by
        unfold OwnF
        rw [HX.out, HL.out, ← HNN.out]
        exact hown'
      obtain ⟨A', c', hv⟩ := ho.form
      have HOO := Lib.hid ho
      clear hnv hgrow hown' ho
      subst hv
      go_wp2_with fail
      go_ret
      exact ⟨A', c', rfl, HOO.out, hnx, hoth.out⟩

/-- the row behind the two copies: first what stood from i on is moved, then the field is laid -/
theorem splice_room (cur xs : List Value) (a b : Value) (i n : Nat) (hi : i ≤ n) (hx : xs.length = n * 2) (hc : cur.take (n * 2) = xs) (hl : (n + 1) * 2 ≤ cur.length) :
    (splice (splice cur ((i + 1) * 2) (xs.drop (i * 2))) (i * 2) [a, b]).take ((n + 1) * 2) = xs.take (i * 2) ++ a :: b :: xs.drop (i * 2) := by
  have l1 : (cur.take ((i + 1) * 2)).length = (i + 1) * 2 := by rw [List.length_take]; omega
  have l2 : (xs.take (i * 2)).length = i * 2 := by rw [List.length_take]; omega
  have l3 : (xs.drop (i * 2)).length = (n - i) * 2 := by rw [List.length_drop]; omega
  have e1 : (cur.take ((i + 1) * 2)).take (i * 2) = xs.take (i * 2) := by rw [List.take_take, ← hc, List.take_take]; congr 1; omega
  unfold splice
  generalize hR : cur.drop ((i + 1) * 2 + (xs.drop (i * 2)).length) = R
  have e2 : (cur.take ((i + 1) * 2) ++ (xs.drop (i * 2) ++ R)).take (i * 2) = xs.take (i * 2) := by
    rw [List.take_append_of_le_length (by omega), e1]
  have e3 : (cur.take ((i + 1) * 2) ++ (xs.drop (i * 2) ++ R)).drop (i * 2 + [a, b].length) = xs.drop (i * 2) ++ R := by
    rw [List.drop_append_of_le_length (by rw [l1]; show i * 2 + 2 ≤ _; omega), List.drop_of_length_le (by rw [l1]; show _ ≤ i * 2 + 2; omega), List.nil_append]
  rw [e2, e3]
  have e4 : xs.take (i * 2) ++ ([a, b] ++ (xs.drop (i * 2) ++ R)) = (xs.take (i * 2) ++ a :: b :: xs.drop (i * 2)) ++ R := by simp
  rw [e4, List.take_append_of_le_length (by simp; omega), List.take_of_length_le (by simp; omega)]

/-- the row of a new array: first the field is laid, then what stood from i on -/
theorem splice_grow (row xs : List Value) (a b : Value) (i n : Nat) (hi : i ≤ n) (hx : xs.length = n * 2) (hc : row.take (i * 2) = xs.take (i * 2)) (hl : (n + 1) * 2 ≤ row.length) :
    (splice (splice row (i * 2) [a, b]) ((i + 1) * 2) (xs.drop (i * 2))).take ((n + 1) * 2) = xs.take (i * 2) ++ a :: b :: xs.drop (i * 2) := by
  unfold splice
  have e1 : List.take ((i + 1) * 2) (List.take (i * 2) row ++ ([a, b] ++ List.drop (i * 2 + [a, b].length) row)) = xs.take (i * 2) ++ [a, b] := by
    rw [hc, List.take_append, List.take_of_length_le (by simp; omega), List.take_append]
    have : (List.take (i * 2) xs).length = i * 2 := by simp; omega
    rw [this, show (i + 1) * 2 - i * 2 = 2 by omega]
    rfl
  rw [e1, ← List.append_assoc, List.take_append, List.take_of_length_le (by simp; omega)]
  have : (xs.take (i * 2) ++ [a, b] ++ xs.drop (i * 2)).length = (n + 1) * 2 := by simp; omega
  rw [this, Nat.sub_self, List.take_zero, List.append_nil, List.append_assoc]
  rfl

set_option maxHeartbeats 4000000 in
set_option maxRecDepth 100000 in
/-- in the midst, there is room -/
theorem ins_room (B g : Nat) (fs : List FieldL) (c vb vc i : Nat) (f : FieldL) (w : World) (hown : OwnF B w (.slice (some ⟨g, 0, none⟩) fs.length c) fs) (hn : fs.length ≤ 1000)
    (hv : w.heap[vb]? = some (.cells #[.string f.key, .string f.val] 27 (0, 0))) (hvg : vb ≠ g) (hi : i < fs.length) (hroom : fs.length + 1 ≤ c) :
    Calls Tryd.prog 28 #[.slice (some ⟨g, 0, none⟩) fs.length c, .int .i64 i, .slice (some ⟨vb, 0, none⟩) 1 vc] w (InsTo B (some ⟨g, 0, none⟩) (insF fs i f) w) := by
  obtain ⟨cur, hlo, hg, h1, h2, h3, h4⟩ : ∃ cur, B ≤ g ∧ w.heap[g]? = some (.cells cur 27 (0, 0)) ∧ fs.length ≤ c ∧ c ≤ maxLen ∧ cur.size = c * 2 ∧ cur.toList.take (fs.length * 2) = cellsF fs := by
    rcases hown.2 with ⟨e, _⟩ | ⟨g', cap, cur, e, hlo, hg, h1, h2, h3, h4⟩
    · cases e
    · injection e with e1 e2 e3
      injection e1 with e1
      injection e1 with e1
      subst e1 e3
      exact ⟨cur, hlo, hg, h1, h2, h3, h4⟩
  have hsz : (Tryd.prog.info? 27).map (·.size) = some 2 := by
    obtain ⟨i0, hi0, _, h, _⟩ := info_parts Tryd.infoField
    rw [hi0]; simp [h]
  have hv1 : w.cell? ⟨vb, 0, none⟩ = some (.string f.key) := by simp [World.cell?, hv]
  have hv2 : w.cell? ⟨vb, 1, none⟩ = some (.string f.val) := by simp [World.cell?, hv]
  have hsa : w.shape? vb = some (27, 2) := by simp [World.shape?, hv]
  have hsb : w.shape? g = some (27, c * 2) := by simp [World.shape?, hg, h3]
  have hfa : w.frozen? ⟨vb, 0, none⟩ = false := by simp [World.frozen?, hv]
  have hfe : w.frozen? ⟨vb, 2, none⟩ = false := by simp [World.frozen?, hv]
  have hov : ∀ lb cb, (callFunc 47 #[.slice (some ⟨vb, 0, none⟩) 1 vc, .slice (some ⟨g, (i + 1) * 2, none⟩) lb cb]).run Tryd.prog w = .ok (.value (.bool false)) w := fun lb cb => by
    rw [run_callFunc_extern Tryd.func47 (by kernel_rfl) (by kernel_rfl) (by kernel_rfl) (e := Extern.SlicesOverlaps.overlaps #[22, 22] #[4]) (by kernel_rfl),
      Lib.run_overlaps_apart w 22 4 27 Tryd.underlying22 2 (by intro w; exact Tryd.sizeOf27 w) ⟨vb, 0, none⟩ ⟨g, (i + 1) * 2, none⟩ 1 vc lb cb hvg _ _ _ _ hsa hsb (by omega) hfa hfe]
    rfl
  obtain ⟨n, hn'⟩ : ∃ n, n = fs.length := ⟨_, rfl⟩
  have hxl : (cellsF fs).length = n * 2 := by rw [cellsF_len, hn']
  have hlen : (insF fs i f).length = n + 1 := by rw [insF_len (by omega), hn']
  rw [← hn'] at hn hi hroom h1 h4 ⊢
  have hcl : (n + 1) * 2 ≤ cur.toList.length := by rw [Array.length_toList, h3]; omega
  have hrow := splice_room cur.toList (cellsF fs) (.string f.key) (.string f.val) i n (by omega) hxl h4 hcl
  have hsrc1 : ∀ j u, ((cellsF fs).drop (i * 2))[j]? = some u → w.cell? ((⟨g, i * 2, none⟩ : Addr).add j) = some u := fun j u hj => by
    rw [addr_off]
    rw [List.getElem?_drop, ← h4, List.getElem?_take] at hj
    split at hj
    · simp only [World.cell?, hg]
      simpa using hj
    · cases hj
  have hd : ((cellsF fs).drop (i * 2)).length = (n - i) * 2 := by rw [List.length_drop, hxl]; omega
  have hone : ∀ u ∈ (cellsF fs).drop (i * 2), u.oneCell' = true := fun u hu => cellsF_one fs u (List.mem_of_mem_drop hu)
  have hins : cellsF (insF fs i f) = (cellsF fs).take (i * 2) ++ .string f.key :: .string f.val :: (cellsF fs).drop (i * 2) := by
    unfold insF
    rw [cellsF_append, cellsF_cons, cellsF_take, cellsF_drop]
  have hg' : w.heap[g]? = some (.cells cur.toList.toArray 27 (0, 0)) := by simpa using hg
  have hcm := h2
  unfold maxLen at hcm
  have hz2 : ¬ ((i : Int) = (n : Int)) := by omega
  have hz3 : ¬ ((c : Int) < (n : Int) + 1) := by omega
  have hw1 : IntKind.i64.wrap ((i : Int) + 1) = (i : Int) + 1 := by rw [IntKind.wrap_i64]; omega
  have hb1 : (0 : Int) ≤ (i : Int) + 1 := by omega
  have hb0 : (0 : Int) ≤ (i : Int) := by omega
  have htn : ((i : Int) + 1).toNat = i + 1 := by omega
  have hb2 : ¬ (c = i + 1) := by omega
  have hb3 : (i : Int) + 1 ≤ (n : Int) + 1 := by omega
  have hb5 : (i : Int) ≤ (n : Int) + 1 := by omega
  have hb6 : i ≤ n := by omega
  have hb4 : ¬ (c = i) := by omega
  have HS1 := Lib.hid hsrc1; have HG := Lib.hid hg'; have HR := Lib.hid hrow; have HD := Lib.hid hd; have HO1 := Lib.hid hone; have HI := Lib.hid hins; have HL := Lib.hid hlen; have HNN := Lib.hid hn'; have HC := Lib.hid hcl; have H3 := Lib.hid h3; have HV1 := Lib.hid hv1; have HV2 := Lib.hid hv2; have HV := Lib.hid hv
  generalize hX : (cellsF fs).drop (i * 2) = X at HS1 HD HO1 HR HI
  clear hsrc1 hg' hrow hd hone hins hlen hn' hcl h3 hown h4 hg hxl hv1 hv2 hX hsa hsb hfa hfe hv
  go_enter Tryd.func28, Tryd.ntmps28
  go_wp2_with (simp only [hov])
  go_region_law (refine step_copy_rowN rfl _ _ 22 22 rfl 27 2 Tryd.underlying22 hsz g ((i + 1) * 2) (n + 1 - (i + 1)) (c - (i + 1)) ⟨g, i * 2, none⟩ (n + 1 - i) (c - i) (by simp [Act.eval, Act.put]) (by simp [Act.eval, Act.put]) cur.toList 27 HG.out X (by rw [HD.out]; simp only [Nat.min_def]; split <;> omega) HS1.out (by rw [HD.out]; have := HC.out; omega) HO1.out B w ((Below.refl _ _).drew) hlo ?_; intro w2 HG2 hB2 ho2)
  have hv3 : w2.heap[vb]? = some (.cells #[.string f.key, .string f.val] 27 (0, 0)) := (ho2 vb hvg).trans HV.out
  have hk1 : w2.cell? ⟨vb, 0, none⟩ = some (.string f.key) := by simp [World.cell?, hv3]
  have hk2 : w2.cell? ⟨vb, 1, none⟩ = some (.string f.val) := by simp [World.cell?, hv3]
  have HV3 := Lib.hid hv3
  have HK1 := Lib.hid hk1
  have HK2 := Lib.hid hk2
  have HO2 := Lib.hid ho2
  have hnews : ∀ j u, ([.string f.key, .string f.val] : List Value)[j]? = some u → w2.cell? ((⟨vb, 0, none⟩ : Addr).add j) = some u := by
    intro j u hj
    rw [addr_at]
    match j, hj with
    | 0, hj => cases hj; exact HK1.out
    | 1, hj => cases hj; exact HK2.out
  have HN := Lib.hid hnews
  clear hv3 hk1 hk2 ho2 hnews
  go_wp2_with (with_reducible refine wpList_copy_rowN rfl (.tmp 80) (.tmp 81) 22 22 rfl 27 2 Tryd.underlying22 hsz g (i * 2) (n + 1 - i) (c - i) ⟨vb, 0, none⟩ 1 vc rfl rfl (splice cur.toList ((i + 1) * 2) X) 27 HG2.out [.string f.key, .string f.val] ?c1 HN.out ?c2 ?c3 B w hB2 hlo ?_)
  case c1 => simp only [Nat.min_def]; split <;> (simp; try omega)
  case c2 =>
    have := length_splice cur.toList ((i + 1) * 2) X (by rw [HD.out]; have := HC.out; omega)
    rw [this]
    have := HC.out
    simp
    simp at this
    omega
  case c3 =>
    intro u hu
    rcases List.mem_cons.1 hu with rfl | hu
    · rfl
    · rcases List.mem_cons.1 hu with rfl | hu
      · rfl
      · cases hu
  intro w3 HG3 hB3 ho3
  have HO3 := Lib.hid ho3
  clear ho3
  go_wp2_with fail
  go_ret
  have e1 : (splice (splice cur.toList ((i + 1) * 2) X) (i * 2) [.string f.key, .string f.val]).length = cur.toList.length := by
    have e2 := length_splice cur.toList ((i + 1) * 2) X (by rw [HD.out]; have := HC.out; omega)
    rw [length_splice _ _ _ (by rw [e2]; have := HC.out; show i * 2 + 2 ≤ _; omega), e2]
  refine ⟨some ⟨g, 0, none⟩, c, by rw [HL.out]; rfl, ?_, hB3, fun b hb hne => ((HO3.out b (fun e => hne (by rw [e]))).trans (HO2.out b (fun e => hne (by rw [e]))))⟩
  refine ⟨cellsF_len _, .inr ⟨g, c, (splice (splice cur.toList ((i + 1) * 2) X) (i * 2) [.string f.key, .string f.val]).toArray, rfl, hlo, HG3.out, by rw [HL.out]; exact hroom, h2, ?_, ?_⟩⟩
  · rw [List.size_toArray, e1, Array.length_toList, H3.out]
  · rw [HL.out, List.toList_toArray, HR.out, HI.out]

set_option maxHeartbeats 4000000 in
set_option maxRecDepth 100000 in
/-- in the midst, there is no room -/
theorem ins_grow (B g : Nat) (fs : List FieldL) (c vb vc i : Nat) (f : FieldL) (w : World) (hown : OwnF B w (.slice (some ⟨g, 0, none⟩) fs.length c) fs) (hn : fs.length ≤ 1000) (hB : B ≤ w.heap.size)
    (hv : w.heap[vb]? = some (.cells #[.string f.key, .string f.val] 27 (0, 0))) (hi : i < fs.length) (hroom : c < fs.length + 1) :
    Calls Tryd.prog 28 #[.slice (some ⟨g, 0, none⟩) fs.length c, .int .i64 i, .slice (some ⟨vb, 0, none⟩) 1 vc] w (InsTo B (some ⟨g, 0, none⟩) (insF fs i f) w) := by
  obtain ⟨i0, hi0, hz0, hz1, hz2⟩ := info_parts Tryd.infoField
  have hsz : (Tryd.prog.info? 27).map (·.size) = some 2 := by rw [hi0]; simp [hz1]
  have hcells := hown.sl.1.cells
  have hcn : c = fs.length := by have := hown.sl.2.1; omega
  subst hcn
  obtain ⟨n, hn'⟩ : ∃ n, n = fs.length := ⟨_, rfl⟩
  have hxl : (cellsF fs).length = n * 2 := by rw [cellsF_len, hn']
  have hlen : (insF fs i f).length = n + 1 := by rw [insF_len (by omega), hn']
  rw [← hn'] at hn hi hroom ⊢
  have hgw : g < w.heap.size := (World.ownsRow.lt hown g rfl).2
  have hvw : vb < w.heap.size := by
    rcases Nat.lt_or_ge vb w.heap.size with h | h
    · exact h
    · rw [Array.getElem?_eq_none h] at hv; cases hv
  have hold : (Builtin.firstCells i0.size i (.slice (some ⟨g, 0, none⟩) i n)).run Tryd.prog w.drew = .ok ((cellsF fs).take (i * 2)).toArray w.drew := by
    rw [hz1]
    exact run_firstCells_some w.drew 2 i ⟨g, 0, none⟩ i n ((cellsF fs).take (i * 2)) (by rw [List.length_take]; omega) (fun j v hj => by
      rw [List.getElem?_take] at hj
      split at hj
      · exact hcells j v hj
      · cases hj)
  have hkk : (n : Int) + 1 - (i : Int) = ((n + 1 - i : Nat) : Int) := by omega
  have hik : i + (n + 1 - i) = n + 1 := by omega
  obtain ⟨G, hG⟩ : ∃ G, G = grownCap w (n + 1) n 27 := ⟨_, rfl⟩
  obtain ⟨ROW, hROW⟩ : ∃ ROW : Array Value, ROW = ((cellsF fs).take (i * 2)).toArray ++ Builtin.zeroCells (Value.agg #[.string ⟨#[]⟩, .string ⟨#[]⟩]).cells (n + 1 - i) ++ Builtin.zeroCells (Value.agg #[.string ⟨#[]⟩, .string ⟨#[]⟩]).cells (G - (n + 1)) := ⟨_, rfl⟩
  obtain ⟨W1, hW1⟩ : ∃ W1, W1 = w.drew.alloc (.cells ROW 27) := ⟨_, rfl⟩
  have hrz : ∀ ty, (Builtin.append_ #[22, 3] ty #[.slice (some ⟨g, 0, none⟩) i n, .int .i64 ((n : Int) + 1 - (i : Int))]).run Tryd.prog w = .ok (.slice (some ⟨w.heap.size, 0, none⟩) (n + 1) G) W1 := fun ty => by
    have h := Lib.run_append_grow_zeros w 22 3 ty 27 i0 _ .i64 .i64 Tryd.underlying22 Tryd.underlying3 hi0 hz0 (some ⟨g, 0, none⟩) i n ((cellsF fs).take (i * 2)) hold (n + 1 - i) (by omega) (by omega) (by omega) (by omega) (by rw [hz2]; omega) (by rw [hz2, hik]; exact growslice_fits (by omega) (by omega))
    rw [hik, ← hG, ← hROW, ← hW1] at h
    rw [hkk]
    exact h
  have hGn : n + 1 ≤ G := by rw [hG]; exact grownCap_ge w _ _ _
  have hGm : G ≤ maxLen := by rw [hG]; exact grownCap_le_maxLen w (n + 1) n _ (by unfold maxLen; omega)
  have hRl : ROW.size = G * 2 := by
    rw [hROW]
    have z : (Value.agg #[Value.string ⟨#[]⟩, .string ⟨#[]⟩]).cells.size = 2 := rfl
    simp only [Array.size_append, List.size_toArray, size_zeroCells, z, List.length_take, hxl]
    omega
  have hRt : ROW.toList.take (i * 2) = (cellsF fs).take (i * 2) := by
    rw [hROW, Array.toList_append, Array.toList_append, List.append_assoc, List.toList_toArray, List.take_append_of_le_length (by rw [List.length_take]; omega), List.take_take, Nat.min_self]
  have HG1 : Hid (W1.heap[w.heap.size]? = some (.cells ROW.toList.toArray 27 (0, 0))) := by
    show W1.heap[w.heap.size]? = _
    rw [hW1, Array.toArray_toList]
    exact heap_alloc_new w.drew _
  have hbW : Below w.heap.size w W1 := by rw [hW1]; exact ((Below.refl _ _).drew).alloc (Nat.le_refl _) _
  have hd : ((cellsF fs).drop (i * 2)).length = (n - i) * 2 := by rw [List.length_drop, hxl]; omega
  have hone : ∀ u ∈ (cellsF fs).drop (i * 2), u.oneCell' = true := fun u hu => cellsF_one fs u (List.mem_of_mem_drop hu)
  have hins : cellsF (insF fs i f) = (cellsF fs).take (i * 2) ++ .string f.key :: .string f.val :: (cellsF fs).drop (i * 2) := by
    unfold insF
    rw [cellsF_append, cellsF_cons, cellsF_take, cellsF_drop]
  have hcl : (n + 1) * 2 ≤ ROW.toList.length := by rw [Array.length_toList, hRl]; omega
  have hrow := splice_grow ROW.toList (cellsF fs) (.string f.key) (.string f.val) i n (by omega) hxl hRt hcl
  have hv1 : W1.heap[vb]? = some (.cells #[.string f.key, .string f.val] 27 (0, 0)) := (hbW.block vb hvw).trans hv
  have hk1 : W1.cell? ⟨vb, 0, none⟩ = some (.string f.key) := by simp [World.cell?, hv1]
  have hk2 : W1.cell? ⟨vb, 1, none⟩ = some (.string f.val) := by simp [World.cell?, hv1]
  have hnews : ∀ j u, ([.string f.key, .string f.val] : List Value)[j]? = some u → W1.cell? ((⟨vb, 0, none⟩ : Addr).add j) = some u := by
    intro j u hj
    rw [addr_at]
    match j, hj with
    | 0, hj => cases hj; exact hk1
    | 1, hj => cases hj; exact hk2
  have hsrc1 : ∀ j u, ((cellsF fs).drop (i * 2))[j]? = some u → W1.cell? ((⟨g, i * 2, none⟩ : Addr).add j) = some u := fun j u hj => by
    rw [addr_off]
    rw [List.getElem?_drop] at hj
    have := hcells _ u hj
    rw [addr_at] at this
    rw [hbW.cell (p := ⟨g, i * 2 + j, none⟩) hgw]
    exact this
  have hGi : ¬ (G = i) := by omega
  have hGim : ¬ (G = i + 1) := by omega
  have hGm63 := hGm
  unfold maxLen at hGm63
  have hni : ¬ (n = i) := by omega
  have hz2' : ¬ ((i : Int) = (n : Int)) := by omega
  have hz3 : (n : Int) < (n : Int) + 1 := by omega
  have hw1 : IntKind.i64.wrap ((i : Int) + 1) = (i : Int) + 1 := by rw [IntKind.wrap_i64]; omega
  have hb1 : (0 : Int) ≤ (i : Int) + 1 := by omega
  have hb0 : (0 : Int) ≤ (i : Int) := by omega
  have htn : ((i : Int) + 1).toNat = i + 1 := by omega
  have hb3 : (i : Int) + 1 ≤ (n : Int) + 1 := by omega
  have hb5 : (i : Int) ≤ (n : Int) + 1 := by omega
  have hb6 : i ≤ n := by omega
  have hb7 : (i : Int) ≤ (n : Int) := by omega
  have hgN : w.heap.size ≠ g := by omega
  have HS1 := Lib.hid hsrc1; have HR := Lib.hid hrow; have HD := Lib.hid hd; have HO1 := Lib.hid hone; have HI := Lib.hid hins; have HL := Lib.hid hlen; have HNN := Lib.hid hn'; have HC := Lib.hid hcl; have HN := Lib.hid hnews; have HRl := Lib.hid hRl; have HBW := Lib.hid hbW
  generalize hX : (cellsF fs).drop (i * 2) = X at HS1 HD HO1 HR HI
  clear hsrc1 hrow hd hone hins hlen hn' hcl hX hnews hkk hik hold hROW hG hRl hRt hW1 hbW hv1 hk1 hk2 hcells hxl hv hown hz0 hz1 hz2 hi0
  go_enter Tryd.func28, Tryd.ntmps28
  go_wp2_with (first
    | (at_builtin; refine Lib.wpList_append_run _ rfl _ _ _ _ rfl _ _ rfl rfl _ _ (hrz _) ?_)
    | (with_reducible refine wpList_copy_rowN rfl (.tmp 43) (.tmp 44) 22 22 rfl 27 2 Tryd.underlying22 hsz w.heap.size (i * 2) (n + 1 - i) (G - i) ⟨vb, 0, none⟩ 1 vc rfl rfl ROW.toList 27 HG1.out [.string f.key, .string f.val] ?c1 HN.out ?c2 ?c3 B w ?c4 hB ?_))
  case c1 => simp only [Nat.min_def]; split <;> (simp; try omega)
  case c2 =>
    have := HC.out
    simp
    simp at this
    omega
  case c3 =>
    intro u hu
    rcases List.mem_cons.1 hu with rfl | hu
    · rfl
    · rcases List.mem_cons.1 hu with rfl | hu
      · rfl
      · cases hu
  case c4 => exact HBW.out.mono hB
  intro w2 HG2 hB2 ho2
  have hs2 : ∀ j u, X[j]? = some u → w2.cell? ((⟨g, i * 2, none⟩ : Addr).add j) = some u := fun j u hj => by
    have := HS1.out j u hj
    rw [addr_off] at this ⊢
    rw [World.cell?_of_block (w := W1) (ho2 g (Ne.symm hgN))]
    exact this
  have HS2 := Lib.hid hs2
  have HO2 := Lib.hid ho2
  clear hs2 ho2
  go_wp2_with fail
  go_region_law (refine step_copy_rowN rfl _ _ 22 22 rfl 27 2 Tryd.underlying22 hsz w.heap.size ((i + 1) * 2) (n + 1 - (i + 1)) (G - (i + 1)) ⟨g, i * 2, none⟩ (n - i) (n - i) (by simp [Act.eval, Act.put]) (by simp [Act.eval, Act.put]) (splice ROW.toList (i * 2) [.string f.key, .string f.val]) 27 HG2.out X (by rw [HD.out]; simp only [Nat.min_def]; split <;> omega) HS2.out (by rw [HD.out, length_splice _ _ _ (by have := HC.out; show i * 2 + 2 ≤ _; omega)]; have := HC.out; omega) HO1.out B w (hB2.drew) hB ?_; intro w3 HG3 hB3 ho3)
  have HO3 := Lib.hid ho3
  clear ho3
  go_wp2_with fail
  go_ret
  have e1 : (splice (splice ROW.toList (i * 2) [.string f.key, .string f.val]) ((i + 1) * 2) X).length = ROW.toList.length := by
    have e2 := length_splice ROW.toList (i * 2) [.string f.key, .string f.val] (by have := HC.out; show i * 2 + 2 ≤ _; omega)
    rw [length_splice _ _ _ (by rw [e2, HD.out]; have := HC.out; omega), e2]
  refine ⟨some ⟨w.heap.size, 0, none⟩, G, by rw [HL.out]; rfl, ?_, hB3, fun b hb _ => ((HO3.out b (by omega)).trans ((HO2.out b (by omega)).trans (HBW.out.block b hb)))⟩
  refine ⟨cellsF_len _, .inr ⟨w.heap.size, G, (splice (splice ROW.toList (i * 2) [.string f.key, .string f.val]) ((i + 1) * 2) X).toArray, rfl, hB, HG3.out, by rw [HL.out]; exact hGn, hGm, ?_, ?_⟩⟩
  · rw [List.size_toArray, e1, Array.length_toList, HRl.out]
  · rw [HL.out, List.toList_toArray, HR.out, HI.out]

/-- slices.Insert of one field -/
theorem ins_any (B : Nat) (A : Option Addr) (fs : List FieldL) (c vb vc i : Nat) (f : FieldL) (w : World) (hown : OwnF B w (.slice A fs.length c) fs) (hB : B ≤ w.heap.size) (hn : fs.length ≤ 1000)
    (hv : w.heap[vb]? = some (.cells #[.string f.key, .string f.val] 27 (0, 0))) (hvg : ∀ g, A = some ⟨g, 0, none⟩ → vb ≠ g) (hi : i ≤ fs.length) :
    Calls Tryd.prog 28 #[.slice A fs.length c, .int .i64 i, .slice (some ⟨vb, 0, none⟩) 1 vc] w (InsTo B A (insF fs i f) w) := by
  by_cases he : i = fs.length
  · subst he
    have e : insF fs fs.length f = fs ++ [f] := by unfold insF; rw [List.take_length, List.drop_length]
    rw [e]
    exact ins_end B A fs c vb vc f w hown hB hn (by simp [World.cell?, hv]) (by simp [World.cell?, hv])
  · obtain ⟨g, rfl⟩ : ∃ g, A = some ⟨g, 0, none⟩ := by
      rcases hown.2 with ⟨e, h0⟩ | ⟨g, cap, cur, e, _⟩
      · omega
      · injection e with e1
        exact ⟨g, e1⟩
    by_cases hr : fs.length + 1 ≤ c
    · exact ins_room B g fs c vb vc i f w hown hn hv (hvg g rfl) (by omega) hr
    · exact ins_grow B g fs c vb vc i f w hown hn hB hv (by omega) (by omega)
end Go.Proofs.YtdnjboopaagleaaDoor
