/- The contract of log.readRules. -/
import Derived.Test.YtepenlciaanoeaaGreatDoorLChunk
import Derived.Test.YtepenlciaanoeaaGreatDoorRuleA
set_option linter.unusedVariables false
set_option linter.unusedSimpArgs false
set_option maxRecDepth 100000
namespace Go.Proofs.YtepenlciaanoeaaGreatDoor
open Go.RowKit Go.Shelf Go.Sort

attribute [local go_sem] Oper.semAt_some

/-! ## rules by sixes -/
def chunkW (ws : List (List UInt8)) (x : Nat) : List (List UInt8) := (ws.drop (6 * x)).take 6
def rOf (ws : List (List UInt8)) (x : Nat) : RuleL := (ruleW (chunkW ws x)).getD rule0
theorem chunkW_succ (a b c d e f : List UInt8) (r : List (List UInt8)) (x : Nat) : chunkW (a :: b :: c :: d :: e :: f :: r) (x + 1) = chunkW r x := by
  unfold chunkW
  rw [show 6 * (x + 1) = 6 * x + 6 by omega]
  rfl
theorem chunks_six (n : Nat) : chunks (n + 6) = chunks n + 1 := by unfold chunks; omega
theorem rules_all : ∀ {ws : List (List UInt8)}, (∀ x, x < chunks ws.length → (ruleW (chunkW ws x)).isSome = true) → rulesOf ws = some ((List.range (chunks ws.length)).map (rOf ws))
  | [], _ => rfl
  | [a], h => by have := h 0 (by simp [chunks]); simp [chunkW, ruleW] at this
  | [a, b], h => by have := h 0 (by simp [chunks]); simp [chunkW, ruleW] at this
  | [a, b, c], h => by have := h 0 (by simp [chunks]); simp [chunkW, ruleW] at this
  | [a, b, c, d], h => by have := h 0 (by simp [chunks]); simp [chunkW, ruleW] at this
  | [a, b, c, d, e], h => by have := h 0 (by simp [chunks]); simp [chunkW, ruleW] at this
  | a :: b :: c :: d :: e :: f :: r, h => by
    have hl : (a :: b :: c :: d :: e :: f :: r).length = r.length + 6 := rfl
    rw [hl, chunks_six] at h ⊢
    have ih := rules_all (ws := r) fun x hx => by
      have := h (x + 1) (by omega)
      rw [chunkW_succ] at this
      exact this
    have h0 := h 0 (by omega)
    have e0 : chunkW (a :: b :: c :: d :: e :: f :: r) 0 = [a, b, c, d, e, f] := by simp [chunkW]
    rw [e0] at h0
    replace h0 : (ruleOf a b c d e f).isSome = true := h0
    obtain ⟨q, hq⟩ := Option.isSome_iff_exists.1 h0
    unfold rulesOf
    rw [hq, ih, List.range_succ_eq_map, List.map_cons, List.map_map]
    show some (q :: _) = some (rOf _ 0 :: _)
    have e1 : rOf (a :: b :: c :: d :: e :: f :: r) 0 = q := by
      unfold rOf
      rw [e0]
      show (ruleOf a b c d e f).getD rule0 = q
      rw [hq]
      rfl
    rw [e1]
    rfl
theorem rules_bad : ∀ {ws : List (List UInt8)} {x : Nat}, x < chunks ws.length → ruleW (chunkW ws x) = none → rulesOf ws = none
  | [], x, hx, _ => by simp [chunks] at hx
  | [_], _, _, _ => rfl
  | [_, _], _, _, _ => rfl
  | [_, _, _], _, _, _ => rfl
  | [_, _, _, _], _, _, _ => rfl
  | [_, _, _, _, _], _, _, _ => rfl
  | a :: b :: c :: d :: e :: f :: r, x, hx, h => by
    have hl : (a :: b :: c :: d :: e :: f :: r).length = r.length + 6 := rfl
    rw [hl, chunks_six] at hx
    unfold rulesOf
    cases x with
    | zero =>
      have e0 : chunkW (a :: b :: c :: d :: e :: f :: r) 0 = [a, b, c, d, e, f] := by simp [chunkW]
      rw [e0] at h
      replace h : ruleOf a b c d e f = none := h
      rw [h]
    | succ x =>
      rw [chunkW_succ] at h
      rw [rules_bad (x := x) (by omega) h]
      cases ruleOf a b c d e f <;> rfl
theorem chunk_words (xs : List ByteArray) (x : Nat) : ((xs.drop (6 * x)).take 6).map (fun s => s.data.toList) = chunkW (xs.map fun s => s.data.toList) x := by
  unfold chunkW
  rw [List.map_take, List.map_drop]
theorem chunk_len (xs : List ByteArray) (x : Nat) : ((xs.drop (6 * x)).take 6).length = min 6 (xs.length - 6 * x) := by
  rw [List.length_take, List.length_drop]
theorem slS_chunk {w : World} {g o : Nat} {xs : List ByteArray} (h : SlS w (some ⟨g, o, none⟩) xs) (x : Nat) : SlS w (some ⟨g, o + 6 * x, none⟩) ((xs.drop (6 * x)).take 6) := fun k s hk => by
  rw [List.getElem?_take] at hk
  split at hk
  · rw [List.getElem?_drop] at hk
    obtain ⟨b, off, e, hc⟩ := h _ s hk
    cases e
    exact ⟨_, _, rfl, by rw [Nat.add_assoc]; exact hc⟩
  · cases hk
theorem flat_congrR {f g : Nat → List Value} : ∀ {n : Nat}, (∀ k, k < n → f k = g k) → flat f n = flat g n
  | 0, _ => rfl
  | n + 1, h => by rw [flat_succ, flat_succ, flat_congrR (fun k hk => h k (by omega)), h n (by omega)]
theorem nthR_left {l : List RuleL} {r : RuleL} {k : Nat} (h : k < l.length) : nthR (l ++ [r]) k = nthR l k := by
  unfold nthR
  rw [List.getD, List.getD, List.getElem?_append_left h]
theorem nthR_last (l : List RuleL) (r : RuleL) : nthR (l ++ [r]) l.length = r := by
  unfold nthR
  rw [List.getD, List.getElem?_append_right (Nat.le_refl _), Nat.sub_self]
  rfl
theorem nthR_snoc (l : List RuleL) (r : RuleL) : cellsR (nthR (l ++ [r])) (l.length + 1) = cellsR (nthR l) l.length ++ r.cells := by
  show flat (fun k => (nthR (l ++ [r]) k).cells) (l.length + 1) = _
  rw [flat_succ, nthR_last, flat_congrR fun k hk => by rw [nthR_left hk]]
  rfl

/-! ## the call -/
def RulesTo (R : Option (List RuleL)) (w : World) (e : Ending) (w' : World) : Prop :=
  (∃ l A c, R = some l ∧ e = .returned (.tuple #[.slice A l.length c, .bool true]) ∧ OwnR w.heap.size w' (.slice A l.length c) l.length (nthR l) ∧ Below w.heap.size w w') ∨
  (R = none ∧ e = .returned (.tuple #[.slice none 0 0, .bool false]) ∧ Below w.heap.size w w')

theorem keeps_below {W W1 : World} (hb : Below W.heap.size W W1) : KeepsOthers W W1 := ⟨hb.size, fun k o hk _ => (hb.block k (Array.getElem?_eq_some_iff.1 hk).1).trans hk⟩
theorem boxed_below {W W1 : World} {B : Nat} {t : TypeId} {v : Value} (h : Boxed W B t v) (hb : Below W.heap.size W W1) : Boxed W1 B t v := (hb.block B h.lt).trans h
theorem cell_rule_new (W : World) (q : RuleL) (t : TypeId) : ∀ j u, q.cells[j]? = some u → (W.alloc (.cells #[.int .i64 q.role, .int .i64 q.why, .int .i64 q.frm, .int .i64 q.til, .int .i64 q.cats, .bool q.allow] t)).cell? ((⟨W.heap.size, 0, none⟩ : Addr).add j) = some u := fun j u hj => by
  rw [addr_at]
  unfold RuleL.cells at hj
  match j, hj with
  | 0, hj => cases hj; simp [go_sem]
  | 1, hj => cases hj; simp [go_sem]
  | 2, hj => cases hj; simp [go_sem]
  | 3, hj => cases hj; simp [go_sem]
  | 4, hj => cases hj; simp [go_sem]
  | 5, hj => cases hj; simp [go_sem]
/-- what is known between two rounds: the rules so far, the results' boxes -/
def RulI (w : World) (ws : List (List UInt8)) (pre : List Nat) (W : World) : Prop :=
  (∃ v, Boxed W (w.heap.size + 2) 36 v ∧ W.ownsRow w.heap.size 51 6 v pre.length (cellsR (nthR (pre.map (rOf ws))) pre.length) ∧ ∀ x ∈ pre, (ruleW (chunkW ws x)).isSome = true) ∧
  (Boxed W w.heap.size 36 (.slice none 0 0) ∧ Boxed W (w.heap.size + 1) 4 (.bool false)) ∧ Below w.heap.size w W
def RulX (w : World) (ws : List (List UInt8)) (c : Code) (pre : List Nat) (W : World) : Prop :=
  c = .ret ∧ (∃ ini x, pre = ini ++ [x] ∧ ruleW (chunkW ws x) = none) ∧ (Boxed W w.heap.size 36 (.slice none 0 0) ∧ Boxed W (w.heap.size + 1) 4 (.bool false)) ∧ Below w.heap.size w W
theorem rulI_own (w : World) (ws : List (List UInt8)) {B : Nat} (hB : w.heap.size ≤ B) : OwnFrom B (RulI w ws) :=
  OwnFrom.and (Own.from (holdsRow_own w.heap.size (w.heap.size + 2) 36 51 6 (fun pre : List Nat => pre.length) (fun pre => cellsR (nthR (pre.map (rOf ws))) pre.length) (fun pre _ => ∀ x ∈ pre, (ruleW (chunkW ws x)).isSome = true)) _)
    (OwnFrom.and (OwnFrom.and (Own.from (boxed_own w.heap.size 36 (fun _ : List Nat => .slice none 0 0)) _) (Own.from (boxed_own (w.heap.size + 1) 4 (fun _ : List Nat => .bool false)) _)) (ownFrom_below (Nat.le_refl _) hB))
theorem rulX_own (w : World) (ws : List (List UInt8)) (c : Code) {B : Nat} (hB : w.heap.size ≤ B) : OwnFrom B (RulX w ws c) :=
  OwnFrom.and (ownFrom_pure B fun _ => c = .ret) (OwnFrom.and (ownFrom_pure B fun pre => ∃ ini x, pre = ini ++ [x] ∧ ruleW (chunkW ws x) = none)
    (OwnFrom.and (OwnFrom.and (Own.from (boxed_own w.heap.size 36 (fun _ : List Nat => .slice none 0 0)) _) (Own.from (boxed_own (w.heap.size + 1) 4 (fun _ : List Nat => .bool false)) _)) (ownFrom_below (Nat.le_refl _) hB)))

set_option maxHeartbeats 4000000 in
theorem readRules_any (g o N c : Nat) (xs : List ByteArray) (w : World) (hE : Env w) (hs : SlS w (some ⟨g, o, none⟩) xs) (hN : xs.length = N) (hc : N ≤ c) (hNl : N ≤ 9000000000) :
    Calls Tryz.prog 165 #[.slice (some ⟨g, o, none⟩) N c] w (RulesTo (rulesOf (xs.map fun s => s.data.toList)) w) := by
  obtain ⟨ws, hws⟩ : ∃ ws, ws = xs.map (fun s => s.data.toList) := ⟨_, rfl⟩
  rw [← hws]
  have HW := Lib.hid hws
  have HE := Lib.hid hE
  have HS := Lib.hid hs
  have HN := Lib.hid hN
  have hwl : ws.length = N := by rw [hws, List.length_map, hN]
  have HWL := Lib.hid hwl
  obtain ⟨i0, hi, hz0, hz1, hz2⟩ := info_parts Tryz.infoRule
  clear hws hE hs hN hwl
  refine (callsIn_wide (n := 6)).1 ?_
  refine callsIn_of_wp_marks Tryz.func165 rfl trivial ?_ rfl
  simp only [Tryz.ntmps165, List.size_toArray, List.length_cons, List.length_nil, Nat.reduceAdd, Nat.reduceSub, Array.replicate_succ, Array.replicate_zero, List.push_toArray, List.append_toArray, List.nil_append, List.cons_append]
  gi_wp2
  refine ⟨trivial, ?_⟩
  refine (chunk_in Fence.wide 5 trivial rfl (some ⟨g, o, none⟩) N c _).mono ?_
  rintro e w5 ⟨rfl, hw5⟩
  have hsz : w5.heap.size = w.heap.size + 5 := by rw [hw5]; simp
  have hbs : Boxed w5 (w.heap.size + 3) 29 (.slice (some ⟨g, o, none⟩) N c) := by
    rw [hw5]
    refine Boxed.alloc ?_ _
    have := Boxed.new (((w.alloc (.cells #[.slice none 0 0] 36)).alloc (.cells #[.bool false] 4)).alloc (.cells #[.slice none 0 0] 36)) 29 (.slice (some ⟨g, o, none⟩) N c)
    simpa using this
  have hbn : Boxed w5 (w.heap.size + 4) 3 (.int .i64 6) := by
    rw [hw5]
    have := Boxed.new ((((w.alloc (.cells #[.slice none 0 0] 36)).alloc (.cells #[.bool false] 4)).alloc (.cells #[.slice none 0 0] 36)).alloc (.cells #[.slice (some ⟨g, o, none⟩) N c] 29)) 3 (.int .i64 6)
    simpa using this
  have hI0 : RulI w ws [] w5 := by
    refine ⟨⟨.slice none 0 0, ?_, World.ownsRow_nil _ _ _ _, fun x hx => by cases hx⟩, ⟨?_, ?_⟩, ?_⟩
    · rw [hw5]
      refine Boxed.alloc (Boxed.alloc ?_ _) _
      have := Boxed.new ((w.alloc (.cells #[.slice none 0 0] 36)).alloc (.cells #[.bool false] 4)) 36 (.slice none 0 0)
      simpa using this
    · rw [hw5]
      exact ((((Boxed.new w _ _).alloc _).alloc _).alloc _).alloc _
    · rw [hw5]
      refine Boxed.alloc (Boxed.alloc (Boxed.alloc ?_ _) _) _
      have := Boxed.new (w.alloc (.cells #[.slice none 0 0] 36)) 4 (.bool false)
      simpa using this
    · rw [hw5]
      go_grown
  have HBS := Lib.hid hbs
  have HBN := Lib.hid hbn
  have HI0 := Lib.hid hI0
  have HSZ := Lib.hid hsz
  clear hw5 hbs hbn hI0 hsz
  gi_wp2
  refine wpIn_rangeFunc_ownG rfl (by omega) (gf := 259) (lb := #[.pointer (some ⟨w.heap.size + 3, 0, none⟩), .pointer (some ⟨w.heap.size + 4, 0, none⟩)]) rfl trivial (enters_of Tryz.func259 (by kernel_rfl) rfl)
    (chunk_stops Fence.wide 5 trivial rfl (by omega) (w.heap.size + 3) (w.heap.size + 4) c g o N hc (by omega) w.heap.size w5 _ _ HBS.out HBN.out) kpC_t (kpC_b (by rw [HSZ.out]; omega)) (Below.refl _ _) (fun _ => rfl)
    (RulI w ws) (RulX w ws) (rulI_own w ws (by rw [HSZ.out]; omega)) (fun c => rulX_own w ws c (by rw [HSZ.out]; omega)) HI0.out
    (fun x => { tmps := #[.slice (some ⟨g, o, none⟩) N c, undef, .pointer (some ⟨w.heap.size, 0, none⟩), .pointer (some ⟨w.heap.size + 1, 0, none⟩), .pointer (some ⟨w.heap.size + 1 + 1, 0, none⟩), chunkV g o N x, undef, undef, .slice (some ⟨g, o, none⟩) N c, .func (.func 259) #[] #[.pointer (some ⟨w.heap.size + 1 + 1 + 1, 0, none⟩), .pointer (some ⟨w.heap.size + 1 + 1 + 1 + 1, 0, none⟩)], chunkV g o N x, undef, undef, undef, undef, undef, undef, undef, undef, undef, undef, undef, undef], defers := [] }) ?assign ?body ?done ?stop
  case assign =>
    intro l x W K hK
    gi_wp2
    exact hK
  case body =>
    rintro lp pre x W ⟨⟨v, hv, hrow, hall⟩, ⟨hb1, hb2⟩, hB⟩ hlt
    obtain ⟨R, hR⟩ : ∃ R, ruleW (chunkW ws x) = R := ⟨_, rfl⟩
    have hrr : Calls Tryz.prog 220 #[chunkV g o N x] W (RuleTo R W) := by
      have := readRule_any g (o + 6 * x) (min 6 (N - 6 * x)) (min 6 (N - 6 * x)) ((xs.drop (6 * x)).take 6) W (HE.out.below hB) (slS_chunk (HS.out.below hB) x) (by rw [chunk_len, HN.out]) (Nat.le_refl _)
      rw [chunk_words, ← HW.out, hR] at this
      exact this
    have HRR := Lib.hid hrr
    have HV := Lib.hid hv
    have HROW := Lib.hid hrow
    have HALL := Lib.hid hall
    have HB := Lib.hid hB
    have HB1 := Lib.hid hb1
    have HB2 := Lib.hid hb2
    have HR := Lib.hid hR
    have HLT := Lib.hid hlt
    clear hrr hv hrow hall hB hb1 hb2 hR hlt
    gi_wp2
    refine ⟨trivial, ?_⟩
    refine (CallsIn.inRound lp (callsIn_wide.2 HRR.out)).mono ?_
    rintro e W1 ⟨q, rfl, hq, hbq⟩
    obtain ⟨W2, hW2⟩ : ∃ W2, W1.alloc (.cells #[.int .i64 q.role, .int .i64 q.why, .int .i64 q.frm, .int .i64 q.til, .int .i64 q.cats, .bool q.allow] 51) = W2 := ⟨_, rfl⟩
    have hb12 : Below W.heap.size W W2 := hW2 ▸ hbq.alloc hbq.size _
    have hv2 := boxed_below HV.out hb12
    have h12 := boxed_below HB1.out hb12
    have h22 := boxed_below HB2.out hb12
    have HV2 := Lib.hid hv2
    have H12 := Lib.hid h12
    have H22 := Lib.hid h22
    have hv1 := boxed_below HV.out hbq
    have h11 := boxed_below HB1.out hbq
    have h21 := boxed_below HB2.out hbq
    have c4 := hv1.cell
    have f4 := hv1.frozen
    have c0 := h11.cell
    have f0 := h11.frozen
    have c1 := h21.cell
    have f1 := h21.frozen
    have l4 := hv1.lt
    have l0 := h11.lt
    have l1 := h21.lt
    have HW2 := Lib.hid hW2
    have HB12 := Lib.hid hb12
    have HKO := Lib.hid (keeps_below hb12)
    have HQ := Lib.hid hq
    have HBW := Lib.hid (HB.out.trans (hb12.mono HB.out.size))
    have HK1 := Lib.hid (keeps_below hbq)
    have H11 := Lib.hid h11
    have H21 := Lib.hid h21
    have HBW1 := Lib.hid (HB.out.trans (hbq.mono HB.out.size))
    clear hW2 hb12 hv2 h12 h22 hq hbq HRR hv1 h11 h21
    cases R with
    | none =>
      gi_wp2
      refine ⟨(((HK1.out.trans (KeepsOthers.setCell _ _ _)).trans (KeepsOthers.setCell _ _ _)).trans (KeepsOthers.alloc _ _)).from _, rfl, ⟨pre, x, rfl, HR.out⟩, ⟨((H11.out.set _).other (by omega) _).alloc _, ((H21.out.other (by omega) _).set _).alloc _⟩, ?_⟩
      have hBX := HBW1.out
      go_grown
    | some q2 =>
      have hrow2 := own_below HROW.out HB12.out
      rw [← HW2.out] at hrow2
      have hvx : Boxed (W1.alloc (.cells #[.int .i64 q.role, .int .i64 q.why, .int .i64 q.frm, .int .i64 q.til, .int .i64 q.cats, .bool q.allow] 51)) (w.heap.size + 2) 36 v := HW2.out ▸ HV2.out
      have hszx : w.heap.size ≤ (W1.alloc (.cells #[.int .i64 q.role, .int .i64 q.why, .int .i64 q.frm, .int .i64 q.til, .int .i64 q.cats, .bool q.allow] 51)).heap.size := by rw [HW2.out]; exact HBW.out.size
      have hpl : pre.length ≤ 9000000000 := by have := HLT.out; unfold chunks at this; omega
      have hcx : ∀ j u, q.cells[j]? = some u → ((W1.alloc (.cells #[.int .i64 q.role, .int .i64 q.why, .int .i64 q.frm, .int .i64 q.til, .int .i64 q.cats, .bool q.allow] 51)).alloc (.cells #[.int .i64 q.role, .int .i64 q.why, .int .i64 q.frm, .int .i64 q.til, .int .i64 q.cats, .bool q.allow] 51)).cell? ((⟨W1.heap.size + 1, 0, none⟩ : Addr).add j) = some u := by
        have := cell_rule_new (W1.alloc (.cells #[.int .i64 q.role, .int .i64 q.why, .int .i64 q.frm, .int .i64 q.til, .int .i64 q.cats, .bool q.allow] 51)) q 51
        simpa using this
      have hone : ∀ u ∈ q.cells, u.oneCell' = true := by simp [RuleL.cells, Value.oneCell']
      have hszy : w.heap.size ≤ ((W1.alloc (.cells #[.int .i64 q.role, .int .i64 q.why, .int .i64 q.frm, .int .i64 q.til, .int .i64 q.cats, .bool q.allow] 51)).alloc (.cells #[.int .i64 q.role, .int .i64 q.why, .int .i64 q.frm, .int .i64 q.til, .int .i64 q.cats, .bool q.allow] 51)).heap.size := by simp at hszx ⊢; omega
      obtain ⟨A, cc, hvf⟩ : ∃ A cc, v = .slice A pre.length cc := by
        rcases hrow2.2 with ⟨e, h0⟩ | ⟨g1, cap1, cur1, e, _⟩
        · exact ⟨none, 0, by rw [e, h0]⟩
        · exact ⟨_, _, e⟩
      subst hvf
      gi_wp2_with (gi_at_builtin; refine wpListIn_append_own _ rfl _ _ 36 rfl w.heap.size 51 i0 _ 6 48 Tryz.underlying36 hi hz0 hz1 hz2 rfl (by decide) _ _ _ rfl (hrow2.alloc _) ⟨W1.heap.size + 1, 0, none⟩ 1 1 q.cells rfl rfl hcx hone (by unfold maxLen; omega) (by omega) hszy ?_; intro v' w1 hown' hgrow _; obtain ⟨g', cap', rfl⟩ := ownsRow_succ hown'; obtain ⟨hv1, hv2', hr2, hk2, hbl2⟩ := hvx.appended (by decide) hrow2 hszx (by omega) hown' hgrow; have hc1 := hv1.cell; have hf1 := hv1.frozen; have HGR := Lib.hid hgrow; have HV2' := Lib.hid hv2'; have HR2 := Lib.hid hr2; have HK2 := Lib.hid hk2; have HBL2 := Lib.hid hbl2; clear hgrow hv2' hr2 hk2 hbl2 hv1 hown')
      have hKX : KeepsOthers W (W1.alloc (.cells #[.int .i64 q.role, .int .i64 q.why, .int .i64 q.frm, .int .i64 q.til, .int .i64 q.cats, .bool q.allow] 51)) := HW2.out ▸ HKO.out
      have hBX : Below W.heap.size W (W1.alloc (.cells #[.int .i64 q.role, .int .i64 q.why, .int .i64 q.frm, .int .i64 q.til, .int .i64 q.cats, .bool q.allow] 51)) := HW2.out ▸ HB12.out
      have hbox : ∀ (B : Nat) (t : TypeId) (u : Value), t ≠ 51 → B ≠ w.heap.size + 2 → Boxed W B t u → Boxed (w1.setCell ⟨w.heap.size + 2, 0, none⟩ (.slice (some ⟨g', 0, none⟩) (pre.length + 1) cap')) B t u := fun B t u ht hB2 hu => by
        have h1 := boxed_below hu hBX
        exact ((h1.alloc _).kept HGR.out (h1.not_row ht hrow2)).other hB2 _
      have hro : rOf ws x = q := by
        unfold rOf
        rw [HR.out]
        exact HQ.out
      have hcl : (pre ++ [x]).map (rOf ws) = pre.map (rOf ws) ++ [q] := by rw [List.map_append]; simp [hro]
      have hsnoc := nthR_snoc (pre.map (rOf ws)) q
      rw [List.length_map] at hsnoc
      refine ⟨(hKX.trans HK2.out).from _, ⟨fun hu => hbox _ _ _ (by decide) (by omega) hu, fun hu => hbox _ _ _ (by decide) (by omega) hu, (hBX.mono HB.out.size).trans HBL2.out⟩, ⟨_, HV2'.out, ?_, ?_⟩, ⟨hbox _ _ _ (by decide) (by omega) HB1.out, hbox _ _ _ (by decide) (by omega) HB2.out⟩, HB.out.trans ((hBX.mono HB.out.size).trans HBL2.out)⟩
      · rw [hcl, List.length_append, List.length_singleton, hsnoc]
        exact HR2.out
      · intro y hy
        rcases List.mem_append.1 hy with hy | hy
        · exact HALL.out y hy
        · rw [List.mem_singleton.1 hy, HR.out]
          rfl
  case done =>
    rintro D ys W hD rfl ⟨⟨v, hv, hrow, hall⟩, ⟨hb1, hb2⟩, hB⟩ hK
    have hall' := rules_all (ws := ws) fun x hx => hall x (List.mem_range.2 (by rw [HWL.out] at hx; exact hx))
    rw [HWL.out] at hall'
    have HALL := Lib.hid hall'
    obtain ⟨A, cc, hvf⟩ : ∃ A cc, v = .slice A (List.range (chunks N)).length cc := by
      rcases hrow.2 with ⟨e, h0⟩ | ⟨g1, cap1, cur1, e, _⟩
      · exact ⟨none, 0, by rw [e, h0]⟩
      · exact ⟨_, _, e⟩
    subst hvf
    have hc4 := hv.cell
    have hc0 := hb1.cell
    have hf0 := hb1.frozen
    have hc1 := hb2.cell
    have hf1 := hb2.frozen
    have HROW := Lib.hid hrow
    have HB := Lib.hid hB
    have HK := Lib.hid hK
    have HB1 := Lib.hid hb1
    have HB2 := Lib.hid hb2
    have HD := Lib.hid hD
    clear hall hall' hv hrow hB hK hb1 hb2 hD
    gi_wp2
    obtain ⟨V, hV⟩ : ∃ V, (W.setCell ⟨w.heap.size, 0, none⟩ (.slice A (chunks N) cc)).setCell ⟨w.heap.size + 1, 0, none⟩ (.bool true) = V := ⟨_, rfl⟩
    have hKV : V.heap[D]? = some (.deferred (some [])) := by
      rw [← hV]
      exact ((KeepsOthers.setCell _ _ _).trans (KeepsOthers.setCell _ _ _)).same D _ HK.out rfl
    have hV0 : V.cell? ⟨w.heap.size, 0, none⟩ = some (.slice A (chunks N) cc) := by rw [← hV]; simp [go_sem, hc0]
    have hV1 : V.cell? ⟨w.heap.size + 1, 0, none⟩ = some (.bool true) := by rw [← hV]; simp [go_sem, hc1]
    have hF0 : V.frozen? ⟨w.heap.size, 0, none⟩ = false := by rw [← hV]; simp [go_sem, hf0]
    have hF1 : V.frozen? ⟨w.heap.size + 1, 0, none⟩ = false := by rw [← hV]; simp [go_sem, hf1]
    have hbV : Below w.heap.size w V := by rw [← hV]; exact (HB.out.setCell (p := ⟨w.heap.size, 0, none⟩) (Nat.le_refl _) _).setCell (p := ⟨w.heap.size + 1, 0, none⟩) (show w.heap.size ≤ w.heap.size + 1 by omega) _
    have hrV : V.ownsRow w.heap.size 51 6 (.slice A (chunks N) cc) (chunks N) (cellsR (nthR ((List.range (chunks N)).map (rOf ws))) (chunks N)) := by
      have h0 := HROW.out
      rw [List.length_range] at h0
      have h1 := World.ownsRow.kept h0 (grownBy_setCell' W w.heap.size (.slice A (chunks N) cc)) (.inr (HB1.out.not_row (by decide) h0).symm)
      have hb2' := HB2.out.other (by omega : w.heap.size + 1 ≠ w.heap.size) (.slice A (chunks N) cc)
      have h2 := World.ownsRow.kept h1 (grownBy_setCell' _ (w.heap.size + 1) (.bool true)) (.inr (hb2'.not_row (by decide) h1).symm)
      rw [← hV]
      exact h2
    rw [hV]
    have k0 : (V.putObj D (.deferred none)).cell? ⟨w.heap.size, 0, none⟩ = some (.slice A (chunks N) cc) := cell_kept hV0 (grownBy_putObj' V D (.deferred none)) (fun r e => by cases e; exact ⟨_, hKV, rfl⟩)
    have k1 : (V.putObj D (.deferred none)).cell? ⟨w.heap.size + 1, 0, none⟩ = some (.bool true) := cell_kept hV1 (grownBy_putObj' V D (.deferred none)) (fun r e => by cases e; exact ⟨_, hKV, rfl⟩)
    refine ⟨by simp, .inl ⟨_, _, rfl, run_takeDeferred hKV, ?_⟩⟩
    refine ⟨.tuple #[.slice A (chunks N) cc, .bool true], by simp [results, Tryz.results165, go_sem, k0, k1], .inl ⟨(List.range (chunks N)).map (rOf ws), A, cc, HALL.out, by simp, ?_, ?_⟩⟩
    · have := ownsRow_putObj hrV (.deferred none) hKV rfl
      rw [List.length_map, List.length_range]
      exact this
    · exact hbV.trans (belowK_b (w := w) (Nat.le_refl _) V D _ _ (by have := HD.out; rw [HSZ.out] at this; omega) hKV rfl rfl)
  case stop =>
    rintro D c pre W hD ⟨k, hk, rfl⟩ ⟨rfl, ⟨ini, x, hpre, hbad⟩, ⟨hb1, hb2⟩, hB⟩ hK
    have hc0 := hb1.cell
    have hf0 := hb1.frozen
    have hc1 := hb2.cell
    have hf1 := hb2.frozen
    have hnone : rulesOf ws = none := rules_bad (x := x) (by
      rw [HWL.out]
      have : x ∈ List.range k := by rw [hpre]; simp
      have := List.mem_range.1 this
      omega) hbad
    have HNONE := Lib.hid hnone
    have HB := Lib.hid hB
    have HK := Lib.hid hK
    have HD := Lib.hid hD
    clear hnone hB hK hD hb1 hb2 hpre hbad
    gi_wp2
    have k0 : (W.putObj D (.deferred none)).cell? ⟨w.heap.size, 0, none⟩ = some (.slice none 0 0) := cell_kept hc0 (grownBy_putObj' W D (.deferred none)) (fun r e => by cases e; exact ⟨_, HK.out, rfl⟩)
    have k1 : (W.putObj D (.deferred none)).cell? ⟨w.heap.size + 1, 0, none⟩ = some (.bool false) := cell_kept hc1 (grownBy_putObj' W D (.deferred none)) (fun r e => by cases e; exact ⟨_, HK.out, rfl⟩)
    refine ⟨by simp, .inl ⟨_, _, rfl, run_takeDeferred HK.out, ?_⟩⟩
    refine ⟨.tuple #[.slice none 0 0, .bool false], by simp [results, Tryz.results165, go_sem, k0, k1], .inr ⟨HNONE.out, rfl, ?_⟩⟩
    exact HB.out.trans (belowK_b (w := w) (Nat.le_refl _) W D _ _ (by have := HD.out; rw [HSZ.out] at this; omega) HK.out rfl rfl)
end Go.Proofs.YtepenlciaanoeaaGreatDoor
