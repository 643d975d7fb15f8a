/- Contracts of log.numbers, yesOrNo, begin. -/
import Derived.Test.YtbchfodmdgogjaaGreatDoorLPure
import Derived.Test.YtbchfodmdgogjaaGreatDoorRWrite
import Derived.Test.YtbchfodmdgogjaaGreatDoorFApp
import Derived.Deep.AppendLies
import Derived.Deep.RegionHeld3
set_option linter.unusedVariables false
set_option linter.unusedSimpArgs false
set_option maxRecDepth 100000
namespace Go.Proofs.YtbchfodmdgogjaaGreatDoor
open Go.RowKit Go.Sort

theorem own_lit1 (w : World) (s : ByteArray) : OwnS w.heap.size (w.alloc (.cells #[.string s] 9)) (.slice (some ⟨w.heap.size, 0, none⟩) 1 1) [s] :=
  ⟨rfl, .inr ⟨w.heap.size, 1, #[.string s], rfl, Nat.le_refl _, by simp only [World.alloc, Array.getElem?_push_size], Nat.le_refl _, by unfold maxLen; omega, rfl, rfl⟩⟩
theorem slS_lit1 (w : World) (s : ByteArray) : SlS (w.alloc (.cells #[.string s] 9)) (some ⟨w.heap.size, 0, none⟩) [s] := (OwnS.sl (own_lit1 w s)).1

theorem app_named {w : World} (ty : TypeId) {B c n m : Nat} {v : Value} {fs q F : List ByteArray} {A : Option Addr} (hown : OwnS B w v fs) (hq : SlS w A q) (hm : q.length = m) (hF : fs ++ q = F) (hl : F.length = n) (hn : n ≤ 100000) (hB : B ≤ w.heap.size) :
    ∃ A' c' w', (Builtin.append_ #[26, 26] ty #[v, .slice A m c]).run Tryz.prog w = .ok (.slice A' n c') w' ∧ OwnS B w' (.slice A' n c') F ∧ Below B w w' ∧ ∀ i, i < w.heap.size → v.ownBlock ≠ some i → w'.heap[i]? = w.heap[i]? := by
  subst hm hl hF
  rw [List.length_append] at hn
  exact run_appS' ty hown hq hn hB

theorem slS_two (w : World) (s t : ByteArray) : SlS (w.alloc (.cells #[.string s, .string t] 9)) (some ⟨w.heap.size, 0, none⟩) [s, t] := by
  intro k x hx
  match k, hx with
  | 0, hx =>
    obtain rfl : s = x := by simpa using hx
    exact ⟨_, 0, rfl, by simp [go_sem]⟩
  | 1, hx =>
    obtain rfl : t = x := by simpa using hx
    exact ⟨_, 0, rfl, by simp [go_sem]⟩
  | k + 2, hx => simp at hx
/-- append of strings in a region that draws its order -/
theorem step_appS (w : World) {ops : Array Oper} {o : Oper} {a : Act} {K : Act → World → Prop} {Q : Exit → Act → World → Prop} {E : Prop} (hgd : o.guard = none) (s x : Operand)
    (ho : o.op = .call { callee := .builtin .append, args := #[s, x], argTypes := #[26, 26] })
    (v : Value) (hs : a.eval s = v) {B : Nat} {fs : List ByteArray} (hown : OwnS B w v fs) (g0 m c0 n : Nat) (q : List ByteArray) (hx : a.eval x = .slice (some ⟨g0, 0, none⟩) m c0) (hq : SlS w (some ⟨g0, 0, none⟩) q) (hqm : q.length = m) (hm : 0 < m) (hl : fs.length + m = n) (hn : n ≤ 100000) (hB : B ≤ w.heap.size)
    (h : ∀ A cap w', OwnS B w' (.slice A n cap) (fs ++ q) → Below B w w' → K (a.put o.dst (.slice A n cap)) w') :
    if Region.wanted o (yielded ops a.tmps) = true then Oper.wp Tryz.prog o a w K Q else E := by
  obtain ⟨i0, hi, hz0, hz1, hz2⟩ := info_parts Tryz.infoStr
  subst hqm hl
  refine step_append_lies (P := Tryz.prog) w hgd s x 26 ho B 9 i0 _ 1 16 Tryz.underlying26 hi hz0 hz1 hz2 rfl (by decide) v fs.length (cellsS fs) hs hown ⟨g0, 0, none⟩ q.length c0 (cellsS q) hx (cellsS_len q) hq.cells (cellsS_one q) hm (by unfold maxLen; omega) (by omega) hB _ rfl ?_
  intro g cap w1 hown1 hgrow hat hlt
  refine h (some ⟨g, 0, none⟩) cap w1 ?_ ⟨hgrow.os, hgrow.tape, hgrow.output, hgrow.size, fun i hi => hgrow.block i (by omega) fun e => ?_⟩
  · unfold OwnS
    rw [cellsS_append, List.length_append]
    exact hown1
  · have := (World.ownsRow.lt hown i e.symm).1
    omega

/-- numbers in memory -/
theorem sl_lit {w : World} {g : Nat} {zs : List Int} (h : ∀ k z, zs[k]? = some z → w.cell? ⟨g, k, none⟩ = some (.int .i64 z)) : Sl w (some ⟨g, 0, none⟩) zs.length (fun k => zs.getD k 0) := fun k hk => ⟨g, 0, rfl, by
  have hz : zs[k]? = some (zs.getD k 0) := by rw [List.getD, List.getElem?_eq_getElem hk]; rfl
  rw [Nat.zero_add]
  exact h k _ hz⟩

set_option maxHeartbeats 2000000 in
theorem numbers_any (a : Option Addr) (zs : List Int) (c : Nat) (w : World) (hE : Env w) (hs : Sl w a zs.length (fun k => zs.getD k 0)) (hn : zs.length ≤ 1000) (hz : ∀ z ∈ zs, -9223372036854775808 ≤ z ∧ z ≤ 9223372036854775807) :
    Calls Tryz.prog 69 #[.slice a zs.length c] w (NewL (zs.map fun z => bs (Lib.itoa z)) w) := by
  have HE := Lib.hid hE
  have HS := Lib.hid hs
  have HZ := Lib.hid hz
  obtain ⟨i0, hi0, hz0, hz1, hz2⟩ := info_parts Tryz.infoStr
  obtain ⟨xs, hxs⟩ : ∃ xs, xs = zs.map (fun z => bs (Lib.itoa z)) := ⟨_, rfl⟩
  rw [← hxs]
  have hlx : xs.length = zs.length := by rw [hxs, List.length_map]
  have HX := Lib.hid hxs
  obtain ⟨N, hN⟩ : ∃ N, N = zs.length := ⟨_, rfl⟩
  have HN := Lib.hid hN
  rw [← hN] at hlx hn HS ⊢
  have HLX := Lib.hid hlx
  have hmk := run_make_row (P := Tryz.prog) 26 9 i0 (.string ⟨#[]⟩) Tryz.underlying26 hi0 hz0 hz1 rfl .i64 .i64 N (by rw [hz2]; omega) (by omega) w
  have HM := Lib.hid (FillW.made hlx w)
  clear hE hs hz hxs hN hlx
  go_enter Tryz.func69, Tryz.ntmps69
  go_wp2_with fail
  go_loopw [11] (fun i wr => ∃ k : Nat, k ≤ N ∧ i = .int .i64 k ∧ Hid (FillW w.heap.size xs k w wr)) (fun i _ => N - (intOf i).toNat)
  case atStart => exact ⟨0, Nat.zero_le _, rfl, HM⟩
  case round =>
    obtain ⟨k, hk, rfl, HF⟩ := hrel
    by_cases hlt : k < N
    · obtain ⟨b, off, rfl, d0⟩ := (HS.out.below HF.out.below) k hlt
      obtain ⟨z, hz⟩ : ∃ z, z = zs.getD k 0 := ⟨_, rfl⟩
      replace d0 : wr.cell? ⟨b, off + k, none⟩ = some (.int .i64 (zs.getD k 0)) := d0
      rw [← hz] at d0
      have hzk : zs[k]? = some z := by rw [hz, List.getD, List.getElem?_eq_getElem (by rw [← HN.out]; exact hlt)]; rfl
      have hx : xs[k]? = some (bs (Lib.itoa z)) := by rw [HX.out, List.getElem?_map, hzk]; rfl
      obtain ⟨z0, z1⟩ := HZ.out z (List.mem_of_getElem? hzk)
      have HIT := Lib.hid (itoa_any z wr (HE.out.below HF.out.below) z0 z1)
      have HXX := Lib.hid hx
      have i1 : (0 : Int) ≤ (k : Int) := by omega
      clear hz hzk hx z0 z1 hmk
      go_wp2_with fail
      refine HIT.out.mono ?_
      rintro e w2 ⟨rfl, hb2⟩
      have HF2 := Lib.hid (HF.out.keep hb2)
      have hc0 := HF2.out.rest k (Nat.le_refl _) (by rw [HLX.out]; exact hlt)
      have hz0 := HF2.out.fz k
      have hgl := HF2.out.lt
      clear hb2 d0 HIT
      go_wp2_with fail
      exact ⟨⟨k + 1, by omega, by go_num, HF2.out.set HXX.out⟩, by simp [intOf]; omega⟩
    · obtain rfl : k = N := by omega
      have hall := HF.out.all HLX.out.symm
      have hB := HF.out.below
      have HAL := Lib.hid hall
      have HB := Lib.hid hB
      clear hall hB hmk
      go_wp2_with fail
      go_ret
      refine ⟨some ⟨w.heap.size, 0, none⟩, k, ?_, HAL.out, by rw [HLX.out]; exact Nat.le_refl _, by unfold maxLen; omega, HB.out, fun b off e => by cases e; exact Nat.le_refl _⟩
      rw [HLX.out]
      rfl

theorem yesNo_any (b : Bool) (w : World) : Calls Tryz.prog 70 #[.bool b] w fun e w' => e = .returned (.string (bs (allowW b))) ∧ w = w' := by
  cases b
  · go_enter Tryz.func70, Tryz.ntmps70
    go_wp2_with fail
    go_ret
    exact ⟨rfl, rfl⟩
  · go_enter Tryz.func70, Tryz.ntmps70
    go_wp2_with fail
    go_ret
    exact ⟨rfl, rfl⟩

set_option maxHeartbeats 2000000 in
theorem begin_any (s : ByteArray) (x : WhoL) (w : World) (hE : Env w) (hx : x.ok) :
    Calls Tryz.prog 72 #[.string s, x.v] w (NewS w.heap.size (s :: x.words.map bs) w) := by
  have HE := Lib.hid hE
  have HX := Lib.hid hx
  have hA1 : Below w.heap.size w (w.alloc (.cells #[.int .i64 x.role, .int .i64 x.why, .int .i64 x.time] 23)) := (Below.refl _ _).alloc (Nat.le_refl _) _
  have hA2 := hA1.alloc hA1.size (.cells #[.string s] 9)
  have hA3 := hA2.alloc hA2.size (.cells #[.int .i64 x.role, .int .i64 x.why, .int .i64 x.time] 3)
  have HB3 := Lib.hid hA3
  have HO := Lib.hid ((own_lit1 (w.alloc (.cells #[.int .i64 x.role, .int .i64 x.why, .int .i64 x.time] 23)) s).below ((Below.refl _ _).alloc (Nat.le_refl _) (.cells #[.int .i64 x.role, .int .i64 x.why, .int .i64 x.time] 3)))
  clear hA1 hA2 hA3 hE hx
  go_enter Tryz.func72, Tryz.ntmps72
  go_wp2_with fail
  refine (numbers_any (some ⟨w.heap.size + 1 + 1, 0, none⟩) [x.role, x.why, x.time] 3 _ (HE.out.below HB3.out) (sl_lit fun k z hz => ?_) (show 3 ≤ 1000 by omega) (fun z hz => ?_)).mono ?_
  · match k, hz with
    | 0, hz => cases hz; simp [go_sem]
    | 1, hz => cases hz; simp [go_sem]
    | 2, hz => cases hz; simp [go_sem]
    | k + 3, hz => simp at hz
  · obtain ⟨h1, h2, h3⟩ := HX.out
    simp only [List.mem_cons, List.mem_nil_iff, or_false] at hz
    rcases hz with rfl | rfl | rfl <;> omega
  rintro e w4 ⟨A, c, rfl, hsl, hlc, hcm, hb4, _⟩
  have hB4 := HB3.out.trans (hb4.mono HB3.out.size)
  have ho4 : OwnS (w.heap.size + 1) w4 (.slice (some ⟨w.heap.size + 1, 0, none⟩) 1 1) [s] := by simpa using HO.out.below hb4
  have ho5 : OwnS w.heap.size w4 (.slice (some ⟨w.heap.size + 1, 0, none⟩) 1 1) [s] := own_low ho4 (by omega)
  obtain ⟨A2, c2, w5, hrun, ho6, hb5⟩ := run_appS (c := c) 26 ho5 hsl (by simp) hB4.size
  have HR := Lib.hid hrun
  have HO6 := Lib.hid ho6
  have HB5 := Lib.hid (hB4.trans hb5)
  clear hrun ho6 hb5 hB4 ho4 ho5 hsl hb4 hlc hcm
  go_wp2_with (at_builtin; refine Lib.wpList_append_run _ rfl _ _ _ _ rfl _ _ rfl rfl _ _ HR.out ?_)
  go_ret
  exact ⟨A2, c2, rfl, HO6.out, HB5.out⟩
end Go.Proofs.YtbchfodmdgogjaaGreatDoor
