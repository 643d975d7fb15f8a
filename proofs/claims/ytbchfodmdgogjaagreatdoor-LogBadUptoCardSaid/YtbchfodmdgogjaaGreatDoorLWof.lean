/- The contract of log.wordsOf. -/
import Derived.Test.YtbchfodmdgogjaaGreatDoorLWords
import Derived.Test.YtbchfodmdgogjaaGreatDoorLChk
import Derived.Test.YtbchfodmdgogjaaGreatDoorLPure
set_option linter.unusedVariables false
set_option linter.unusedSimpArgs false
set_option maxRecDepth 100000
namespace Go.Proofs.YtbchfodmdgogjaaGreatDoor
open Go.RowKit Go.Sort

/-- the words of the first k rules -/
def wordsR (rs : Nat → RuleL) (k : Nat) : List ByteArray := (wRules :: rulesW k rs).map bs
theorem wordsR_len (rs : Nat → RuleL) : ∀ k, (wordsR rs k).length = 6 * k + 1
  | 0 => rfl
  | k + 1 => by
    have ih := wordsR_len rs k
    unfold wordsR rulesW at ih ⊢
    rw [List.range_succ, List.flatMap_append]
    simp only [List.map_cons, List.map_append, List.length_cons, List.length_append, List.length_map] at ih ⊢
    have : (List.flatMap (fun k => (rs k).words) [k]).length = 6 := by simp [RuleL.words]
    omega
theorem wordsR_succ (rs : Nat → RuleL) (k : Nat) : wordsR rs (k + 1) = wordsR rs k ++ ([(rs k).role, (rs k).why, (rs k).frm, (rs k).til, (rs k).cats].map fun z => bs (Lib.itoa z)) ++ [bs (allowW (rs k).allow)] := by
  unfold wordsR rulesW
  rw [List.range_succ, List.flatMap_append]
  simp [RuleL.words]

set_option maxHeartbeats 4000000 in
theorem wordsOf_rules (o : OpL) (P : OpP) (w : World) (hE : Env w) (hi : o.in_ P w) (hk : o.kind = 1) (h : logErr o = 0) :
    Calls Tryz.prog 36 #[o.v P] w (NewS w.heap.size (o.words.map bs) w) := by
  have hA := o.box_below P w
  have HI := Lib.hid hi
  have HE := Lib.hid hE
  have HA := Lib.hid hA
  have HW : Hid (o.words.map bs = wordsR o.rs o.n) := by show _ = _; unfold OpL.words wordsR; rw [if_pos hk]
  have hz : rulesErr o.n o.rs = 0 := by unfold logErr at h; rw [if_pos hk] at h; exact h
  have HZ := Lib.hid (rulesErr_zero hz)
  rw [HW.out]
  clear hE hi hA h hz
  obtain ⟨kind, who, n, rs, r, id, f⟩ := o
  obtain ⟨ra, rc, p⟩ := P
  replace hk : kind = 1 := hk
  subst hk
  have hn20 : n ≤ 20 := HZ.out.1
  have HA2 : Hid (Below w.heap.size w ((w.alloc (.cells #[.int .i64 1, .int .i64 who.role, .int .i64 who.why, .int .i64 who.time, .slice ra n rc, .string r.id, .int .i64 r.cats, .slice p.fa r.fs.length p.fc, .slice p.ra r.rs.length p.rc, .string id, .string f.key, .string f.val] 32)).alloc (.cells #[.string ⟨#[114, 117, 108, 101, 115]⟩] 9))) := HA.out.alloc HA.out.size _
  have HO : Hid (OwnS w.heap.size ((w.alloc (.cells #[.int .i64 1, .int .i64 who.role, .int .i64 who.why, .int .i64 who.time, .slice ra n rc, .string r.id, .int .i64 r.cats, .slice p.fa r.fs.length p.fc, .slice p.ra r.rs.length p.rc, .string id, .string f.key, .string f.val] 32)).alloc (.cells #[.string ⟨#[114, 117, 108, 101, 115]⟩] 9)) (.slice (some ⟨w.heap.size + 1, 0, none⟩) 1 1) (wordsR rs 0)) := by
    have h1 := own_lit1 (w.alloc (.cells #[.int .i64 1, .int .i64 who.role, .int .i64 who.why, .int .i64 who.time, .slice ra n rc, .string r.id, .int .i64 r.cats, .slice p.fa r.fs.length p.fc, .slice p.ra r.rs.length p.rc, .string id, .string f.key, .string f.val] 32)) ⟨#[114, 117, 108, 101, 115]⟩
    have e : (w.alloc (.cells #[.int .i64 1, .int .i64 who.role, .int .i64 who.why, .int .i64 who.time, .slice ra n rc, .string r.id, .int .i64 r.cats, .slice p.fa r.fs.length p.fc, .slice p.ra r.rs.length p.rc, .string id, .string f.key, .string f.val] 32)).heap.size = w.heap.size + 1 := by simp
    rw [e] at h1
    exact own_low h1 (by omega)
  have HS := Lib.hid HI.out.rs
  clear HI
  go_enter Tryz.func36, Tryz.ntmps36
  go_wp2_with fail
  go_loopw [3, 27] (fun s i wr => ∃ (k L : Nat) (A' : Option Addr) (c' : Nat), k ≤ n ∧ i = .int .i64 k ∧ s = .slice A' L c' ∧ Hid (L = (wordsR rs k).length ∧ OwnS w.heap.size wr (.slice A' L c') (wordsR rs k)) ∧ Below w.heap.size w wr) (fun _ i _ => n - (intOf i).toNat)
  case atStart => exact ⟨0, 1, _, 1, Nat.zero_le _, rfl, rfl, ⟨rfl, HO.out⟩, HA2.out⟩
  case round =>
    clear HO HA2
    obtain ⟨k, L, A', c', hk, rfl, rfl, HOW, hB⟩ := hrel
    by_cases hlt : k < n
    · obtain ⟨b, off, hra, hc⟩ := (HS.out.below hB) k hlt
      replace hra : ra = some ⟨b, off, none⟩ := hra
      subst hra
      have hblt := cell_lt hc.1
      have hok := HZ.out.2 k hlt
      have HB := Lib.hid hB
      obtain ⟨q, hq⟩ : ∃ q, q = rs k := ⟨_, rfl⟩
      have HQ := Lib.hid hq
      rw [← hq] at hc hok
      obtain ⟨ro, wh, fr, ti, ca, al⟩ := q
      obtain ⟨c0, c1, c2, c3, c4, c5⟩ := hc
      obtain ⟨W1, hW1⟩ : ∃ W1, W1 = wr.alloc (.cells #[.int .i64 ro, .int .i64 wh, .int .i64 fr, .int .i64 ti, .int .i64 ca, .bool al] 67) := ⟨_, rfl⟩
      have hB2 := (hB.alloc hB.size (.cells #[.int .i64 ro, .int .i64 wh, .int .i64 fr, .int .i64 ti, .int .i64 ca, .bool al] 67))
      have hB3 := hB2.alloc hB2.size (.cells #[.int .i64 ro, .int .i64 wh, .int .i64 fr, .int .i64 ti, .int .i64 ca] 3)
      have HB3 := Lib.hid hB3
      have HR := Lib.hid hok
      clear hW1 hq hok hB2 hB3 hB
      go_wp2_with fail
      refine (numbers_any (some ⟨wr.heap.size + 1, 0, none⟩) [ro, wh, fr, ti, ca] 5 _ (HE.out.below HB3.out) (sl_lit fun k z hz => ?_) (show 5 ≤ 1000 by omega) (fun z hz => ?_)).mono ?_
      · match k, hz with
        | 0, hz => cases hz; simp [go_sem]
        | 1, hz => cases hz; simp [go_sem]
        | 2, hz => cases hz; simp [go_sem]
        | 3, hz => cases hz; simp [go_sem]
        | 4, hz => cases hz; simp [go_sem]
        | k + 5, hz => simp at hz
      · obtain ⟨⟨h1, h2, h3, h4, h5⟩, h6⟩ : ((-1 ≤ ro ∧ ro ≤ 7) ∧ (-1 ≤ wh ∧ wh ≤ 3) ∧ 0 ≤ fr ∧ ti ≤ 1000 ∧ (0 ≤ ca ∧ ca ≤ 255)) ∧ fr < ti := HR.out
        simp only [List.mem_cons, List.mem_nil_iff, or_false] at hz
        rcases hz with rfl | rfl | rfl | rfl | rfl <;> omega
      rintro e w4 ⟨A4, c4', rfl, hsl, hlc, hcm, hb4, _⟩
      have hB4 : Below w.heap.size w w4 := HB3.out.trans (hb4.mono HB3.out.size)
      have hx : Below wr.heap.size wr ((wr.alloc (.cells #[.int .i64 ro, .int .i64 wh, .int .i64 fr, .int .i64 ti, .int .i64 ca, .bool al] 67)).alloc (.cells #[.int .i64 ro, .int .i64 wh, .int .i64 fr, .int .i64 ti, .int .i64 ca] 3)) := ((Below.refl _ _).alloc (Nat.le_refl _) _).alloc (by simp) _
      have ho4 := (HOW.out.2.below hx).below hb4
      have hbox : w4.cell? ⟨wr.heap.size, 5, none⟩ = some (.bool al) := by
        rw [(bcell hb4).1 _ _ (by simp; omega)]
        simp [go_sem]
      have hL := wordsR_len rs k
      obtain ⟨F5, hF5⟩ : ∃ F5, wordsR rs k ++ ([ro, wh, fr, ti, ca].map fun z => bs (Lib.itoa z)) = F5 := ⟨_, rfl⟩
      obtain ⟨L5, hL5⟩ : ∃ L5, F5.length = L5 := ⟨_, rfl⟩
      have hL5' : L5 = 6 * k + 6 := by rw [← hL5, ← hF5, List.length_append, hL]; rfl
      obtain ⟨A5, c5', w5, hrun, ho5, hb5, hkeep⟩ := app_named (m := 5) (c := c4') 26 ho4 hsl rfl hF5 hL5 (by omega) hB4.size
      have hown := World.ownsRow.lt HOW.out.2
      have hbox5 : w5.cell? ⟨wr.heap.size, 5, none⟩ = some (.bool al) := (World.cell?_of_block (a := ⟨wr.heap.size, 5, none⟩) (hkeep _ (cell_lt hbox) (fun e => absurd (hown wr.heap.size e).2 (Nat.lt_irrefl _)))).trans hbox
      have hB5 := hB4.trans hb5
      have hB6 := hB5.alloc hB5.size (.cells #[.string (bs (allowW al))] 9)
      obtain ⟨F7, hF7⟩ : ∃ F7, F5 ++ [bs (allowW al)] = F7 := ⟨_, rfl⟩
      have hF7' : F7 = wordsR rs (k + 1) := by rw [← hF7, ← hF5, wordsR_succ, ← HQ.out]
      obtain ⟨L7, hL7⟩ : ∃ L7, F7.length = L7 := ⟨_, rfl⟩
      have hL7' : L7 = 6 * k + 7 := by rw [← hL7, ← hF7, List.length_append, hL5]; simp; omega
      obtain ⟨A7, c7', w7, hrun7, ho7, hb7, _⟩ := app_named (w := w5.alloc (.cells #[.string (bs (allowW al))] 9)) (m := 1) (c := 1) 26 (ho5.below ((Below.refl _ _).alloc (Nat.le_refl _) _)) (slS_lit1 w5 (bs (allowW al))) rfl hF7 hL7 (by omega) hB6.size
      have HR5 := Lib.hid hrun
      have HR7 := Lib.hid hrun7
      have HEND := Lib.hid (show L7 = (wordsR rs (k + 1)).length ∧ OwnS w.heap.size w7 (.slice A7 L7 c7') (wordsR rs (k + 1)) from ⟨by rw [← hF7', hL7], hF7' ▸ ho7⟩)
      have HB7 := Lib.hid (hB6.trans hb7)
      clear hsl hlc hcm hb4 hB4 hx ho4 hbox hL hF5 hL5 hL5' hrun ho5 hb5 hkeep hown hB5 hB6 hF7 hF7' hL7 hL7' hrun7 ho7 hb7 c0 c1 c2 c3 c4 c5
      go_wp2_with (first | (at_builtin; refine Lib.wpList_append_run _ rfl _ _ _ _ rfl _ _ rfl rfl _ _ HR5.out ?_) | (at_builtin; refine Lib.wpList_append_run _ rfl _ _ _ _ rfl _ _ rfl rfl _ _ HR7.out ?_) | (go_at_call 70; refine (yesNo_any al _).mono ?_; rintro e w' ⟨rfl, rfl⟩))
      exact ⟨⟨k + 1, L7, A7, c7', by omega, by go_num, rfl, HEND.out, HB7.out⟩, by simp [intOf]; omega⟩
    · obtain rfl : k = n := by omega
      have HBB := Lib.hid hB
      clear hB
      go_wp2_with fail
      go_ret
      have h1 := HOW.out.2
      have h2 := HOW.out.1
      subst h2
      exact ⟨A', c', rfl, h1, HBB.out⟩
end Go.Proofs.YtbchfodmdgogjaaGreatDoor
