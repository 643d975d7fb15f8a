/- IndexSays' walk. -/
import Derived.Test.YtodlabohijabnaaDoorIxC
import Derived.Test.YtodlabohijabnaaDoorSRefStore
import Derived.Test.YtodlabohijabnaaDoorSFine
import Derived.Deep.DeepCutAuto
set_option linter.unusedVariables false
set_option linter.unusedSimpArgs false
set_option maxRecDepth 100000
namespace Go.Proofs.YtodlabohijabnaaDoor
open Go.RowKit Go.Sort Go.Maps

abbrev recK1 : RecL := ⟨sA, 0, [⟨sK, sV⟩], []⟩
theorem okK1 : recK1.Ok := ⟨nameA, Int.le_refl _, by decide, by simp, by simp, fOk_mk (by simp [Asc]) (fun f hf => by rw [List.mem_singleton] at hf; subst hf; exact fdKV), fun i s hi => absurd hi (Nat.not_lt_zero i)⟩
theorem k1_at (f : FieldL) : newX [⟨recK1, false⟩] f = if f = ⟨sK, sV⟩ then [sA] else [] := by
  split
  · rename_i e
    exact by_one (by rw [e]; simp)
  · rename_i e
    refine List.eq_nil_iff_forall_not_mem.2 fun s hs => ?_
    obtain ⟨v, hv, hf⟩ := mem_byL.1 (show s ∈ byL _ f from hs)
    obtain ⟨_, rfl⟩ := getV_one.1 hv
    exact e (by simpa using hf)
theorem k1_lists : Lists (newX [⟨recK1, false⟩]) [⟨sK, sV⟩] := ⟨by simp, fun f => by
  rw [k1_at, List.mem_singleton]
  by_cases e : f = ⟨sK, sV⟩
  · rw [if_pos e]; simp [e]
  · rw [if_neg e]; simp [e]⟩
theorem k1_total : total (newX [⟨recK1, false⟩]) = 1 := by
  rw [k1_lists.total]
  unfold countOf
  rw [List.map_singleton, k1_at, if_pos rfl]
  rfl
theorem new_lit {B : Nat} (w0 : World) (hB : w0.heap.size = B) :
    Calls Tryd.prog 19 #[.slice (some ⟨B + 1, 0, none⟩) 1 1]
      ((w0.alloc (.cells #[.string sK, .string sV] 24)).alloc (.cells #[.string sA, .int .i64 0, .slice (some ⟨B, 0, none⟩) 1 1, .slice none 0 0, .bool false] 34))
      fun e w' => ∃ p, e = .returned (.tuple #[.pointer (some ⟨p, 0, none⟩), .int .i64 0]) ∧ Hid (Idx w' B p 40000 (newX [⟨recK1, false⟩])) ∧ Hid (Below B w0 w') := by
  subst hB
  have hin : (⟨⟨recK1, false⟩, ⟨some ⟨w0.heap.size, 0, none⟩, 1, none, 0⟩⟩ : PV).in_ (w0.alloc (.cells #[.string sK, .string sV] 24)) :=
    ⟨slf_one w0 ⟨sK, sV⟩, SlS.nil _ _, by simp, by simp, by unfold maxLen; simp, by simp⟩
  have hlit := new_ok 1 _ (vs_one _ _ hin) (st_one okK1)
  rw [World.size_alloc] at hlit
  refine hlit.mono ?_
  rintro e w1 ⟨p, rfl, hi, hb⟩
  have h1 : Below w0.heap.size w0 ((w0.alloc (.cells #[.string sK, .string sV] 24)).alloc (.cells #[.string sA, .int .i64 0, .slice (some ⟨w0.heap.size, 0, none⟩) 1 1, .slice none 0 0, .bool false] 34)) := ((Below.refl _ _).alloc (Nat.le_refl _) _).alloc (by simp) _
  exact ⟨p, rfl, hi.low h1.size, h1.trans (hb.mono h1.size)⟩

/-- what has been taken over of the fields fs, without a name -/
def partX (X : SaysX) (id : ByteArray) (fs : List FieldL) : SaysX := fun g => if g ∈ fs then offN (X g) id else []
theorem partX_nil (X : SaysX) (id : ByteArray) : partX X id [] = fun _ => [] := by
  funext g
  unfold partX
  rw [if_neg (by simp)]
theorem partX_out {X : SaysX} {id : ByteArray} {fs : List FieldL} {f : FieldL} (h : f ∉ fs) : partX X id fs f = [] := by
  unfold partX
  rw [if_neg h]
theorem partX_snoc {X : SaysX} {id : ByteArray} {fs : List FieldL} {f : FieldL} : partX X id (fs ++ [f]) = putX (partX X id fs) f (offN (X f) id) := by
  funext g
  unfold putX partX
  by_cases e : g = f
  · subst e
    rw [if_pos (by simp), if_pos rfl]
  · rw [if_neg e]
    by_cases h : g ∈ fs
    · rw [if_pos (by simp [h]), if_pos h]
    · rw [if_neg (by simp [h, e]), if_neg h]
theorem partX_all {X : SaysX} {id : ByteArray} {fs : List FieldL} (h : Lists X fs) : partX X id fs = dropX X id := by
  funext g
  unfold partX dropX
  by_cases hg : g ∈ fs
  · rw [if_pos hg]
  · rw [if_neg hg]
    have : X g = [] := by
      cases e : X g with
      | nil => rfl
      | cons a r => exact absurd ((h.mem g).2 (by rw [e]; simp)) hg
    rw [this]
    rfl
theorem putX_nil {X : SaysX} {f : FieldL} (h : X f = []) : putX X f [] = X := by
  funext g
  unfold putX
  by_cases e : g = f
  · rw [if_pos e, e, h]
  · rw [if_neg e]
theorem putX_put (X : SaysX) (f : FieldL) (l m : List ByteArray) : putX (putX X f l) f m = putX X f m := by
  funext g
  unfold putX
  split <;> rfl
theorem putX_at (X : SaysX) (f : FieldL) (l : List ByteArray) : putX X f l f = l := by
  unfold putX
  rw [if_pos rfl]
theorem offN_snoc_eq (l : List ByteArray) (id : ByteArray) : offN (l ++ [id]) id = offN l id := by
  unfold offN
  rw [List.filter_append, List.filter_cons_of_neg (by rw [sEq_iff.2 rfl]; decide), List.filter_nil, List.append_nil]
theorem offN_snoc_ne {l : List ByteArray} {s id : ByteArray} (h : s ≠ id) : offN (l ++ [s]) id = offN l id ++ [s] := by
  unfold offN
  rw [List.filter_append, List.filter_cons_of_pos (by rw [sEq_false.2 h]; rfl), List.filter_nil]
theorem slS_at {w w' : World} {a : Option Addr} {l : List ByteArray} {Z : Nat → Prop} (h : SlS w a l) (k : Keeps Z w w') (ha : ∀ j, a.map (·.block) = some j → Z j) : SlS w' a l := fun y s hy => by
  obtain ⟨b, off, rfl, h1⟩ := h y s hy
  exact ⟨b, off, rfl, k.cell (ha b rfl) h1⟩

theorem namesIn_ins {l : List ByteArray} {id : ByteArray} (ha : Asc l) (hn : id ∉ l) : namesIn ((l ++ [id]).map fun s => s.data.toList) = insN l id := by
  have hnd : (l ++ [id]).Nodup := by
    refine List.nodup_append.2 ⟨ha.imp fun h => sLt_ne h, by simp, fun x hx y hy => ?_⟩
    rw [List.mem_singleton] at hy
    rw [hy]
    exact fun e => hn (e ▸ hx)
  have hnd2 : ((l ++ [id]).map fun s => s.data.toList).Nodup := List.pairwise_map.2 (hnd.imp fun h e => h (bdata_inj e))
  refine asc_ext (namesIn_asc hnd2) (insN_asc ha hn) fun s => ?_
  rw [namesIn_mem, mem_insN, List.mem_map]
  constructor
  · rintro ⟨x, hx, e⟩
    rw [← bdata_inj e]
    rcases List.mem_append.1 hx with h | h
    · exact .inr h
    · exact .inl (by simpa using h)
  · intro h
    refine ⟨s, ?_, rfl⟩
    rcases h with h | h
    · simp [h]
    · simp [h]

set_option maxHeartbeats 32000000 in
theorem indexSays_walk (a : Option Addr) (c : Nat) (l : List PV) (a' : Option Addr) (c' : Nat) (l' : List PV) (id : ByteArray) (f : FieldL) (w : World) (hs : SlW w a l) (hl : l.length ≤ c) (hm : c ≤ maxLen) (hsh : ∀ x ∈ l, x.v.r.short) (hs' : SlW w a' l') (hl' : l'.length ≤ c') (hm' : c' ≤ maxLen) (hsh' : ∀ x ∈ l', x.v.r.short) (hid : id.size ≤ maxLen) (hf : f.short) :
    Calls Tryd.prog 4 #[.slice a l.length c, .slice a' l'.length c', .string id, f.v] w fun e w' => e = .returned (.bool true) ∧ Below w.heap.size w w' := by
  obtain ⟨n, hn⟩ : ∃ n, l.length = n := ⟨_, rfl⟩
  obtain ⟨n', hn'⟩ : ∃ n', l'.length = n' := ⟨_, rfl⟩
  obtain ⟨vs, hvs⟩ : ∃ vs, l.map (·.v) = vs := ⟨_, rfl⟩
  obtain ⟨ms, hms⟩ : ∃ ms, l'.map (·.v) = ms := ⟨_, rfl⟩
  have HV := Lib.hid (show VsAt w a n vs from ⟨l, hvs, hn, hs⟩)
  have HV' := Lib.hid (show VsAt w a' n' ms from ⟨l', hms, hn', hs'⟩)
  obtain ⟨st, hst⟩ : ∃ st, stErr vs = st := ⟨_, rfl⟩
  obtain ⟨st', hst'⟩ : ∃ st', stErr ms = st' := ⟨_, rfl⟩
  have HSTO : Hid (∀ wz, Below w.heap.size w wz → Calls Tryd.prog 14 #[.slice a n c] wz fun e w' => e = .returned (.int .i64 st) ∧ Below wz.heap.size wz w') := fun wz hb => refStore_is c wz l (hs.below hb) hvs hn (by rw [← hn]; exact hl) hm hsh hst
  have HSTO' : Hid (∀ wz, Below w.heap.size w wz → Calls Tryd.prog 14 #[.slice a' n' c'] wz fun e w' => e = .returned (.int .i64 st') ∧ Below wz.heap.size wz w') := fun wz hb => refStore_is c' wz l' (hs'.below hb) hms hn' (by rw [← hn']; exact hl') hm' hsh' hst'
  have hnm : n ≤ maxLen := by rw [← hn]; exact Nat.le_trans hl hm
  have hnm' : n' ≤ maxLen := by rw [← hn']; exact Nat.le_trans hl' hm'
  have HNM := Lib.hid hnm
  have HNM' := Lib.hid hnm'
  have HST := Lib.hid hst
  have HST' := Lib.hid hst'
  have HFS := Lib.hid hf
  rw [hn, hn']
  obtain ⟨W0, hW0⟩ : ∃ W0, W0 = w.alloc (.cells #[.string f.key, .string f.val] 24) := ⟨_, rfl⟩
  have hA : Below w.heap.size w W0 := by rw [hW0]; exact (Below.refl _ _).alloc (Nat.le_refl _) _
  have hz0 : W0.heap.size = w.heap.size + 1 := by rw [hW0]; simp
  have c0 : W0.cell? ⟨w.heap.size, 0, none⟩ = some (.string f.key) := by rw [hW0]; simp [go_sem]
  have c1 : W0.cell? ⟨w.heap.size, 1, none⟩ = some (.string f.val) := by rw [hW0]; simp [go_sem]
  have HA := Lib.hid hA
  have HZ0 := Lib.hid hz0
  have HC0 := Lib.hid c0
  have HC1 := Lib.hid c1
  have HW0 := Lib.hid hW0
  obtain ⟨bf, hbf⟩ : ∃ bf, bf = w.heap.size := ⟨_, rfl⟩
  have HBF := Lib.hid hbf
  rw [← hbf] at HC0 HC1 HZ0
  clear hs hl hm hsh hs' hl' hm' hsh' hn hn' hvs hms hst hst' hnm hnm' hf hA hz0 c0 c1 hW0
  go_enter Tryd.func4, Tryd.ntmps4
  go_wp2_with fail
  rw [← HW0.out, ← hbf]
  clear hbf
  refine (new_lit (B := bf + 1) W0 HZ0.out).mono ?_
  rintro e w1 ⟨p0, rfl, HI0, HB0⟩
  have HB1 := Lib.hid (HA.out.trans (HB0.out.mono (by have := HBF.out; omega)))
  have hcc : ∀ {o : Nat} {v : Value}, W0.cell? ⟨bf, o, none⟩ = some v → w1.cell? ⟨bf, o, none⟩ = some v := fun h => (HB0.out.cell (p := ⟨bf, _, none⟩) (show bf < bf + 1 by omega)).trans h
  have HD0 := Lib.hid (hcc HC0.out)
  have HD1 := Lib.hid (hcc HC1.out)
  have HCN := Lib.hid (idxCount_is (N := 1) w1 HI0.out ⟨_, k1_lists⟩ k1_total (by omega))
  clear hcc HC0 HC1 HB0 HI0
  go_wp2_with fail
  refine HCN.out.mono ?_
  rintro e w2 ⟨rfl, hb2⟩
  have HB2 := Lib.hid (HB1.out.trans (hb2.mono HB1.out.size))
  have HC0 := Lib.hid ((hb2.cell (p := ⟨bf, 0, none⟩) (cell_lt HD0.out)).trans HD0.out)
  have HC1 := Lib.hid ((hb2.cell (p := ⟨bf, 1, none⟩) (cell_lt HD0.out)).trans HD1.out)
  clear hb2 HCN HD0 HD1
  by_cases h0 : st = 0
  · subst h0
    have HNW := Lib.hid (new_ok c w2 (HV.out.below HB2.out) HST.out)
    go_wp2_with fail
    refine HNW.out.mono ?_
    rintro e w5 ⟨p, rfl, hidx, hb5⟩
    have HI5 := Lib.hid hidx
    have HB25 := Lib.hid hb5
    have HB5 := Lib.hid (HB2.out.trans (hb5.mono HB2.out.size))
    clear hidx hb5 HNW
    go_wp2_with fail
    refine (HSTO.out w5 HB5.out).mono ?_
    rintro e w6 ⟨rfl, hb6⟩
    have HB56 := Lib.hid hb6
    have HB6 := Lib.hid (HB5.out.trans (hb6.mono HB5.out.size))
    have HPR := Lib.hid (pairs_is c w6 (HV.out.below HB6.out) HST.out)
    clear hb6
    go_wp2_with fail
    refine HPR.out.mono ?_
    rintro e w7 ⟨b1, B1, rfl, hb1, hms7, hb7⟩
    have HLB := Lib.hid hb1
    have HLB5 : Hid (w5.heap.size ≤ b1) := Nat.le_trans HB56.out.size hb1
    have HB57 := Lib.hid (HB56.out.trans (hb7.mono HB56.out.size))
    have HB7 := Lib.hid (HB6.out.trans (hb7.mono HB6.out.size))
    have HW7 := Lib.hid hms7.low
    have HI7 := Lib.hid (HI5.out.below HB57.out)
    have HLN : Hid (∀ g, (newX vs g).length ≤ 5120) := fun g => Nat.le_trans (newX_len vs g) (stErr_ok.1 HST.out).1
    obtain ⟨gs, hgs, hgl⟩ := lists_ex_new HST.out
    have HGS := Lib.hid hgs
    have HGL := Lib.hid hgl
    have HTT := Lib.hid (total_new HST.out)
    have HSY := Lib.hid (says_is w7 HI7.out HW7.out (by omega) HGS.out HGL.out HTT.out (fun g => Nat.le_trans (HLN.out g) (by omega)))
    clear hb1 hms7 hb7 hgs hgl HPR
    go_wp2_with fail
    refine HSY.out.mono ?_
    rintro e w8 ⟨rfl, hb8⟩
    have HB58 := Lib.hid (HB57.out.trans (hb8.mono HB57.out.size))
    have HW8 := Lib.hid (HW7.out.below hb8)
    have HB8 := Lib.hid (HB7.out.trans (hb8.mono HB7.out.size))
    have hb28 : Below w2.heap.size w2 w8 := HB25.out.trans (HB58.out.mono HB25.out.size)
    have c0 := (hb28.cell (p := ⟨bf, 0, none⟩) (cell_lt HC0.out)).trans HC0.out
    have c1 := (hb28.cell (p := ⟨bf, 1, none⟩) (cell_lt HC0.out)).trans HC1.out
    have HD0 := Lib.hid c0
    have HD1 := Lib.hid c1
    obtain ⟨er, her⟩ : ∃ er, byE f = er := ⟨_, rfl⟩
    obtain ⟨L, hL⟩ : ∃ L, byX (newX vs) f = L := ⟨_, rfl⟩
    have HER := Lib.hid her
    have HLL := Lib.hid hL
    have HBY := Lib.hid (idxBy_is f w8 (HI5.out.below HB58.out) (Nat.le_trans (HLN.out f) (by omega)) HLL.out HER.out)
    clear hb8 hb28 her hL HSY
    go_wp2_with fail
    refine HBY.out.mono ?_
    rintro e w9 ⟨A9, k9, c9, rfl, hk9, ho9, hb9⟩
    have HB89 := Lib.hid hb9
    have HO9 := Lib.hid ho9
    have HK9 := Lib.hid hk9
    have HB9 := Lib.hid (HB8.out.trans (hb9.mono HB8.out.size))
    have HE0 := Lib.hid ((hb9.cell (p := ⟨bf, 0, none⟩) (cell_lt HD0.out)).trans HD0.out)
    have HE1 := Lib.hid ((hb9.cell (p := ⟨bf, 1, none⟩) (cell_lt HD1.out)).trans HD1.out)
    have HW9 := Lib.hid (HW8.out.below hb9)
    have HB59 := Lib.hid (HB58.out.trans (hb9.mono HB58.out.size))
    clear hk9 ho9 hb9 HBY c0 c1 HD0 HD1 HW8
    go_upto_region 14 with fail
    go_cut [96] from 87 to 96 (fun s wc => s = .bool (!isFd f) ∧ Hid (Below w9.heap.size w9 wc))
    case first =>
      obtain ⟨tk, htk⟩ : ∃ tk, isNm f.key = tk := ⟨_, rfl⟩
      obtain ⟨tv, htv⟩ : ∃ tv, isVl f.val = tv := ⟨_, rfl⟩
      have hfe : isFd f = (tk && tv) := by unfold isFd; rw [htk, htv]
      have HFE := Lib.hid hfe
      have HTK := Lib.hid htk
      have HTV := Lib.hid htv
      have c0 := HE0.out
      have c1 := HE1.out
      clear hfe htk htv
      go_wp2_with fail
      refine (refId_is f.key _ HTK.out).mono ?_
      rintro e w10 ⟨rfl, hb10⟩
      have d1 := (hb10.cell (p := ⟨bf, 1, none⟩) (cell_lt HE1.out)).trans HE1.out
      have HB10 := Lib.hid hb10
      clear c0 c1 hb10
      cases tk with
      | false =>
        go_wp2_with fail
        go_meet
        exact ⟨by rw [HFE.out]; rfl, HB10.out⟩
      | true =>
        go_wp2_with fail
        refine (refValue_is f.val _ HFS.out.2 HTV.out).mono ?_
        rintro e w11 ⟨rfl, hb11⟩
        have HB11 := Lib.hid (HB10.out.trans (hb11.mono HB10.out.size))
        clear hb11
        go_wp2_with fail
        go_meet
        exact ⟨by rw [HFE.out]; simp, HB11.out⟩
    case rest =>
      obtain ⟨rfl, HBC⟩ := hcut
      go_upto_if 96 with fail
      have HE0c := Lib.hid ((HBC.out.cell (p := ⟨bf, 0, none⟩) (cell_lt HE0.out)).trans HE0.out)
      have HE1c := Lib.hid ((HBC.out.cell (p := ⟨bf, 1, none⟩) (cell_lt HE1.out)).trans HE1.out)
      go_cut [] (fun wd => Hid (Below wc.heap.size wc wd))
      case first =>
        have HSL9 := Lib.hid (OwnS.at_ HO9.out HK9.out)
        obtain ⟨H1, V1, him1, hfin1⟩ := HW9.out.below HBC.out
        cases hfd : isFd f with
        | true =>
          have he0 : er = 0 := by rw [← HER.out]; unfold byE; rw [if_pos hfd]
          have hLX : newX vs f = L := by rw [← HLL.out]; unfold byX; rw [if_pos hfd]
          subst he0
          obtain ⟨A1, q1, hV1⟩ := (him1.rows.row f).form
          have hro := him1.rows.row f
          have hlk := him1.look (short_fd hfd)
          rw [hV1] at hro hlk
          rw [hLX] at hro hlk
          obtain ⟨s1, s2, s3⟩ := OwnS.sl hro
          rw [HK9.out] at hlk s2
          have hEQ := eqS_is (b := true) A9 A1 L L c9 q1 wc (HSL9.out.1.below HBC.out) s1 (by rw [HK9.out]; exact Nat.le_trans s2 s3) (by rw [HK9.out]; exact Nat.le_trans s2 s3) (by simp)
          rw [HK9.out] at hEQ
          have HEQ := Lib.hid hEQ
          have c0 := HE0c.out
          have c1 := HE1c.out
          clear him1 hfin1 hV1 hro s1 s2 s3 hEQ hLX hfd HSL9
          go_wp2_with fail
          refine HEQ.out.mono ?_
          rintro e w12 ⟨rfl, hb12⟩
          have HB12 := Lib.hid hb12
          clear hb12 hlk c0 c1
          go_wp2_with fail
          go_meet
          exact HB12.out
        | false =>
          have he3 : er = 3 := by rw [← HER.out]; unfold byE; rw [hfd]; rfl
          have hL0 : L = [] := by rw [← HLL.out]; unfold byX; rw [hfd]; rfl
          subst he3 hL0
          obtain rfl : k9 = 0 := HK9.out.symm
          clear him1 hfin1 hfd HSL9
          go_wp2_with fail
          go_meet
          exact Below.refl _ _
      case rest =>
        have HBD := hcut
        have HB9c := Lib.hid (HBC.out.trans (HBD.out.mono HBC.out.size))
        have HBw := Lib.hid (HB9.out.trans (HB9c.out.mono HB9.out.size))
        have HB5c := Lib.hid (HB59.out.trans (HB9c.out.mono HB59.out.size))
        have HWc := Lib.hid (HW9.out.below HB9c.out)
        have HIc := Lib.hid (HI5.out.below HB5c.out)
        clear hcut HBD HB9c HE0 HE1 HE0c HE1c HO9 HK9 HBC HB9 HB59 HB89 HW9 HB8 HB58 HW7 HI7 HB57 HB7 HB56 HER HLL
        by_cases h1 : st' = 0
        · subst h1
          obtain ⟨Zn, hZn⟩ : ∃ Zn : Nat → Prop, Zn = fun z => z < w2.heap.size ∨ (w5.heap.size ≤ z ∧ z < wc.heap.size) := ⟨_, rfl⟩
          have hs25 := HB25.out.size
          have hs5c := HB5c.out.size
          have hA : IdxA wc w2.heap.size p 40000 Zn (newX vs) := ((HI5.out.with).below HB5c.out).sub fun z k => by rw [hZn] at k; rcases k with k | k; exact .inl k; exact .inr k.1
          have hzl : ∀ z, Zn z → z < wc.heap.size := fun z k => by rw [hZn] at k; rcases k with k | k <;> omega
          have hzS : ∀ z, z < w2.heap.size → Zn z := fun z k => by rw [hZn]; exact .inl k
          have hzT : ∀ z, w5.heap.size ≤ z → z < wc.heap.size → Zn z := fun z h1 h2 => by rw [hZn]; exact .inr ⟨h1, h2⟩
          have HNT := Lib.hid (note_ok c' id wc hA hzl (HV'.out.below HBw.out) HST'.out (fun g => byL_asc vs g) (fun g => Nat.le_trans (HLN.out g) (by omega)) (by omega))
          have HZS := Lib.hid hzS
          have HZT := Lib.hid hzT
          have HSC : Hid (w2.heap.size ≤ wc.heap.size) := by show w2.heap.size ≤ _; omega
          clear hs25 hs5c hA hzl hzS hzT hZn
          go_wp2_with fail
          refine HNT.out.mono ?_
          rintro e w13 ⟨rfl, hidx, hkp⟩
          obtain ⟨XN, hXN⟩ : ∃ XN, noteX (newX vs) (fsOf ms id) id = XN := ⟨_, rfl⟩
          rw [hXN] at hidx
          have HXN := Lib.hid hXN
          have HI13 := Lib.hid hidx.idx
          have HB13 : Hid (Below w.heap.size w w13) := HBw.out.trans ((hkp.to HZS.out HSC.out).mono HB2.out.size)
          have HW13 := Lib.hid (HWc.out.keeps HLB5.out hkp HZT.out)
          clear hidx hkp HNT hXN HIc HWc HZS HZT
          go_wp2_with fail
          refine (HSTO'.out w13 HB13.out).mono ?_
          rintro e w14 ⟨rfl, hb14⟩
          have HB14 := Lib.hid (HB13.out.trans (hb14.mono HB13.out.size))
          have HI14 := Lib.hid (HI13.out.below hb14)
          have HW14 := Lib.hid (HW13.out.below hb14)
          clear hb14 HI13 HW13 HSTO HSTO'
          obtain ⟨H1, V1, him1, hfin1⟩ := HW14.out
          obtain ⟨D1, hown1, hrd1⟩ := him1.m
          obtain ⟨W15, hW15⟩ : ∃ W15, W15 = w14.alloc (.map #[] 0) := ⟨_, rfl⟩
          have hb15 : Below w14.heap.size w14 W15 := by rw [hW15]; exact (Below.refl _ _).alloc (Nat.le_refl _) _
          have hs15 : W15.heap.size = w14.heap.size + 1 := by rw [hW15]; simp
          have hown15 : mIdx W15 b1 40000 D1 := hown1.kept (grown_of_below hb15) (by simp)
          have hmz15 : MapZ W15 w14.heap.size 0 (fun _ => []) (fun z => z ≠ w14.heap.size) := by rw [hW15]; exact mapZ_made w14
          have HIM := Lib.hid him1
          have HFIN := Lib.hid hfin1
          have HRD := Lib.hid hrd1
          have HB15 := Lib.hid (HB14.out.trans (hb15.mono HB14.out.size))
          have HB145 := Lib.hid hb15
          have HMZ15 := Lib.hid hmz15
          have HS15 := Lib.hid hs15
          have HBL1 : Hid (b1 < w14.heap.size) := him1.mlt
          have HW15 := Lib.hid hW15
          have hmm := @run_makeMap Tryd.prog
          rw [hW15] at hown15
          clear him1 hfin1 hown1 hrd1 hb15 hs15 hmz15 hW15
          go_wp2_with (at_range; refine wpList_range_own _ rfl _ 45 rfl 24 25 lawFd Tryd.underlying45 rawE b1 40000 D1 rfl hown15 ?_; intro w16 hrg0 hg0 hs0)
          go_frame
          rw [← HW15.out] at hrg0 hg0 hs0 ⊢
          obtain ⟨bn, hbn⟩ : ∃ bn, bn = w14.heap.size := ⟨_, rfl⟩
          obtain ⟨rr, hrr⟩ : ∃ rr, rr = W15.heap.size := ⟨_, rfl⟩
          rw [← hbn, ← hrr]
          rw [← hrr] at hrg0 hs0
          obtain ⟨Z1, hZ1⟩ : ∃ Z1 : Nat → Prop, Z1 = fun z => z < w16.heap.size ∧ z ≠ bn := ⟨_, rfl⟩
          have hb16 : Below W15.heap.size W15 w16 := (Below.refl _ _).grown hg0 (Nat.le_refl _) (fun j hj => by cases hj)
          have hmz16 : MapZ w16 bn 0 (partX (newX vs) id []) Z1 := by
            rw [partX_nil, hbn, hZ1]
            exact (HMZ15.out.below hb16).sub fun z k => by rw [hbn] at k; exact k.2
          have hrrn : rr = bn + 1 := by rw [hrr, hbn, HS15.out]
          have HZ1L : Hid (∀ z, Z1 z → z < w16.heap.size) := fun z k => by rw [hZ1] at k; exact k.1
          have HZ1S : Hid (∀ z, z < bn → Z1 z) := fun z k => by rw [hZ1]; have h1 := hb16.size; exact ⟨by omega, by omega⟩
          have HZ1N : Hid (¬ Z1 bn) := fun k => by rw [hZ1] at k; exact k.2 rfl
          have HZ1R : Hid (Z1 rr) := by show Z1 rr; rw [hZ1]; have := hrg0.lt; exact ⟨this, by omega⟩
          have HMZ16 := Lib.hid hmz16
          have HB16 := Lib.hid (HB15.out.trans (hb16.mono HB15.out.size))
          have HB1416 : Hid (Below bn w14 w16) := by show Below _ _ _; rw [hbn]; exact HB145.out.trans (hb16.mono HB145.out.size)
          have HBN := Lib.hid hbn
          have HRRN := Lib.hid hrrn
          have HBL2 : Hid (b1 < bn) := by show b1 < bn; have := HBL1.out; omega
          obtain ⟨i0, hi, hz0, hz1, hz2⟩ := info_parts Tryd.infoStr
          obtain ⟨N, hN⟩ : ∃ N, total (newX vs) = N := ⟨_, rfl⟩
          have HNT : Hid (N ≤ 1000000000) := by show N ≤ _; rw [← hN]; exact HTT.out
          have HSUM : Hid (∀ fs : List FieldL, fs.Nodup → (∀ g ∈ fs, H1 g = true) → countOf (newX vs) fs ≤ N) := fun fs hnd hall => by
            rw [← hN, HGS.out.total]
            exact countOf_le hnd fun g hg => (HGS.out.mem g).2 (HFIN.out g (hall g hg)).1
          have hlb1 : b1 < rr := by have := HBL2.out; omega
          clear hg0 hb16 hmz16 hbn hrr hrrn hZ1 hown15 hmm hN
          go_loopw [] (fun wq => ∃ (left : Lit → Bool) (cnt nn : Nat) (fs : List FieldL), wq.ranges Tryd.prog 24 rawE b1 rr 40000 D1 left cnt ∧ Hid (Met H1 left fs) ∧ Hid (MapZ wq bn nn (partX (newX vs) id fs) Z1) ∧ Hid (nn ≤ countOf (newX vs) fs) ∧ Hid (Below bn w16 wq)) (fun wq => wq.rangeLeft b1 rr)
          case atStart => exact ⟨_, _, 0, [], hrg0, Met.start HRD.out, HMZ16.out, Nat.zero_le _, Below.refl _ _⟩
          case round =>
            clear hrg0 hs0 HMZ16
            obtain ⟨left, cnt, nn, fs, hrg, HMT, HMZ, HNN, HK⟩ := hrel
            go_wp2_with (at_next; refine wpList_next_ranges _ rfl _ rfl 24 lawFd rawE (fun f : FieldL => f.v) (fun v : Value => v) (fun key kl hk => by obtain ⟨f, e⟩ := fd_inv hk; exact ⟨f, e⟩) (fun v y hv => ⟨v, rfl⟩) b1 rr 40000 _ _ _ rfl hrg ?_ ?_)
            · intro _ hl0
              have hlf : Lists (newX vs) fs := by
                refine ⟨HMT.out.nodup, fun g => ⟨fun hg => (HFIN.out g (HMT.out.sound g hg).1).1, fun hX => ?_⟩⟩
                have hH : H1 g = true := by
                  cases hh : H1 g with
                  | true => rfl
                  | false => exact absurd (HIM.out.rows.off g hh) hX
                obtain ⟨k, hk⟩ := fd_key g (short_fd (HFIN.out g hH).2)
                rcases HMT.out.full g k hk hH with h6 | h6
                · rw [hl0 k] at h6
                  cases h6
                · exact h6
              have hmz : MapZ wr bn nn (dropX (newX vs) id) Z1 := HMZ.out.congr (partX_all hlf)
              have hnn : nn ≤ N := Nat.le_trans HNN.out (HSUM.out fs HMT.out.nodup fun g hg => (HMT.out.sound g hg).1)
              have hbw : Below w.heap.size w wr := HB14.out.trans ((HB1416.out.trans HK.out).mono (by rw [HBN.out]; exact HB14.out.size))
              have hvw := HV'.out.below hbw
              obtain ⟨gi, hget, hcase⟩ : ∃ gi : Int, (Calls Tryd.prog 26 #[.slice a' n' c', .string id] wr fun e w' => e = .returned (.int .i64 gi) ∧ Below wr.heap.size wr w') ∧ Hid ((gi = -1 ∧ fsOf ms id = []) ∨ ∃ (t : Nat) (x : PV) (lv : List PV), gi = (t : Int) ∧ lv.map (·.v) = ms ∧ lv.length = n' ∧ SlW w a' lv ∧ lv[t]? = some x ∧ x.v.r.fs = fsOf ms id ∧ x.v.r.Ok) := by
                by_cases hin : id ∈ idsV ms
                · obtain ⟨t, v, hvt, hgv, hg⟩ := refGet_in c' id wr hvw HST'.out hin
                  obtain ⟨lv, hlv, hln, hsw⟩ := HV'.out
                  obtain ⟨x, hx, hxv⟩ : ∃ x, lv[t]? = some x ∧ x.v = v := by
                    rw [← hlv, List.getElem?_map] at hvt
                    obtain ⟨x, hx, e⟩ := Option.map_eq_some_iff.1 hvt
                    exact ⟨x, hx, e⟩
                  exact ⟨t, hg, .inr ⟨t, x, lv, rfl, hlv, hln, hsw, hx, by rw [hxv, fsOf_some hgv], by rw [hxv]; exact (stErr_ok.1 HST'.out).2.ver v (getV_some hgv).1⟩⟩
                · refine ⟨-1, refGet_out c' id wr hvw HST'.out hin, .inl ⟨rfl, fsOf_none ?_⟩⟩
                  cases hg : getV ms id with
                  | none => rfl
                  | some v => exact absurd (mem_idsV.2 ⟨v, hg⟩) hin
              have HGET := Lib.hid hget
              have HMZW := Lib.hid hmz
              have HNNW := Lib.hid hnn
              clear hl0 hlf hmz hnn hbw hvw hget hrg HMT HMZ HNN
              go_upto_if 175 with (first | (go_at_call 26; (with_reducible refine HGET.out.mono ?_); rintro e w17 ⟨rfl, hb17⟩))
              have HMZ17 := Lib.hid (HMZW.out.below hb17)
              have HB17 : Hid (Below bn w16 w17) := HK.out.trans (hb17.mono (by have h1 := HK.out.size; have h2 := HZ1L.out rr HZ1R.out; have h3 := HRRN.out; omega))
              have HBS17 : Hid (bn + 1 ≤ w17.heap.size) := by have h1 := HB17.out.size; have h2 := HZ1L.out rr HZ1R.out; have h3 := HRRN.out; show bn + 1 ≤ _; omega
              clear hb17 HGET HMZW
              go_cut [] (fun wd => Hid (∃ nd, nd ≤ N + 6 ∧ MapZ wd bn nd XN Z1) ∧ Hid (Below bn w16 wd))
              case first =>
                rcases hcase.out with ⟨rfl, hf0⟩ | ⟨t, x, lv, rfl, hlv, hln, hsw, hx, hxf, hxo⟩
                · have hXX : dropX (newX vs) id = XN := by rw [← HXN.out]; unfold noteX; rw [hf0, addX_nil]
                  have HE : Hid (∃ nd, nd ≤ N + 6 ∧ MapZ w17 bn nd XN Z1) := ⟨nn, by have := HNNW.out; omega, HMZ17.out.congr hXX⟩
                  clear hf0 hXX
                  go_wp2_with fail
                  go_meet
                  exact ⟨HE.out, HB17.out⟩
                · obtain ⟨fm, hfm⟩ : ∃ fm, fsOf ms id = fm := ⟨_, rfl⟩
                  rw [hfm] at hxf
                  have hfo := hxo.fs
                  have hfl := hxo.nf
                  rw [hxf] at hfo hfl
                  obtain ⟨hxi, bx', ox, hax, d0, d1, d2, d3, d4⟩ := hsw t x hx
                  have htn : t < n' := by rw [← hln]; exact (List.getElem?_eq_some_iff.1 hx).1
                  obtain ⟨fa, hfa⟩ : ∃ fa, x.p.fa = fa := ⟨_, rfl⟩
                  obtain ⟨fc, hfc⟩ : ∃ fc, x.p.fc = fc := ⟨_, rfl⟩
                  have hfx : SlF w fa fm := by
                    have := hxi.hf
                    rw [hxf, hfa] at this
                    exact this
                  rw [hxf, hfa, hfc] at d2
                  obtain ⟨F, hF⟩ : ∃ F, fm.length = F := ⟨_, rfl⟩
                  rw [hF] at d2 hfl
                  have hbz : ∀ {wz : World}, Below bn w16 wz → Below w.heap.size w wz := fun h => HB14.out.trans ((HB1416.out.trans h).mono (by rw [HBN.out]; exact HB14.out.size))
                  have HBZ : Hid (∀ wz : World, Below bn w16 wz → Below w.heap.size w wz) := fun wz h => hbz h
                  have e2 := ((hbz HB17.out).cell (p := ⟨bx', ox + t * 5 + 2, none⟩) (cell_lt d2)).trans d2
                  have t1 : (0 : Int) ≤ (t : Int) := by omega
                  have t2 : (t : Int) < (n' : Int) := by omega
                  have HFO := Lib.hid hfo
                  have HFX := Lib.hid hfx
                  have HF := Lib.hid hF
                  have HFM := Lib.hid hfm
                  subst hax
                  clear hlv hln hsw hx hxf hxo hxi d0 d1 d2 d3 d4 hfo hfx hF hfm hfa hfc hbz htn
                  go_wp2_with fail
                  go_loopw [183] (fun i wq => ∃ k nq : Nat, k ≤ F ∧ i = .int .i64 k ∧ Hid (nq ≤ nn + k) ∧ Hid (MapZ wq bn nq (addX (dropX (newX vs) id) (fm.take k) id) Z1) ∧ Hid (Below bn w16 wq)) (fun i _ => F - (intOf i).toNat)
                  case atStart => exact ⟨0, nn, Nat.zero_le _, rfl, Nat.le_refl _, (by show MapZ _ _ _ _ _; rw [List.take_zero, addX_nil]; exact HMZ17.out), HB17.out⟩
                  case round =>
                    clear e2
                    obtain ⟨k, nq, hk, rfl, HNQ, HMQ, HBQ⟩ := hrel
                    by_cases hkl : k < F
                    · obtain ⟨g, hg⟩ : ∃ g, fm[k]? = some g := ⟨_, List.getElem?_eq_getElem (by rw [HF.out]; exact hkl)⟩
                      have hfd : isFd g = true := fOk_all HFO.out g (List.mem_of_getElem? hg)
                      have hnk : g ∉ fm.take k := key_once HFO.out hg
                      obtain ⟨bg, off, rfl, z0, z1⟩ := (HFX.out.below (HBZ.out wr HBQ.out)) k g hg
                      obtain ⟨l0, hl0⟩ : ∃ l0, dropX (newX vs) id g = l0 := ⟨_, rfl⟩
                      have hXk : addX (dropX (newX vs) id) (fm.take k) id g = l0 := (addX_at hnk).trans hl0
                      have hXs : addX (dropX (newX vs) id) (fm.take (k + 1)) id = putX (addX (dropX (newX vs) id) (fm.take k) id) g (insN l0 id) := by rw [take_snoc hg, addX_step hnk, hl0]
                      have hasc : Asc l0 := by rw [← hl0]; exact offN_asc (byL_asc vs g)
                      have hidn : id ∉ l0 := fun h => by rw [← hl0] at h; exact (mem_offN.1 (show id ∈ offN (newX vs g) id from h)).2 rfl
                      obtain ⟨q0, hq0⟩ : ∃ q0, l0.length = q0 := ⟨_, rfl⟩
                      have hq5 : q0 ≤ 5120 := by
                        rw [← hq0, ← hl0]
                        exact Nat.le_trans (List.length_filter_le _ _) (HLN.out g)
                      have j1 : (0 : Int) ≤ (k : Int) := by omega
                      have j2 : (k : Int) < (F : Int) := by omega
                      obtain ⟨bx, hbx⟩ : ∃ bx, bx = wr.heap.size := ⟨_, rfl⟩
                      obtain ⟨W5, hW5⟩ : ∃ W5, W5 = (wr.alloc (.cells #[.string g.key, .string g.val] 24)).alloc (.cells #[.string id] 9) := ⟨_, rfl⟩
                      have hb5 : Below wr.heap.size wr W5 := by rw [hW5]; exact ((Below.refl _ _).alloc (Nat.le_refl _) _).alloc (by simp) _
                      have hs5 : W5.heap.size = bx + 2 := by rw [hW5, hbx]; simp
                      have x0 : W5.cell? ⟨bx, 0, none⟩ = some (.string g.key) := by rw [hW5, hbx]; simp [go_sem]
                      have x1 : W5.cell? ⟨bx, 1, none⟩ = some (.string g.val) := by rw [hW5, hbx]; simp [go_sem]
                      have c5 : W5.cell? ⟨bx + 1, 0, none⟩ = some (.string id) := by rw [hW5, hbx]; simp [go_sem]
                      obtain ⟨Z3, hZ3⟩ : ∃ Z3 : Nat → Prop, Z3 = fun z => Z1 z ∨ z = bx ∨ z = bx + 1 := ⟨_, rfl⟩
                      have hmz : MapZ W5 bn nq (addX (dropX (newX vs) id) (fm.take k) id) Z3 := (HMQ.out.wide.below hb5).sub fun z h => by
                        rw [hZ3] at h
                        rcases h with h | h | h
                        · exact .inl h
                        · exact .inr (by omega)
                        · exact .inr (by omega)
                      have hbq0 : w16.heap.size ≤ wr.heap.size := HBQ.out.size
                      have hz3l : ∀ z, Z3 z → z < W5.heap.size := fun z h => by
                        rw [hZ3] at h
                        rcases h with h | h | h
                        · have h1 := HZ1L.out z h; omega
                        · omega
                        · omega
                      have hz13 : ∀ z, Z1 z → Z3 z := fun z h => by rw [hZ3]; exact .inl h
                      have hz3v : Z3 (bx + 1) := by rw [hZ3]; exact .inr (.inr rfl)
                      have hz3x : Z3 bx := by rw [hZ3]; exact .inr (.inl rfl)
                      obtain ⟨A2, c2, sp, w1, hrun, hrow, hk1, hbs, hent⟩ := hmz.add hz3l (by have h1 := HNQ.out; have h2 := HNNW.out; have h3 := HNT.out; unfold maxLen; omega) hfd
                      rw [hXk] at hrun hrow hent
                      rw [hq0] at hrun hrow hent
                      have hcv := hk1.out.cell hz3v c5
                      have hnews : ∀ y u, (cellsS [id])[y]? = some u → w1.cell? ((⟨bx + 1, 0, none⟩ : Addr).add y) = some u := by
                        intro y u hy
                        rw [addr_at]
                        match y, hy with
                        | 0, hy => cases hy; exact hcv
                      have HNEWS := Lib.hid hnews
                      have HROW := hrow
                      have HBS := hbs
                      have HENT := hent
                      have HQ0 := Lib.hid hq0
                      have HXS := Lib.hid hXs
                      have HB5 := Lib.hid hb5
                      have HZ13 := Lib.hid hz13
                      have HZ3X := Lib.hid hz3x
                      have HFD := Lib.hid hfd
                      have HASC := Lib.hid hasc
                      have HIDN := Lib.hid hidn
                      have HX0 := Lib.hid x0
                      have HX1 := Lib.hid x1
                      rw [hW5] at hrun
                      have HBX := Lib.hid hbx
                      rw [hbx] at HNEWS
                      clear hg hfd hnk hl0 hXk hXs hasc hidn hq0 hbx hb5 hs5 x0 x1 c5 hmz hbq0 hz3l hz13 hz3v hz3x hrow hk1 hbs hent hcv hnews hZ3 hW5
                      go_wp2_with (at_builtin; refine wpList_append_own_at _ rfl _ _ 25 rfl (bn + 1) 9 i0 _ 1 16 Tryd.underlying25 hi hz0 hz1 hz2 rfl (by decide) _ _ _ rfl HROW.out ⟨wr.heap.size + 1, 0, none⟩ 1 1 (cellsS [id]) rfl rfl HNEWS.out (cellsS_one [id]) ?c3 ?c4 HBS.out ?_)
                      case c3 => unfold maxLen; omega
                      case c4 => omega
                      all_goals
                        intro v' w5' hown5 hgrow5 hnv5 hat5
                        have ho5 : OwnS (bn + 1) w5' v' (l0 ++ [id]) := by
                          unfold OwnS
                          rw [cellsS_app, List.length_append, HQ0.out]
                          exact hown5
                        obtain ⟨w6, hst6, HM6, HK6⟩ := HENT.out w5' v' (l0 ++ [id]) (by simp) ho5 hgrow5 hat5
                        have u0 := HK6.out.cell HZ3X.out HX0.out
                        have u1 := HK6.out.cell HZ3X.out HX1.out
                        rw [HBX.out] at u0 u1
                        obtain ⟨A7, c7, HLK7, HOW7, HNZ7, HTN7⟩ := HM6.out.look HFD.out
                        rw [putX_at] at HLK7 HOW7 HTN7
                        obtain ⟨m7, hm7⟩ : ∃ m7, (l0 ++ [id]).length = m7 := ⟨_, rfl⟩
                        have hm75 : m7 ≤ 5121 := by rw [← hm7, List.length_append, HQ0.out]; simp; omega
                        have hrow7 : w6.ownsRow (bn + 1) 9 1 (.slice A7 m7 c7) m7 (((l0 ++ [id]).map fun s => s.data.toList).map encStr) := by
                          have := HOW7.out
                          unfold OwnS at this
                          rw [hm7] at this
                          rw [map_enc]
                          exact this
                        rw [hm7] at HLK7 HTN7
                        have hl7 := HLK7.out w6 (Below.refl _ _)
                        have HSO := Lib.hid (sortStr_is A7 c7 ((l0 ++ [id]).map fun s => s.data.toList) w6 hrow7 (by rw [List.length_map]; exact hm7) (by omega))
                        clear hown5 hgrow5 hnv5 hat5 ho5 hrun z0 z1 hrow7 hm7
                        go_wp2_with fail
                        (with_reducible refine HSO.out.mono ?_)
                        rintro e w7 ⟨rfl, ho7, hg7⟩
                        have hns : namesIn ((l0 ++ [id]).map fun s => s.data.toList) = insN l0 id := namesIn_ins HASC.out HIDN.out
                        rw [hns] at ho7
                        have hmz7 := HTN7.out (by simp) w7 (insN l0 id) (insN_ne _ _) hg7 ho7
                        rw [putX_put] at hmz7
                        have hk67 : Keeps Z1 w6 w7 := Keeps.grown hg7 fun z k e => (HNZ7.out z e.symm).1 (HZ13.out z k)
                        have hB7 : Below bn w16 w7 := HBQ.out.trans (((Keeps.of (Z := Z1) HB5.out).trans ((HK6.out.sub HZ13.out).trans hk67)).to HZ1S.out (by have h1 := HBQ.out.size; have h2 := HZ1L.out rr HZ1R.out; have h3 := HRRN.out; omega))
                        have HMZ7 : Hid (MapZ w7 bn (nq + 1) (addX (dropX (newX vs) id) (fm.take (k + 1)) id) Z1) := by
                          show MapZ _ _ _ _ _
                          rw [HXS.out]
                          exact hmz7.sub HZ13.out
                        have HB7 := Lib.hid hB7
                        clear hst6 u0 u1 hl7 ho7 hg7 hns hmz7 hk67 hB7 HSO
                        go_wp2_with fail
                        go_roundw
                        case rel =>
                          (repeat apply Exists.intro)
                          exact ⟨⟨k + 1, nq + 1, by omega, by go_num, (show nq + 1 ≤ nn + (k + 1) by have := HNQ.out; omega), HMZ7.out, HB7.out⟩, rfl⟩
                        case measure => simp [intOf]; omega
                    · obtain rfl : k = F := by omega
                      have hall : fm.take k = fm := List.take_of_length_le (by rw [HF.out]; exact Nat.le_refl _)
                      have hXX : addX (dropX (newX vs) id) (fm.take k) id = XN := by rw [hall, ← HXN.out, ← HFM.out]; rfl
                      have HE : Hid (∃ nd, nd ≤ N + 6 ∧ MapZ wr bn nd XN Z1) := ⟨nq, by have h1 := HNNW.out; have h2 := HNQ.out; omega, HMQ.out.congr hXX⟩
                      clear hall hXX
                      go_wp2_with fail
                      go_meet
                      exact ⟨HE.out, HBQ.out⟩
              case rest =>
                obtain ⟨HEX, HBc⟩ := hcut
                obtain ⟨nd, hnd, hmzd⟩ := HEX.out
                have hbz : Below w14.heap.size w14 wc := by rw [← HBN.out]; exact HB1416.out.trans HBc.out
                have HBwc : Hid (Below w.heap.size w wc) := HB14.out.trans (hbz.mono HB14.out.size)
                have HIc := Lib.hid (HI14.out.below hbz)
                have HLX : Hid (∀ g, (XN g).length ≤ 5121) := fun g => by
                  have h1 := noteX_len (newX vs) (fsOf ms id) id g
                  rw [HXN.out] at h1
                  have h2 := HLN.out g
                  omega
                obtain ⟨t, ht⟩ : ∃ t : Bool, (XN = newX ms ↔ t = true) := by
                  by_cases h : XN = newX ms
                  · exact ⟨true, by simp [h]⟩
                  · exact ⟨false, by simp [h]⟩
                have HSM := Lib.hid (same_is c' wc HIc.out (HV'.out.below HBwc.out) HST'.out (fun g => Nat.le_trans (HLX.out g) (by omega)) ht)
                have HTT2 := Lib.hid ht
                have HNOW := Lib.hid hmzd.says
                have HND := Lib.hid hnd
                clear hcase HMZ17 HB17 HBS17 HNNW HK HRD HIM HFIN HSUM HZ1L HZ1S HZ1N HZ1R HW14 HW15 HS15 HMZ15 HB145 HEX hnd hmzd hbz ht
                go_wp2_with fail
                (with_reducible refine HSM.out.mono ?_)
                rintro e w20 ⟨rfl, hb20⟩
                have HB20 := Lib.hid (HBwc.out.trans (hb20.mono HBwc.out.size))
                have HI20 := Lib.hid (HIc.out.below hb20)
                have HN20 := Lib.hid (HNOW.out.below hb20)
                have HPR2 := Lib.hid (pairs_is c' w20 (HV'.out.below HB20.out) HST'.out)
                clear hb20 HSM HIc HNOW HBwc
                go_wp2_with fail
                (with_reducible refine HPR2.out.mono ?_)
                rintro e w21 ⟨bo, Bo, rfl, hbo, hmo, hb21⟩
                have HB21 := Lib.hid (HB20.out.trans (hb21.mono HB20.out.size))
                have HI21 := Lib.hid (HI20.out.below hb21)
                have HN21 := Lib.hid (HN20.out.below hb21)
                obtain ⟨Hn, Vn, imn, finn⟩ := HN21.out
                obtain ⟨Dn, ownn, rdn⟩ := imn.m
                obtain ⟨Ho, Vo, imo, fino⟩ := hmo
                obtain ⟨Do, owno, rdo⟩ := imo.m
                have l1 := fun ty => ownn.len Tryd.underlying45 ty
                have l2 := fun ty => owno.len Tryd.underlying45 ty
                have hiff : ∀ fs : List FieldL, (∀ g ∈ fs, Hn g = true) → (∀ g, Hn g = true → g ∈ fs) → ((Maps.size Dn = Maps.size Do ∧ ∀ g ∈ fs, XN g = newX ms g) ↔ XN = newX ms) := fun fs hin hall => by
                  constructor
                  · rintro ⟨hsz, he⟩
                    funext g
                    cases e : Hn g with
                    | true => exact he g (hall g e)
                    | false =>
                      rw [imn.rows.off g e]
                      cases e' : Ho g with
                      | false => exact (imo.rows.off g e').symm
                      | true =>
                        have := imap_full ownn owno rdn rdo (fun x hx => by
                          cases e2 : Ho x with
                          | true => rfl
                          | false => exact absurd ((he x (hall x hx)).trans (imo.rows.off x e2)) (finn x hx).1) hsz (short_fd (fino g e').2) e'
                        rw [e] at this
                        cases this
                  · intro heq
                    refine ⟨imap_size ownn owno rdn rdo fun g => ?_, fun g _ => by rw [heq]⟩
                    cases e : Hn g with
                    | true =>
                      cases e' : Ho g with
                      | true => rfl
                      | false => exact absurd (by rw [heq]; exact imo.rows.off g e') (finn g e).1
                    | false =>
                      cases e' : Ho g with
                      | false => rfl
                      | true => exact absurd (by rw [← heq]; exact imn.rows.off g e) (fino g e').1
                obtain ⟨sn, hsn⟩ : ∃ sn, Maps.size Dn = sn := ⟨_, rfl⟩
                obtain ⟨so, hso⟩ : ∃ so, Maps.size Do = so := ⟨_, rfl⟩
                rw [hsn] at l1 hiff
                rw [hso] at l2 hiff
                have HIFF := Lib.hid hiff
                have HIMN := Lib.hid imn
                have HFN := Lib.hid finn
                have HRDN := Lib.hid rdn
                have HIMO := Lib.hid imo
                clear hiff imn finn rdn imo fino rdo owno hsn hso hbo hb21 HPR2 HI20 HN20
                go_wp2_with (at_range; refine wpList_range_own _ rfl _ 45 rfl 24 25 lawFd Tryd.underlying45 rawE bn nd Dn rfl ownn ?_; intro w22 hrg0 hg0 hs0)
                go_frame
                have hB22 : Below w21.heap.size w21 w22 := (Below.refl _ _).grown hg0 (Nat.le_refl _) (fun j hj => by cases hj)
                have HB22 := Lib.hid hB22
                obtain ⟨r3, hr3⟩ : ∃ r3, r3 = w21.heap.size := ⟨_, rfl⟩
                rw [← hr3] at hrg0 hs0 ⊢
                have HR3 := Lib.hid hr3
                have hlb3 : bn < r3 := by rw [hr3]; exact ownn.lt
                clear hg0 hB22 hr3 l1 l2 ownn
                go_loopw [30] (fun v wq => ∃ (left : Lit → Bool) (cnt : Nat) (fs : List FieldL) (b0 : Bool), v = .bool b0 ∧ wq.ranges Tryd.prog 24 rawE bn r3 nd Dn left cnt ∧ Hid (Met Hn left fs) ∧ Hid (b0 = true ↔ (sn = so ∧ ∀ g ∈ fs, XN g = newX ms g)) ∧ Hid (Below w21.heap.size w21 wq)) (fun _ wq => wq.rangeLeft bn r3)
                case atStart => exact ⟨_, _, [], _, rfl, hrg0, Met.start HRDN.out, (by show _ ↔ _; simp; constructor <;> intro h <;> omega), HB22.out⟩
                case round =>
                  clear hrg0 HB22 hs0
                  obtain ⟨left, cnt, fs, b0, rfl, hrg, HM, HBE, HB⟩ := hrel
                  go_wp2_with (at_next; refine wpList_next_ranges _ rfl _ rfl 24 lawFd rawE (fun f : FieldL => f.v) (fun v : Value => v) (fun key kl hk => by obtain ⟨f, e⟩ := fd_inv hk; exact ⟨f, e⟩) (fun v y hv => ⟨v, rfl⟩) bn r3 nd _ _ _ rfl hrg ?_ ?_)
                  · intro _ hl0
                    have hallin : ∀ g, Hn g = true → g ∈ fs := fun g hg => by
                      obtain ⟨k, hk⟩ := fd_key g (short_fd (HFN.out g hg).2)
                      rcases HM.out.full g k hk hg with h6 | h6
                      · rw [hl0 k] at h6
                        cases h6
                      · exact h6
                    have hb0 : b0 = t := by
                      have h1 := HBE.out.trans (HIFF.out fs (fun g hg => (HM.out.sound g hg).1) hallin)
                      have h2 := h1.trans HTT2.out
                      cases b0 <;> cases t <;> simp at h2 ⊢
                    subst hb0
                    have hlf : Lists XN fs := ⟨HM.out.nodup, fun g => ⟨fun hg => (HFN.out g (HM.out.sound g hg).1).1, fun hX => by
                      cases hh : Hn g with
                      | true => exact hallin g hh
                      | false => exact absurd (HIMN.out.rows.off g hh) hX⟩⟩
                    have hfl : fs.length ≤ 30726 := by
                      have h1 := nodup_len (m := gs ++ fsOf ms id) hlf.nodup fun g hg => by
                        obtain ⟨s, hs⟩ := List.exists_mem_of_ne_nil _ ((hlf.mem g).1 hg)
                        rw [← HXN.out] at hs
                        rcases mem_noteX.1 hs with ⟨_, h⟩ | ⟨_, h⟩
                        · exact List.mem_append.2 (.inl ((HGS.out.mem g).2 fun e => by rw [e] at h; cases h))
                        · exact List.mem_append.2 (.inr h)
                      rw [List.length_append] at h1
                      have h2 := lists_new HST.out HGS.out
                      have h3 : (fsOf ms id).length ≤ 6 := by
                        cases hg : getV ms id with
                        | none => rw [fsOf_none hg]; exact Nat.zero_le _
                        | some v => rw [fsOf_some hg]; exact ((stErr_ok.1 HST'.out).2.ver v (getV_some hg).1).nf
                      omega
                    have htot : total XN ≤ 1000000000 := by
                      rw [hlf.total]
                      have h1 := countOf_bound (X := XN) (n := 5121) HLX.out fs
                      have h2 : fs.length * 5121 ≤ 30726 * 5121 := Nat.mul_le_mul_right _ hfl
                      omega
                    have HSY := Lib.hid (says_is wr (HI21.out.below HB.out) (HN21.out.below HB.out) (by have h1 := HND.out; have h2 := HNT.out; omega) hlf (by omega) htot (fun g => Nat.le_trans (HLX.out g) (by omega)))
                    have HBF := Lib.hid (HB21.out.trans (HB.out.mono HB21.out.size))
                    clear hl0 hallin hlf hfl htot hrg HM HBE
                    go_wp2_with fail
                    (with_reducible refine HSY.out.mono ?_)
                    rintro e w30 ⟨rfl, hb30⟩
                    have HB30 := Lib.hid (HBF.out.trans (hb30.mono HBF.out.size))
                    clear hb30 HSY
                    go_wp2_with fail
                    go_ret
                    exact ⟨by simp, HB30.out⟩
                  · intro g cv kl y ps w3 cnt' hkey hlk hv hat hrg3 hlt3 hg3 hs3 hent
                    have hy : y = .held cv := (Prod.mk.inj (raw_inv cv (y, ps) hv)).1
                    have hat2 : ∀ z, Dn.atKey kl z = .held cv := fun z => by rw [hat z, hy]
                    obtain ⟨r1, r2⟩ := HRDN.out g kl hkey
                    have hcV : cv = Vn g := by
                      have := (hat2 (.held nilS)).symm.trans r1
                      injection this
                    have hH : Hn g = true := by rw [← r2]; exact has_true_of_atKey hat2
                    have hstep := HM.out.step hkey hlk hH
                    have hfd := (HFN.out g hH).2
                    have hb3 : Below w21.heap.size w21 w3 := HB.out.grown hg3 HB.out.size (fun j hj => by cases hj; rw [HR3.out]; exact Nat.le_refl _)
                    obtain ⟨A, cc, hVf⟩ := (HIMN.out.rows.row g).form
                    obtain ⟨A', cc', hVf'⟩ := (HIMO.out.rows.row g).form
                    have hro := HIMN.out.rows.row g
                    have hro' := HIMO.out.rows.row g
                    rw [hVf] at hro
                    rw [hVf'] at hro'
                    obtain ⟨W4, hW4⟩ : ∃ W4, W4 = w3.alloc (.cells #[.string g.key, .string g.val] 24) := ⟨_, rfl⟩
                    have hb4 : Below w21.heap.size w21 W4 := by rw [hW4]; exact hb3.alloc hb3.size _
                    obtain ⟨s1, s2, s3⟩ := OwnS.sl hro
                    obtain ⟨s1', s2', s3'⟩ := OwnS.sl hro'
                    obtain ⟨te, hte⟩ : ∃ te, decide (XN g = newX ms g) = te := ⟨_, rfl⟩
                    have hEQ := eqS_is (b := te) A A' (XN g) (newX ms g) cc cc' W4 (s1.below hb4) (s1'.below hb4) (Nat.le_trans s2 s3) (Nat.le_trans s2' s3') hte
                    have hlk3 := (HIMO.out.below hb4).look (short_fd hfd)
                    have hrg4 : W4.ranges Tryd.prog 24 rawE bn r3 nd Dn (fun z => left z && !z.sameKey kl) cnt' := by rw [hW4]; exact hrg3.alloc _
                    rw [hcV, hVf] at hent ⊢
                    obtain ⟨ln, hln⟩ : ∃ ln, (XN g).length = ln := ⟨_, rfl⟩
                    obtain ⟨lo, hlo⟩ : ∃ lo, (newX ms g).length = lo := ⟨_, rfl⟩
                    rw [hVf', hlo, hW4] at hlk3
                    rw [hln] at hent ⊢
                    rw [hln, hlo] at hEQ
                    have HEQ := Lib.hid hEQ
                    have HRG := Lib.hid hrg
                    have HRG4 := Lib.hid hrg4
                    have HB4 := Lib.hid hb4
                    have HLT := Lib.hid hlt3
                    have HTE := Lib.hid hte
                    have HSTEP := Lib.hid hstep
                    have HW4 := Lib.hid hW4
                    have hrw : r3 < W4.heap.size := by have := hrg4.lt; exact this
                    clear hy hat2 r1 r2 hcV hH hfd hb3 hVf hVf' hro hro' hW4 hb4 s1 s2 s3 s1' s2' s3' hEQ hln hlo hrg hrg3 hrg4 hkey hlk hv hat hg3 hs3 hlt3 hte hstep
                    cases b0 with
                    | false =>
                      clear hlk3
                      go_wp2_with fail
                      go_roundw
                      case rel =>
                        refine ⟨_, cnt', fs ++ [g], false, rfl, ?_, HSTEP.out, ?_, ?_⟩
                        · rw [← HW4.out]; exact HRG4.out
                        · show _ ↔ _
                          exact ⟨fun h => (by cases h), fun h => HBE.out.2 ⟨h.1, fun x hx => h.2 x (by simp [hx])⟩⟩
                        · show Below _ _ _
                          rw [← HW4.out]; exact HB4.out
                      case measure => rw [← HW4.out, HRG4.out.left_eq, HRG.out.left_eq]; exact HLT.out
                    | true =>
                      go_wp2_with fail
                      rw [← HW4.out]
                      (with_reducible refine HEQ.out.mono ?_)
                      rintro e w5' ⟨rfl, hb5⟩
                      have hrg5 := HRG4.out.kept (row := none) (grown_of_below hb5) (by simp) (by simp)
                      have HRG5 := Lib.hid hrg5
                      have HB5 := Lib.hid (HB4.out.trans (hb5.mono HB4.out.size))
                      clear hb5 hrg5 hlk3
                      go_wp2_with fail
                      go_roundw
                      case rel =>
                        refine ⟨_, cnt', fs ++ [g], te, rfl, HRG5.out, HSTEP.out, ?_, HB5.out⟩
                        show _ ↔ _
                        rw [← HTE.out, decide_eq_true_eq]
                        have h1 := HBE.out.1 (by simp)
                        constructor
                        · intro h
                          refine ⟨h1.1, fun x hx => ?_⟩
                          rcases List.mem_append.1 hx with hx | hx
                          · exact h1.2 x hx
                          · rw [List.mem_singleton] at hx
                            rw [hx]
                            exact h
                        · exact fun h => h.2 g (by simp)
                      case measure => rw [HRG5.out.left_eq, HRG.out.left_eq]; exact HLT.out
            · intro g cv kl y ps w3 cnt' hkey hlk hv hat hrg3 hlt3 hg3 hs3 hent
              have hy : y = .held cv := (Prod.mk.inj (raw_inv cv (y, ps) hv)).1
              have hat2 : ∀ z, D1.atKey kl z = .held cv := fun z => by rw [hat z, hy]
              obtain ⟨r1, r2⟩ := HRD.out g kl hkey
              have hcV : cv = V1 g := by
                have := (hat2 (.held nilS)).symm.trans r1
                injection this
              have hH : H1 g = true := by rw [← r2]; exact has_true_of_atKey hat2
              have hfd := (HFIN.out g hH).2
              have hstep := HMT.out.step hkey hlk hH
              have hnf : g ∉ fs := fun hm => by
                have := (List.nodup_append.1 hstep.nodup).2.2 g hm g (by simp)
                exact this rfl
              obtain ⟨A, cc, hVf⟩ := (HIM.out.rows.row g).form
              have hro := HIM.out.rows.row g
              rw [hVf] at hro
              obtain ⟨s1, s2, s3⟩ := OwnS.sl hro
              have hsum : countOf (newX vs) (fs ++ [g]) ≤ N := HSUM.out _ hstep.nodup fun x hx => (hstep.sound x hx).1
              rw [countOf_snoc] at hsum
              rw [hcV, hVf] at hent ⊢
              obtain ⟨q, hq⟩ : ∃ q, countOf (newX vs) fs = q := ⟨_, rfl⟩
              obtain ⟨ls, hls⟩ : ∃ ls, newX vs g = ls := ⟨_, rfl⟩
              obtain ⟨ll, hll⟩ : ∃ ll, ls.length = ll := ⟨_, rfl⟩
              have hnx : countOf (newX vs) (fs ++ [g]) = q + ll := by rw [countOf_snoc, hq, hls, hll]
              have hll5 : ll ≤ 5120 := by rw [← hll, ← hls]; exact HLN.out g
              have hnq0 := HNN.out
              rw [hq, hls, hll] at hsum
              rw [hq] at hnq0
              rw [hls] at s1
              rw [hls, hll] at hent ⊢
              have hpx : partX (newX vs) id (fs ++ [g]) = putX (partX (newX vs) id fs) g (offN ls id) := by rw [partX_snoc, hls]
              obtain ⟨bx, hbx⟩ : ∃ bx, bx = w3.heap.size := ⟨_, rfl⟩
              obtain ⟨W4, hW4⟩ : ∃ W4, W4 = w3.alloc (.cells #[.string g.key, .string g.val] 24) := ⟨_, rfl⟩
              have hb34 : Below w3.heap.size w3 W4 := by rw [hW4]; exact (Below.refl _ _).alloc (Nat.le_refl _) _
              have hs4 : W4.heap.size = bx + 1 := by rw [hW4, hbx]; simp
              have x0 : W4.cell? ⟨bx, 0, none⟩ = some (.string g.key) := by rw [hW4, hbx]; simp [go_sem]
              have x1 : W4.cell? ⟨bx, 1, none⟩ = some (.string g.val) := by rw [hW4, hbx]; simp [go_sem]
              have hrg4 : W4.ranges Tryd.prog 24 rawE b1 rr 40000 D1 (fun z => left z && !z.sameKey kl) cnt' := by rw [hW4]; exact hrg3.alloc _
              have hB3 : Below bn w16 w3 := HK.out.grown hg3 (by have := HK.out.size; have := HRRN.out; have := HZ1L.out rr HZ1R.out; omega) (fun j hj => by cases hj; have := HRRN.out; omega)
              have hbn3 : bn ≤ w3.heap.size := by have h1 := hB3.size; have h2 := HZ1L.out rr HZ1R.out; have h3 := HRRN.out; omega
              have hB4 : Below bn w16 W4 := hB3.trans (hb34.mono hbn3)
              obtain ⟨Z2, hZ2⟩ : ∃ Z2 : Nat → Prop, Z2 = fun z => Z1 z ∨ z = bx := ⟨_, rfl⟩
              have hmz4 : MapZ W4 bn nn (partX (newX vs) id fs) Z2 := ((((HMZ.out.other hg3 HZ1R.out).wide).below hb34)).sub fun z k => by
                rw [hZ2] at k
                rcases k with k | k
                · exact .inl k
                · exact .inr (by omega)
              have hz2l : ∀ z, Z2 z → z < W4.heap.size := fun z k => by
                rw [hZ2] at k
                rcases k with k | k
                · have h1 := HZ1L.out z k; have h2 := hB4.size; omega
                · omega
              have HZ2L := Lib.hid hz2l
              have HZ2S : Hid (∀ z, z < bn → Z2 z) := fun z k => by rw [hZ2]; exact .inl (HZ1S.out z k)
              have HZ2X : Hid (Z2 bx) := by rw [hZ2]; exact .inr rfl
              have HZ2R : Hid (Z2 rr) := by rw [hZ2]; exact .inl HZ1R.out
              have HZ21 : Hid (∀ z, Z1 z → Z2 z) := fun z k => by rw [hZ2]; exact .inl k
              have hmz5 : MapZ W4 bn nn (putX (partX (newX vs) id fs) g (offN (ls.take 0) id)) Z2 := hmz4.congr (by rw [List.take_zero]; exact (putX_nil (partX_out hnf)).symm)
              have HSTEP := Lib.hid hstep
              have HNX := Lib.hid hnx
              have HPX := Lib.hid hpx
              have HRG := Lib.hid hrg
              have HRG4 := Lib.hid hrg4
              have HLT := Lib.hid hlt3
              have HMZ5 := Lib.hid hmz5
              have HB4 := Lib.hid hB4
              have HX0 := Lib.hid x0
              have HX1 := Lib.hid x1
              have HS1 := Lib.hid s1
              have HLL := Lib.hid hll
              have HFD := Lib.hid hfd
              have HSM := Lib.hid hsum
              have HNQ0 := Lib.hid hnq0
              have HS4 := Lib.hid hs4
              have HBX := Lib.hid hbx
              have HW4 := Lib.hid hW4
              have hlw : rr < W4.heap.size := hrg4.lt
              clear hy hat2 r1 r2 hcV hH hfd hstep hnf hVf hro s1 s2 s3 hsum hq hls hll hnx hnq0 hpx hbx hb34 hs4 x0 x1 hrg4 hB3 hbn3 hB4 hZ2 hmz4 hz2l hmz5 hrg hrg3 hkey hlk hv hat hg3 hs3 hlt3 HMZ HK HNN HMT hW4
              go_wp2_with fail
              rw [← HW4.out, ← HBX.out]
              go_loopw [155] (fun i wq => ∃ k nq : Nat, k ≤ ll ∧ i = .int .i64 k ∧ Hid (wq.ranges Tryd.prog 24 rawE b1 rr 40000 D1 (fun z => left z && !z.sameKey kl) cnt') ∧ Hid (MapZ wq bn nq (putX (partX (newX vs) id fs) g (offN (ls.take k) id)) Z2) ∧ Hid (nq ≤ q + k) ∧ Hid (Keeps Z2 W4 wq)) (fun i _ => ll - (intOf i).toNat)
              case atStart => exact ⟨0, nn, Nat.zero_le _, rfl, HRG4.out, HMZ5.out, HNQ0.out, Keeps.refl _ _⟩
              case round =>
                obtain ⟨k, nq, hk, rfl, HRGQ, HMQ, HNQ, HKQ⟩ := hrel
                have hBq : Below bn w16 wr := HB4.out.trans (HKQ.out.to HZ2S.out (by have h1 := HB4.out.size; have h2 := HZ1L.out rr HZ1R.out; have h3 := HRRN.out; omega))
                by_cases hkl : k < ll
                · obtain ⟨s, hs⟩ : ∃ s, ls[k]? = some s := ⟨_, List.getElem?_eq_getElem (by rw [HLL.out]; exact hkl)⟩
                  have h14 : Below w14.heap.size w14 wr := by rw [← HBN.out]; exact HB1416.out.trans hBq
                  obtain ⟨bs, off, rfl, hc⟩ := (HS1.out.below h14) k s hs
                  have htk : ls.take (k + 1) = ls.take k ++ [s] := take_snoc hs
                  have j1 : (0 : Int) ≤ (k : Int) := by omega
                  have j2 : (k : Int) < (ll : Int) := by omega
                  have z0 := HKQ.out.cell HZ2X.out HX0.out
                  have z1 := HKQ.out.cell HZ2X.out HX1.out
                  by_cases hsid : s = id
                  · have e1 : (s.toList == id.toList) = true := sEq_iff.2 hsid
                    have htk2 : offN (ls.take (k + 1)) id = offN (ls.take k) id := by rw [htk, hsid, offN_snoc_eq]
                    have HTK := Lib.hid htk2
                    clear hs h14 htk hsid htk2 hBq
                    go_wp2_with fail
                    go_roundw
                    case rel => exact ⟨k + 1, nq, by omega, by go_num, HRGQ.out, (by show MapZ _ _ _ _ _; rw [HTK.out]; exact HMQ.out), (show nq ≤ q + (k + 1) by have := HNQ.out; omega), HKQ.out⟩
                    case measure => simp [intOf]; omega
                  · have e1 : (s.toList == id.toList) = false := sEq_false.2 hsid
                    have htk2 : offN (ls.take (k + 1)) id = offN (ls.take k) id ++ [s] := by rw [htk, offN_snoc_ne hsid]
                    have HTK := Lib.hid htk2
                    obtain ⟨W5, hW5⟩ : ∃ W5, W5 = wr.alloc (.cells #[.string s] 9) := ⟨_, rfl⟩
                    have hb5 : Below wr.heap.size wr W5 := by rw [hW5]; exact (Below.refl _ _).alloc (Nat.le_refl _) _
                    have hs5 : W5.heap.size = wr.heap.size + 1 := by rw [hW5]; simp
                    have c5 : W5.cell? ⟨wr.heap.size, 0, none⟩ = some (.string s) := by rw [hW5]; simp [go_sem]
                    obtain ⟨Z3, hZ3⟩ : ∃ Z3 : Nat → Prop, Z3 = fun z => Z2 z ∨ z = wr.heap.size := ⟨_, rfl⟩
                    have hmz : MapZ W5 bn nq (putX (partX (newX vs) id fs) g (offN (ls.take k) id)) Z3 := (HMQ.out.wide.below hb5).sub fun z h => by
                      rw [hZ3] at h
                      rcases h with h | h
                      · exact .inl h
                      · exact .inr (by omega)
                    have hz3l : ∀ z, Z3 z → z < W5.heap.size := fun z h => by
                      rw [hZ3] at h
                      rcases h with h | h
                      · have h1 := HZ2L.out z h; have h2 := HKQ.out.size; omega
                      · omega
                    have hz23 : ∀ z, Z2 z → Z3 z := fun z h => by rw [hZ3]; exact .inl h
                    have hz3v : Z3 wr.heap.size := by rw [hZ3]; exact .inr rfl
                    obtain ⟨A2, c2, sp, w1, hrun, hrow, hk1, hbs, hent⟩ := hmz.add hz3l (by have h1 := HNQ.out; have h2 := HSM.out; have h3 := HNT.out; unfold maxLen; omega) HFD.out
                    rw [putX_at] at hrun hrow hent
                    obtain ⟨l0, hl0⟩ : ∃ l0, offN (ls.take k) id = l0 := ⟨_, rfl⟩
                    obtain ⟨q0, hq0⟩ : ∃ q0, l0.length = q0 := ⟨_, rfl⟩
                    rw [hl0] at hrun hrow hent htk2
                    rw [hq0] at hrun hrow hent
                    have hq05 : q0 ≤ 5120 := by
                      rw [← hq0, ← hl0]
                      refine Nat.le_trans (List.length_filter_le _ _) ?_
                      rw [List.length_take]
                      omega
                    have hcv := hk1.out.cell hz3v c5
                    have hnews : ∀ y u, (cellsS [s])[y]? = some u → w1.cell? ((⟨wr.heap.size, 0, none⟩ : Addr).add y) = some u := by
                      intro y u hy
                      rw [addr_at]
                      match y, hy with
                      | 0, hy => cases hy; exact hcv
                    have HNEWS := Lib.hid hnews
                    have HROW := hrow
                    have HBS := hbs
                    have HENT := hent
                    have HQ0 := Lib.hid hq0
                    have HTK2 := Lib.hid htk2
                    have HB5 := Lib.hid hb5
                    have HZ23 := Lib.hid hz23
                    rw [hW5] at hrun
                    clear hs h14 htk hsid htk2 hBq hb5 hs5 c5 hmz hz3l hz3v hz23 hrow hk1 hbs hent hl0 hq0 hcv hnews hZ3 hW5 HTK
                    go_wp2_with (at_builtin; refine wpList_append_own_at _ rfl _ _ 25 rfl (bn + 1) 9 i0 _ 1 16 Tryd.underlying25 hi hz0 hz1 hz2 rfl (by decide) _ _ _ rfl HROW.out ⟨wr.heap.size, 0, none⟩ 1 1 (cellsS [s]) rfl rfl HNEWS.out (cellsS_one [s]) ?c3 ?c4 HBS.out ?_)
                    case c3 => unfold maxLen; omega
                    case c4 => omega
                    all_goals
                      intro v' w5' hown5 hgrow5 hnv5 hat5
                      have ho5 : OwnS (bn + 1) w5' v' (l0 ++ [s]) := by
                        unfold OwnS
                        rw [cellsS_app, List.length_append, HQ0.out]
                        exact hown5
                      obtain ⟨w6, hst6, HM6, HK6⟩ := HENT.out w5' v' (l0 ++ [s]) (by simp) ho5 hgrow5 hat5
                      have hk6 : Keeps Z2 wr w6 := (Keeps.of HB5.out).trans (HK6.out.sub HZ23.out)
                      have hrg6 := ranges_congr HRGQ.out (hk6.block b1 (HZ2S.out b1 HBL2.out) HRGQ.out.owns.lt) (hk6.block rr HZ2R.out HRGQ.out.lt)
                      have HRG6 := Lib.hid hrg6
                      have HKQ6 := Lib.hid (HKQ.out.trans hk6)
                      have HMZ6 : Hid (MapZ w6 bn (nq + 1) (putX (partX (newX vs) id fs) g (offN (ls.take (k + 1)) id)) Z2) := by
                        have h1 := HM6.out.sub HZ23.out
                        rw [putX_put] at h1
                        show MapZ _ _ _ _ _
                        rw [HTK2.out]
                        exact h1
                      clear hown5 hgrow5 hnv5 hat5 ho5 hrun z0 z1 hk6 hrg6
                      go_wp2_with fail
                      go_roundw
                      case rel => exact ⟨k + 1, nq + 1, by omega, by go_num, HRG6.out, HMZ6.out, (show nq + 1 ≤ q + (k + 1) by have := HNQ.out; omega), HKQ6.out⟩
                      case measure => simp [intOf]; omega
                · obtain rfl : k = ll := by omega
                  have hall : ls.take k = ls := List.take_of_length_le (by rw [HLL.out]; exact Nat.le_refl _)
                  have hme : MapZ wr bn nq (partX (newX vs) id (fs ++ [g])) Z1 := by
                    rw [HPX.out]
                    have h1 := HMQ.out
                    rw [hall] at h1
                    exact h1.sub HZ21.out
                  have HME := Lib.hid hme
                  have HBQ := Lib.hid hBq
                  clear hall hme hBq
                  go_wp2_with fail
                  go_roundw
                  case rel => exact ⟨_, cnt', nq, fs ++ [g], HRGQ.out, HSTEP.out, HME.out, (by show nq ≤ _; rw [HNX.out]; exact HNQ.out), HBQ.out⟩
                  case measure => rw [HRGQ.out.left_eq, HRG.out.left_eq]; exact HLT.out
        · have HNT := Lib.hid (note_no (pp := some ⟨p, 0, none⟩) c' id wc (HV'.out.below HBw.out) HNM'.out HST'.out h1)
          have h2 : (st' == 0) = false := by simpa using h1
          have h3 : (st' != 0) = true := by simpa using h1
          go_wp2_with fail
          refine HNT.out.mono ?_
          rintro e w13 ⟨rfl, hb13⟩
          have HB13 := Lib.hid (HBw.out.trans (hb13.mono HBw.out.size))
          have HI13 := Lib.hid (HIc.out.below hb13)
          have HW13 := Lib.hid (HWc.out.below hb13)
          clear hb13 HNT
          go_wp2_with fail
          refine (HSTO'.out w13 HB13.out).mono ?_
          rintro e w14 ⟨rfl, hb14⟩
          have HB14 := Lib.hid (HB13.out.trans (hb14.mono HB13.out.size))
          have HI14 := Lib.hid (HI13.out.below hb14)
          have HW14 := Lib.hid (HW13.out.below hb14)
          have HSM := Lib.hid (same_no (pp := some ⟨p, 0, none⟩) c' w14 (HV'.out.below HB14.out) HNM'.out HST'.out h1)
          clear hb14
          go_wp2_with fail
          refine HSM.out.mono ?_
          rintro e w15 ⟨rfl, hb15⟩
          have HB15 := Lib.hid (HB14.out.trans (hb15.mono HB14.out.size))
          have HSY := Lib.hid (says_is w15 (HI14.out.below hb15) (HW14.out.below hb15) (by omega) HGS.out HGL.out HTT.out (fun g => Nat.le_trans (HLN.out g) (by omega)))
          clear hb15 HSM
          go_wp2_with fail
          refine HSY.out.mono ?_
          rintro e w16 ⟨rfl, hb16⟩
          have HB16 := Lib.hid (HB15.out.trans (hb16.mono HB15.out.size))
          clear hb16 HSY
          go_wp2_with fail
          go_ret
          exact ⟨by simp, HB16.out⟩
  · have HNO := Lib.hid (new_no c w2 (HV.out.below HB2.out) HNM.out HST.out h0)
    have h1 : (st == 0) = false := by simpa using h0
    have h2 : (st != 0) = true := by simpa using h0
    go_wp2_with fail
    refine HNO.out.mono ?_
    rintro e w3 ⟨rfl, hb3⟩
    have HB3 := Lib.hid (HB2.out.trans (hb3.mono HB2.out.size))
    clear hb3 HNO
    go_wp2_with fail
    refine (HSTO.out w3 HB3.out).mono ?_
    rintro e w4 ⟨rfl, hb4⟩
    have HB4 := Lib.hid (HB3.out.trans (hb4.mono HB3.out.size))
    clear hb4
    go_wp2_with fail
    go_ret
    exact ⟨by simp, HB4.out⟩
end Go.Proofs.YtodlabohijabnaaDoor
