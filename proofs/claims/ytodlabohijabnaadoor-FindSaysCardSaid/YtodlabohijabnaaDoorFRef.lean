/- Contracts of the document's answer to By and With. -/
import Derived.Test.YtodlabohijabnaaDoorFAll
import Derived.Test.YtodlabohijabnaaDoorSRefIds
set_option linter.unusedVariables false
set_option linter.unusedSimpArgs false
set_option maxRecDepth 100000
namespace Go.Proofs.YtodlabohijabnaaDoor
open Go.RowKit Go.Sort Go.Maps

/-- the first k names, those of which it is so -/
noncomputable def firstN (vs : List VerL) (p : ByteArray → Bool) (k : Nat) : List ByteArray := ((idsV vs).take k).filter p
theorem map_back {l : List ByteArray} {g : ByteArray → RecL} (h : ∀ s ∈ l, (g s).id = s) (p : RecL → Bool) : ((l.map g).filter p).map (·.id) = l.filter fun s => p (g s) := by
  induction l with
  | nil => rfl
  | cons s r ih =>
    have hr := ih fun t ht => h t (List.mem_cons_of_mem _ ht)
    rw [List.map_cons, List.filter_cons, List.filter_cons]
    cases hp : p (g s) with
    | true => simp only [if_true, List.map_cons]; rw [hr, h s List.mem_cons_self]
    | false => simpa using hr
theorem picked_first (vs : List VerL) (p : RecL → Bool) (q : ByteArray → Bool) (h : ∀ s, s ∈ idsV vs → q s = p (recV vs s)) : picked vs p = firstN vs q (idsV vs).length := by
  unfold picked recs firstN
  rw [map_back (fun s hs => recV_id hs), List.take_length]
  exact List.filter_congr fun s hs => (h s hs).symm

/-- a list of names, from whomever -/
def StrTo (L : List ByteArray) (w : World) (e : Ending) (w' : World) : Prop := ∃ A k c, e = .returned (.slice A k c) ∧ L.length = k ∧ OwnS w.heap.size w' (.slice A k c) L ∧ Below w.heap.size w w'

/-- where the record of a name stands -/
theorem refGet_in {n : Nat} {a : Option Addr} {vs : List VerL} (c : Nat) (id : ByteArray) (w : World) (h : VsAt w a n vs) (hst : stErr vs = 0) (hid : id ∈ idsV vs) :
    ∃ (j : Nat) (v : VerL), vs[j]? = some v ∧ getV vs id = some v ∧ Calls Tryd.prog 26 #[.slice a n c, .string id] w fun e w' => e = .returned (.int .i64 (j : Int)) ∧ Below w.heap.size w w' := by
  have hn := h.len
  obtain ⟨hl, hok⟩ := stErr_ok.1 hst
  obtain ⟨v0, hv0⟩ := mem_idsV.1 hid
  rcases best_get hok id with ⟨_, hg⟩ | ⟨j, v, h1, h2, h3⟩
  · rw [hg] at hv0
    cases hv0
  · rw [← hn] at h1
    exact ⟨j, v, h2, h3, refGet_is c id w h (by omega) h1⟩
theorem refGet_out {n : Nat} {a : Option Addr} {vs : List VerL} (c : Nat) (id : ByteArray) (w : World) (h : VsAt w a n vs) (hst : stErr vs = 0) (hid : id ∉ idsV vs) :
    Calls Tryd.prog 26 #[.slice a n c, .string id] w fun e w' => e = .returned (.int .i64 (-1)) ∧ Below w.heap.size w w' := by
  have hn := h.len
  obtain ⟨hl, hok⟩ := stErr_ok.1 hst
  rcases best_get hok id with ⟨h1, hg⟩ | ⟨j, v, h1, h2, h3⟩
  · rw [← hn] at h1
    exact refGet_is c id w h (by omega) h1
  · exact absurd (mem_idsV.2 ⟨v, h3⟩) hid

theorem key_once {fs : List FieldL} (h : fOk fs fs.length) {k : Nat} {f : FieldL} (hk : fs[k]? = some f) : f ∉ fs.take k := fun hm => by
  obtain ⟨j, hj⟩ := List.getElem?_of_mem hm
  rw [List.getElem?_take] at hj
  split at hj
  · rename_i hlt
    have ha := fOk_asc h
    have hjl := (List.getElem?_eq_some_iff.1 hj).1
    have hkl := (List.getElem?_eq_some_iff.1 hk).1
    have h5 := List.pairwise_iff_getElem.1 ha j k (by simpa using hjl) (by simpa using hkl) hlt
    rw [List.getElem_map, List.getElem_map] at h5
    rw [List.getElem?_eq_getElem hjl] at hj
    rw [List.getElem?_eq_getElem hkl] at hk
    rw [Option.some.inj hj, Option.some.inj hk, sLt_irrefl] at h5
    cases h5
  · cases hj

set_option maxHeartbeats 4000000 in
theorem refBy_is {n : Nat} {L : List ByteArray} {a : Option Addr} {vs : List VerL} (c : Nat) (f : FieldL) (w : World) (h : VsAt w a n vs) (hst : stErr vs = 0) (hL : byL vs f = L) :
    Calls Tryd.prog 17 #[.slice a n c, f.v] w (StrTo L w) := by
  have HV := Lib.hid h
  have HST := Lib.hid hst
  have HLL := Lib.hid (show firstN vs (fun s => hasF f (recV vs s)) (idsV vs).length = L by rw [← hL]; exact (picked_first vs (hasF f) _ fun s _ => rfl).symm)
  have HOK := Lib.hid (stErr_ok.1 hst).2
  obtain ⟨W0, hW0⟩ : ∃ W0, W0 = w.alloc (.cells #[.string f.key, .string f.val] 24) := ⟨_, rfl⟩
  have hA0 : Below w.heap.size w W0 := by rw [hW0]; exact (Below.refl _ _).alloc (Nat.le_refl _) _
  have k0 : W0.cell? ⟨w.heap.size, 0, none⟩ = some (.string f.key) := by rw [hW0]; simp [go_sem]
  have k1 : W0.cell? ⟨w.heap.size, 1, none⟩ = some (.string f.val) := by rw [hW0]; simp [go_sem]
  have HI : Hid (Calls Tryd.prog 54 #[.slice a n c] W0 (RefNamesTo vs W0)) := by
    show Calls _ _ _ _ _
    obtain ⟨l, hlv, hln, hsw⟩ := h.below hA0
    have h1 := refIds_is a l c W0 hsw (by rw [hlv]; exact hst)
    rw [hlv, hln] at h1
    exact h1
  have HW0 := Lib.hid hW0
  have HA0 := Lib.hid hA0
  have HK0 := Lib.hid k0
  have HK1 := Lib.hid k1
  obtain ⟨i0, hi, hz0, hz1, hz2⟩ := info_parts Tryd.infoStr
  clear h hst hL hW0 hA0 k0 k1
  go_enter Tryd.func17, Tryd.ntmps17
  go_wp2_with fail
  rw [← HW0.out]
  refine HI.out.mono ?_
  rintro e w1 ⟨A1, m1, c1, ids, rfl, his, hml, hsl, hmc, hcm, hb1⟩
  obtain rfl := his.eqV
  have HML := Lib.hid hml
  have HSL := Lib.hid hsl
  have HB1 := Lib.hid (HA0.out.trans (hb1.mono HA0.out.size))
  have q0 := (hb1.cell (p := ⟨w.heap.size, 0, none⟩) (cell_lt HK0.out)).trans HK0.out
  have q1 := (hb1.cell (p := ⟨w.heap.size, 1, none⟩) (cell_lt HK0.out)).trans HK1.out
  have HQ0 := Lib.hid q0
  have HQ1 := Lib.hid q1
  have hm5 : m1 ≤ 5120 := by rw [← hml]; exact Nat.le_trans (idsV_len vs) (stErr_ok.1 HST.out).1
  clear his hml hsl hmc hcm hb1 HI HK0 HK1 q0 q1
  go_wp2_with fail
  go_loopw [5, 13] (fun v i wr => ∃ j : Nat, j ≤ m1 ∧ i = .int .i64 j ∧ OwnS w1.heap.size wr v (firstN vs (fun s => hasF f (recV vs s)) j) ∧ Hid (Below w1.heap.size w1 wr)) (fun _ i _ => m1 - (intOf i).toNat)
  case atStart => exact ⟨0, Nat.zero_le _, rfl, World.ownsRow_nil _ _ _ _, Below.refl _ _⟩
  case round =>
    obtain ⟨j, hj, rfl, hown, HB⟩ := hrel
    obtain ⟨q, hq⟩ : ∃ q, firstN vs (fun s => hasF f (recV vs s)) j = q := ⟨_, rfl⟩
    rw [hq] at hown
    have HQ := Lib.hid hq
    obtain ⟨Aq, cq, rfl⟩ := hown.form
    have HOW := Lib.hid hown
    have hqj : q.length ≤ j := by
      rw [← hq]
      unfold firstN
      exact Nat.le_trans (List.length_filter_le _ _) (by rw [List.length_take]; omega)
    clear hown hq
    by_cases hlt : j < m1
    · obtain ⟨id, hid⟩ : ∃ id, (idsV vs)[j]? = some id := ⟨_, List.getElem?_eq_getElem (by rw [HML.out]; exact hlt)⟩
      obtain ⟨b1, o1, rfl, hc1⟩ := (HSL.out.below HB.out) j id hid
      have hmem := List.mem_of_getElem? hid
      have HBJ := Lib.hid (HB1.out.trans (HB.out.mono HB1.out.size))
      obtain ⟨t, v, hvt, hgv, hget⟩ := refGet_in c id wr (HV.out.below HBJ.out) HST.out hmem
      have HGET := Lib.hid hget
      have HID := Lib.hid hid
      have HVT := Lib.hid hvt
      have HRV := Lib.hid (recV_some hgv)
      have hfo : fOk v.r.fs v.r.fs.length := by
        have := (recV_ok HOK.out hmem).fs
        rw [recV_some hgv] at this
        exact this
      obtain ⟨fs, hfs⟩ : ∃ fs, v.r.fs = fs := ⟨_, rfl⟩
      rw [hfs] at hfo
      have HFS := Lib.hid hfs
      have HFO := Lib.hid hfo
      have i1 : (0 : Int) ≤ (j : Int) := by omega
      have i2 : (j : Int) < (m1 : Int) := by omega
      obtain ⟨l, hlv, hln, hsw⟩ := HV.out
      obtain ⟨x, hx, hxv⟩ : ∃ x, l[t]? = some x ∧ x.v = v := by
        rw [← hlv, List.getElem?_map] at hvt
        obtain ⟨x, hx, e⟩ := Option.map_eq_some_iff.1 hvt
        exact ⟨x, hx, e⟩
      have htn : t < n := by rw [← hln]; exact (List.getElem?_eq_some_iff.1 hx).1
      obtain ⟨hxi, bx, ox, hax, d0, d1, d2, d3, d4⟩ := hsw t x hx
      obtain ⟨fa, hfa⟩ : ∃ fa, x.p.fa = fa := ⟨_, rfl⟩
      obtain ⟨fc, hfc⟩ : ∃ fc, x.p.fc = fc := ⟨_, rfl⟩
      have hfx : SlF w fa fs := by
        have := hxi.hf
        rw [hxv, hfs, hfa] at this
        exact this
      have hfl : fs.length ≤ 6 := by
        have := (recV_ok HOK.out hmem).nf
        rw [recV_some hgv, hfs] at this
        exact this
      rw [hxv, hfs, hfa, hfc] at d2
      have HFX := Lib.hid hfx
      have HD2 := Lib.hid d2
      have t1 : (0 : Int) ≤ (t : Int) := by omega
      have t2 : (t : Int) < (n : Int) := by omega
      clear hid hget hvt hgv hfo hfs hlv hln hsw hx hxv hxi d0 d1 d2 d3 d4 hfa hfc hfx hmem
      subst hax
      go_wp2_with fail
      refine HGET.out.mono ?_
      rintro e w2 ⟨rfl, hb2⟩
      have HB2 := Lib.hid (HBJ.out.trans (hb2.mono HBJ.out.size))
      have HB12 := Lib.hid (HB.out.trans (hb2.mono HB.out.size))
      have d2 := (HB2.out.cell (p := ⟨bx, ox + t * 5 + 2, none⟩) (cell_lt HD2.out)).trans HD2.out
      have HOW2 := Lib.hid (HOW.out.below hb2)
      clear hb2 HGET
      go_wp2_with fail
      obtain ⟨F, hF⟩ : ∃ F, fs.length = F := ⟨_, rfl⟩
      have HF := Lib.hid hF
      rw [hF] at hfl ⊢
      clear hF d2
      go_loopw [5, 26] (fun v i wq => ∃ k : Nat, k ≤ F ∧ i = .int .i64 k ∧ OwnS w1.heap.size wq v (q ++ if f ∈ fs.take k then [id] else []) ∧ Hid (Below w1.heap.size w1 wq)) (fun _ i _ => F - (intOf i).toNat)
      case atStart => exact ⟨0, Nat.zero_le _, rfl, (by simpa using HOW2.out), HB12.out⟩
      case round =>
        obtain ⟨k, hk, rfl, hown, HBK⟩ := hrel
        obtain ⟨r, hr⟩ : ∃ r, (q ++ if f ∈ fs.take k then [id] else []) = r := ⟨_, rfl⟩
        rw [hr] at hown
        have HR := Lib.hid hr
        have hrl : r.length ≤ j + 1 := by
          rw [← hr, List.length_append]
          split <;> simp <;> omega
        obtain ⟨Ar, cr, rfl⟩ := hown.form
        have HOR := Lib.hid hown
        have HBW := Lib.hid (HB1.out.trans (HBK.out.mono HB1.out.size))
        clear hown hr
        by_cases hkF : k < F
        · obtain ⟨g, hg⟩ : ∃ g, fs[k]? = some g := ⟨_, List.getElem?_eq_getElem (by rw [HF.out]; exact hkF)⟩
          obtain ⟨bg, og, rfl, g1, g2⟩ := (HFX.out.below HBW.out) k g hg
          have HG := Lib.hid hg
          have j1 : (0 : Int) ≤ (k : Int) := by omega
          have j2 : (k : Int) < (F : Int) := by omega
          have hal : Below wr.heap.size wr (wr.alloc (.cells #[.string g.key, .string g.val] 24)) := (Below.refl _ _).alloc (Nat.le_refl _) _
          have z0 := (hal.cell (p := ⟨w.heap.size, 0, none⟩) (Nat.lt_of_lt_of_le (cell_lt HQ0.out) HBK.out.size)).trans (((HBK.out.cell (p := ⟨w.heap.size, 0, none⟩) (cell_lt HQ0.out))).trans HQ0.out)
          have z1 := (hal.cell (p := ⟨w.heap.size, 1, none⟩) (Nat.lt_of_lt_of_le (cell_lt HQ0.out) HBK.out.size)).trans (((HBK.out.cell (p := ⟨w.heap.size, 1, none⟩) (cell_lt HQ0.out))).trans HQ1.out)
          have HBA := Lib.hid (HBK.out.trans (hal.mono HBK.out.size))
          have HORA := Lib.hid (HOR.out.below hal)
          clear hg hal
          by_cases he : f = g
          · subst he
            have hno := key_once HFO.out HG.out
            have hrq : r = q := by rw [← HR.out, if_neg hno, List.append_nil]
            have hyes : f ∈ fs.take (k + 1) := by rw [List.take_add_one, HG.out]; simp
            have HRQ := Lib.hid hrq
            have HYES := Lib.hid hyes
            obtain ⟨l1, l2⟩ := eq_field f
            have HR1 := Lib.hid (show ((wr.alloc (.cells #[.string f.key, .string f.val] 24)).alloc (.cells #[.string id] 9)).ownsRow w1.heap.size 9 1 (.slice Ar r.length cr) r.length (cellsS r) from HORA.out.below ((Below.refl _ _).alloc (Nat.le_refl _) _))
            have hne := cell_one_at (wr.alloc (.cells #[.string f.key, .string f.val] 24)) id 9
            rw [World.size_alloc] at hne
            have HNE := Lib.hid hne
            have hbb := HBA.out.alloc HBA.out.size (.cells #[.string id] 9)
            have HBB := Lib.hid hbb
            have hsz2 := hbb.size
            clear hno hrq hyes hne hbb
            go_wp2_with (at_builtin; refine wpList_append_own _ rfl _ _ 25 rfl w1.heap.size 9 i0 _ 1 16 Tryd.underlying25 hi hz0 hz1 hz2 rfl (by decide) (.slice Ar r.length cr) r.length (cellsS r) rfl HR1.out ⟨wr.heap.size + 1, 0, none⟩ 1 1 [.string id] rfl rfl HNE.out (by simp [Value.oneCell']) (by unfold maxLen; omega) (by omega) hsz2 ?_; intro v' w3 hown' hgrow hnv)
            have hr3 : OwnS w1.heap.size w3 v' (r ++ [id]) := by
              unfold OwnS cellsS
              rw [List.map_append, List.length_append]
              exact hown'
            have hB3 : Below w1.heap.size w1 w3 := HBB.out.grown hgrow HBB.out.size (fun j hj => ((World.ownsRow.lt HR1.out) j (show (Value.slice Ar r.length cr).ownBlock = some j from hj)).1)
            have HR3 := Lib.hid hr3
            clear hown' hgrow hnv HBB HNE HR1 hr3
            go_wp2_with fail
            go_roundw
            case rel =>
              refine ⟨k + 1, by omega, by go_num, ?_, hB3⟩
              rw [if_pos HYES.out, ← HRQ.out]
              exact HR3.out
            case measure => simp [intOf]; omega
          · have HE := Lib.hid he
            have HSAME : Hid ((f ∈ fs.take (k + 1)) = (f ∈ fs.take k)) := by
              show _ = _
              rw [List.take_add_one, HG.out]
              simp [HE.out]
            rcases ne_field he with l1 | ⟨l1, l2⟩
            all_goals
              clear he
              go_wp2_with fail
              go_roundw
              case rel =>
                refine ⟨k + 1, by omega, by go_num, ?_, HBA.out⟩
                simp only [HSAME.out]
                rw [HR.out]
                exact HORA.out
              case measure => simp [intOf]; omega
        · obtain rfl : k = F := by omega
          have hall : fs.take k = fs := List.take_of_length_le (by rw [HF.out]; exact Nat.le_refl _)
          have HALL := Lib.hid hall
          clear hall hkF
          go_wp2_with fail
          go_roundw
          case rel =>
            refine ⟨j + 1, by omega, by go_num, ?_, HBK.out⟩
            have hr := HR.out
            rw [HALL.out] at hr
            have hp : hasF f (recV vs id) = decide (f ∈ fs) := by unfold hasF; rw [HRV.out, HFS.out]
            have e : firstN vs (fun s => hasF f (recV vs s)) (j + 1) = r := by
              rw [← hr, ← HQ.out]
              unfold firstN
              by_cases hin : f ∈ fs
              · rw [take_hit HID.out (by show hasF f (recV vs id) = true; rw [hp]; simp [hin]), if_pos hin]
              · rw [take_miss HID.out (by show hasF f (recV vs id) = false; rw [hp]; simp [hin]), if_neg hin, List.append_nil]
            rw [e]
            exact HOR.out
          case measure => simp [intOf]; omega
    · obtain rfl : j = m1 := by omega
      have hqL : q = L := by rw [← HQ.out, ← HLL.out, HML.out]
      have HQL := Lib.hid hqL
      have HBE := Lib.hid (HB1.out.trans (HB.out.mono HB1.out.size))
      have HSZ := Lib.hid HB1.out.size
      clear hqL hlt
      go_wp2_with fail
      go_ret
      rw [← HQL.out]
      exact ⟨Aq, q.length, cq, rfl, rfl, own_low HOW.out HSZ.out, HBE.out⟩

/-- does the record of t refer to s? -/
def refersTo (vs : List VerL) (s t : ByteArray) : Bool := match getV vs t with | some v => memS v.r.rs s | none => false
/-- is s one of these, or does one of the first k refer to it? -/
def wantK (vs : List VerL) (ids : List ByteArray) (s : ByteArray) (k : Nat) : Bool := memS ids s || (ids.take k).any (refersTo vs s)
theorem wantK_zero (vs : List VerL) (ids : List ByteArray) (s : ByteArray) : wantK vs ids s 0 = memS ids s := by unfold wantK; simp
theorem wantK_succ {vs : List VerL} {ids : List ByteArray} {s t : ByteArray} {k : Nat} (h : ids[k]? = some t) : wantK vs ids s (k + 1) = (wantK vs ids s k || refersTo vs s t) := by
  unfold wantK
  rw [List.take_add_one, h, List.any_append, Bool.or_assoc]
  simp
theorem with_first (vs : List VerL) (ids : List ByteArray) : firstN vs (fun s => wantK vs ids s ids.length) (idsV vs).length = withL vs ids := by
  refine asc_ext ?_ (picked_asc _ _) fun s => ?_
  · unfold firstN
    exact (idsV_is vs).asc.sublist (List.filter_sublist.trans (List.take_sublist _ _))
  · show _ ↔ s ∈ withL vs ids
    unfold firstN
    rw [List.take_length, List.mem_filter, mem_withL, mem_idsV]
    refine and_congr_right fun _ => ?_
    unfold wantK
    rw [List.take_length, Bool.or_eq_true, memS_iff, List.any_eq_true]
    refine or_congr Iff.rfl ⟨?_, ?_⟩
    · rintro ⟨t, ht, h⟩
      unfold refersTo at h
      cases hg : getV vs t with
      | none => rw [hg] at h; cases h
      | some v =>
        rw [hg] at h
        exact ⟨t, v, ht, hg, memS_iff.1 h⟩
    · rintro ⟨t, v, ht, hg, h⟩
      refine ⟨t, ht, ?_⟩
      unfold refersTo
      rw [hg]
      exact memS_iff.2 h

set_option maxHeartbeats 4000000 in
theorem refWith_is {n m : Nat} {L : List ByteArray} {a a2 : Option Addr} {vs : List VerL} (c c2 : Nat) (ids : List ByteArray) (w : World) (h : VsAt w a n vs) (hst : stErr vs = 0) (hs : SlS w a2 ids) (hl : ids.length = m) (hm : m ≤ 100000) (hL : withL vs ids = L) :
    Calls Tryd.prog 18 #[.slice a n c, .slice a2 m c2] w (StrTo L w) := by
  have HV := Lib.hid h
  have HST := Lib.hid hst
  have HS := Lib.hid hs
  have HL := Lib.hid hl
  have HLL := Lib.hid (show firstN vs (fun s => wantK vs ids s m) (idsV vs).length = L by rw [← hL, ← with_first, hl])
  have HOK := Lib.hid (stErr_ok.1 hst).2
  have HI : Hid (Calls Tryd.prog 54 #[.slice a n c] w (RefNamesTo vs w)) := by
    show Calls _ _ _ _ _
    obtain ⟨l, hlv, hln, hsw⟩ := h
    have h1 := refIds_is a l c w hsw (by rw [hlv]; exact hst)
    rw [hlv, hln] at h1
    exact h1
  obtain ⟨i0, hi, hz0, hz1, hz2⟩ := info_parts Tryd.infoStr
  clear h hst hL hs hl
  go_enter Tryd.func18, Tryd.ntmps18
  go_wp2_with fail
  refine HI.out.mono ?_
  rintro e w1 ⟨A1, m1, c1, nm, rfl, his, hml, hsl, hmc, hcm, hb1⟩
  obtain rfl := his.eqV
  have HML := Lib.hid hml
  have HSL := Lib.hid hsl
  have HB1 := Lib.hid hb1
  have hm5 : m1 ≤ 5120 := by rw [← hml]; exact Nat.le_trans (idsV_len vs) (stErr_ok.1 HST.out).1
  clear his hml hsl hmc hcm hb1 HI
  go_wp2_with fail
  go_loopw [5, 15] (fun v i wr => ∃ j : Nat, j ≤ m1 ∧ i = .int .i64 j ∧ OwnS w1.heap.size wr v (firstN vs (fun s => wantK vs ids s m) j) ∧ Hid (Below w1.heap.size w1 wr)) (fun _ i _ => m1 - (intOf i).toNat)
  case atStart => exact ⟨0, Nat.zero_le _, rfl, World.ownsRow_nil _ _ _ _, Below.refl _ _⟩
  case round =>
    obtain ⟨j, hj, rfl, hown, HB⟩ := hrel
    obtain ⟨q, hq⟩ : ∃ q, firstN vs (fun s => wantK vs ids s m) j = q := ⟨_, rfl⟩
    rw [hq] at hown
    have HQ := Lib.hid hq
    obtain ⟨Aq, cq, rfl⟩ := hown.form
    have HOW := Lib.hid hown
    have hqj : q.length ≤ j := by
      rw [← hq]
      unfold firstN
      exact Nat.le_trans (List.length_filter_le _ _) (by rw [List.length_take]; omega)
    clear hown hq
    by_cases hlt : j < m1
    · obtain ⟨id, hid⟩ : ∃ id, (idsV vs)[j]? = some id := ⟨_, List.getElem?_eq_getElem (by rw [HML.out]; exact hlt)⟩
      obtain ⟨b1, o1, rfl, hc1⟩ := (HSL.out.below HB.out) j id hid
      have HBJ := Lib.hid (HB1.out.trans (HB.out.mono HB1.out.size))
      have HID := Lib.hid hid
      have i1 : (0 : Int) ≤ (j : Int) := by omega
      have i2 : (j : Int) < (m1 : Int) := by omega
      have HCT := Lib.hid (contains_is (b := memS ids id) a2 ids c2 id wr (HS.out.below HBJ.out) HL.out (by unfold maxLen; omega) memS_iff.symm)
      clear hid
      go_wp2_with fail
      (with_reducible refine HCT.out.mono ?_)
      rintro e w2 ⟨rfl, hb2⟩
      have HB12 := Lib.hid (HB.out.trans (hb2.mono HB.out.size))
      have HOW2 := Lib.hid (HOW.out.below hb2)
      clear hb2 HCT
      go_wp2_with fail
      go_loopw [8, 24] (fun v i wq => ∃ k : Nat, k ≤ m ∧ i = .int .i64 k ∧ v = .bool (wantK vs ids id k) ∧ Hid (Below w2.heap.size w2 wq)) (fun _ i _ => m - (intOf i).toNat)
      case atStart => exact ⟨0, Nat.zero_le _, rfl, by rw [wantK_zero], Below.refl _ _⟩
      case round =>
        obtain ⟨k, hk, rfl, rfl, HBK⟩ := hrel
        obtain ⟨t, ht⟩ : ∃ t, wantK vs ids id k = t := ⟨_, rfl⟩
        rw [ht]
        have HT := Lib.hid ht
        have HB1K := Lib.hid (HB12.out.trans (HBK.out.mono HB12.out.size))
        have HBW := Lib.hid (HB1.out.trans (HB1K.out.mono HB1.out.size))
        clear ht
        by_cases hkF : k < m
        · obtain ⟨s, hs⟩ : ∃ s, ids[k]? = some s := ⟨_, List.getElem?_eq_getElem (by rw [HL.out]; exact hkF)⟩
          obtain ⟨bs, os, rfl, hcs⟩ := (HS.out.below HBW.out) k s hs
          have HSK := Lib.hid hs
          have j1 : (0 : Int) ≤ (k : Int) := by omega
          have j2 : (k : Int) < (m : Int) := by omega
          clear hs
          by_cases hin : s ∈ idsV vs
          · obtain ⟨p, v, hvt, hgv, hget⟩ := refGet_in c s wr (HV.out.below HBW.out) HST.out hin
            have HGET := Lib.hid hget
            obtain ⟨l, hlv, hln, hsw⟩ := HV.out
            obtain ⟨x, hx, hxv⟩ : ∃ x, l[p]? = some x ∧ x.v = v := by
              rw [← hlv, List.getElem?_map] at hvt
              obtain ⟨x, hx, e⟩ := Option.map_eq_some_iff.1 hvt
              exact ⟨x, hx, e⟩
            have htn : p < n := by rw [← hln]; exact (List.getElem?_eq_some_iff.1 hx).1
            obtain ⟨hxi, bx, ox, hax, d0, d1, d2, d3, d4⟩ := hsw p x hx
            obtain ⟨ra, hra⟩ : ∃ ra, x.p.ra = ra := ⟨_, rfl⟩
            obtain ⟨rc, hrc⟩ : ∃ rc, x.p.rc = rc := ⟨_, rfl⟩
            obtain ⟨rs, hrs⟩ : ∃ rs, v.r.rs = rs := ⟨_, rfl⟩
            have hrx : SlS w ra rs := by
              have := hxi.hr
              rw [hxv, hrs, hra] at this
              exact this
            have hrl : rs.length ≤ 4 := by
              have := (recV_ok HOK.out hin).nr
              rw [recV_some hgv, hrs] at this
              exact this
            obtain ⟨R, hR⟩ : ∃ R, rs.length = R := ⟨_, rfl⟩
            rw [hxv, hrs, hra, hrc, hR] at d3
            have hrf : refersTo vs id s = memS rs id := by unfold refersTo; rw [hgv, ← hrs]
            have HRF := Lib.hid hrf
            have HRX := Lib.hid hrx
            have HD3 := Lib.hid d3
            have HR := Lib.hid hR
            rw [hR] at hrl
            have t1 : (0 : Int) ≤ (p : Int) := by omega
            have t2 : (p : Int) < (n : Int) := by omega
            have t3 : ¬ (p : Int) < 0 := by omega
            clear hget hvt hgv hlv hln hsw hx hxv hxi d0 d1 d2 d3 d4 hra hrc hrs hrx hin hR hrf
            subst hax
            go_wp2_with fail
            (with_reducible refine HGET.out.mono ?_)
            rintro e w3 ⟨rfl, hb3⟩
            have HB3 := Lib.hid (HBW.out.trans (hb3.mono HBW.out.size))
            have HBK3 := Lib.hid (HBK.out.trans (hb3.mono HBK.out.size))
            have d3 := (HB3.out.cell (p := ⟨bx, ox + p * 5 + 3, none⟩) (cell_lt HD3.out)).trans HD3.out
            obtain ⟨y, hy⟩ : ∃ y, memS rs id = y := ⟨_, rfl⟩
            have HCT := Lib.hid (contains_is (b := y) ra rs rc id w3 (HRX.out.below HB3.out) HR.out (by unfold maxLen; omega) (by rw [← hy]; exact memS_iff.symm))
            have HNX : Hid (wantK vs ids id (k + 1) = (t || y)) := by show _ = _; rw [wantK_succ HSK.out, HT.out, HRF.out, hy]
            clear hb3 HGET hy
            cases y with
            | true =>
              go_wp2_with fail
              (with_reducible refine HCT.out.mono ?_)
              rintro e w4 ⟨rfl, hb4⟩
              have HB4 := Lib.hid (HBK3.out.trans (hb4.mono HBK3.out.size))
              clear hb4 HCT
              go_wp2_with fail
              go_roundw
              case rel => exact ⟨k + 1, by omega, by go_num, by rw [HNX.out]; simp, HB4.out⟩
              case measure => simp [intOf]; omega
            | false =>
              go_wp2_with fail
              (with_reducible refine HCT.out.mono ?_)
              rintro e w4 ⟨rfl, hb4⟩
              have HB4 := Lib.hid (HBK3.out.trans (hb4.mono HBK3.out.size))
              clear hb4 HCT
              go_wp2_with fail
              go_roundw
              case rel => exact ⟨k + 1, by omega, by go_num, by rw [HNX.out]; simp, HB4.out⟩
              case measure => simp [intOf]; omega
          · have HGET := Lib.hid (refGet_out c s wr (HV.out.below HBW.out) HST.out hin)
            have hrf : refersTo vs id s = false := by
              unfold refersTo
              cases hg : getV vs s with
              | none => rfl
              | some v => exact absurd (mem_idsV.2 ⟨v, hg⟩) hin
            have HNX : Hid (wantK vs ids id (k + 1) = t) := by show _ = _; rw [wantK_succ HSK.out, HT.out, hrf, Bool.or_false]
            clear hin hrf
            go_wp2_with fail
            (with_reducible refine HGET.out.mono ?_)
            rintro e w3 ⟨rfl, hb3⟩
            have HBK3 := Lib.hid (HBK.out.trans (hb3.mono HBK.out.size))
            clear hb3 HGET
            go_wp2_with fail
            go_roundw
            case rel => exact ⟨k + 1, by omega, by go_num, by rw [HNX.out], HBK3.out⟩
            case measure => simp [intOf]; omega
        · obtain rfl : k = m := by omega
          have HOR := Lib.hid (HOW2.out.below HBK.out)
          clear hkF
          cases t with
          | true =>
            have HR1 := Lib.hid (show (wr.alloc (.cells #[.string id] 9)).ownsRow w1.heap.size 9 1 (.slice Aq q.length cq) q.length (cellsS q) from HOR.out.below ((Below.refl _ _).alloc (Nat.le_refl _) _))
            have HNE := Lib.hid (cell_one_at wr id 9)
            have hbb := HB1K.out.alloc HB1K.out.size (.cells #[.string id] 9)
            have HBB := Lib.hid hbb
            have hsz2 := hbb.size
            clear hbb
            go_wp2_with (at_builtin; refine wpList_append_own _ rfl _ _ 25 rfl w1.heap.size 9 i0 _ 1 16 Tryd.underlying25 hi hz0 hz1 hz2 rfl (by decide) (.slice Aq q.length cq) q.length (cellsS q) rfl HR1.out ⟨wr.heap.size, 0, none⟩ 1 1 [.string id] rfl rfl HNE.out (by simp [Value.oneCell']) (by unfold maxLen; omega) (by omega) hsz2 ?_; intro v' w3 hown' hgrow hnv)
            have hr3 : OwnS w1.heap.size w3 v' (q ++ [id]) := by
              unfold OwnS cellsS
              rw [List.map_append, List.length_append]
              exact hown'
            have hB3 : Below w1.heap.size w1 w3 := HBB.out.grown hgrow HBB.out.size (fun j hj => ((World.ownsRow.lt HR1.out) j (show (Value.slice Aq q.length cq).ownBlock = some j from hj)).1)
            have HR3 := Lib.hid hr3
            clear hown' hgrow hnv HBB HNE HR1 hr3
            go_wp2_with fail
            go_roundw
            case rel =>
              refine ⟨j + 1, by omega, by go_num, ?_, hB3⟩
              unfold firstN
              rw [take_hit HID.out HT.out]
              have hq := HQ.out
              unfold firstN at hq
              rw [hq]
              exact HR3.out
            case measure => simp [intOf]; omega
          | false =>
            go_wp2_with fail
            go_roundw
            case rel =>
              refine ⟨j + 1, by omega, by go_num, ?_, HB1K.out⟩
              unfold firstN
              rw [take_miss HID.out HT.out]
              have hq := HQ.out
              unfold firstN at hq
              rw [hq]
              exact HOR.out
            case measure => simp [intOf]; omega
    · obtain rfl : j = m1 := by omega
      have hqL : q = L := by rw [← HQ.out, ← HLL.out, HML.out]
      have HQL := Lib.hid hqL
      have HBE := Lib.hid (HB1.out.trans (HB.out.mono HB1.out.size))
      have HSZ := Lib.hid HB1.out.size
      clear hqL hlt
      go_wp2_with fail
      go_ret
      rw [← HQL.out]
      exact ⟨Aq, q.length, cq, rfl, rfl, own_low HOW.out HSZ.out, HBE.out⟩
end Go.Proofs.YtodlabohijabnaaDoor
