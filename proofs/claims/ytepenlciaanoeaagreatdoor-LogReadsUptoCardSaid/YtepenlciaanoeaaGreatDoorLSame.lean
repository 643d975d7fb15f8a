/- Operations that say the same: contracts of wyref.Plain, wyref.SameOp and of lists that are the same. -/
import Derived.Test.YtepenlciaanoeaaGreatDoorLPure
import Derived.Test.YtepenlciaanoeaaGreatDoorREq
set_option linter.unusedVariables false
set_option linter.unusedSimpArgs false
set_option maxRecDepth 100000
namespace Go.Proofs.YtepenlciaanoeaaGreatDoor
open Go.RowKit Go.Sort

/-- where the lists lie of what is written of o -/
def OpL.plainP (o : OpL) (P : OpP) : OpP := if o.kind = 1 then ⟨P.ra, P.rc, At.none⟩ else if o.kind = 2 then ⟨none, 0, P.p⟩ else ⟨none, 0, At.none⟩
theorem short_bare (c : Int) : (⟨⟨#[]⟩, c, [], []⟩ : RecL).short := ⟨Nat.zero_le _, fun f h => (by cases h), fun s h => (by cases h)⟩
theorem bare_in (c : Int) (w : World) : (⟨⟨#[]⟩, c, [], []⟩ : RecL).in_ At.none w := ⟨SlF.nil _ _, SlS.nil _ _, Nat.le_refl _, Nat.le_refl _, Nat.zero_le _, Nat.zero_le _⟩
theorem fld0_short : fld0.short := ⟨Nat.zero_le _, Nat.zero_le _⟩
theorem nth_range {n k : Nat} (rs : Nat → RuleL) (h : k < n) : nthR ((List.range n).map rs) k = rs k := by
  unfold nthR
  rw [List.getD, List.getElem?_map, List.getElem?_range h]
  rfl
theorem plain_in {o : OpL} {P : OpP} {w : World} (h : o.in_ P w) : o.plain.in_ (o.plainP P) w := by
  unfold OpL.plain OpL.plainP
  by_cases h1 : o.kind = 1
  · rw [if_pos h1, if_pos h1]
    refine ⟨fun k hk => ?_, ?_, h.rm, bare_in _ _, short_bare _, fld0_short⟩
    · have hk' : k < o.n := by
        have : k < ((List.range o.n).map o.rs).length := hk
        simpa using this
      have := h.rs k hk'
      show ∃ b off, P.ra = _ ∧ RuleAt w b _ (nthR ((List.range o.n).map o.rs) k)
      rw [nth_range _ hk']
      exact this
    · show ((List.range o.n).map o.rs).length ≤ P.rc
      simpa using h.rl
  · rw [if_neg h1, if_neg h1]
    by_cases h2 : o.kind = 2
    · rw [if_pos h2, if_pos h2]
      exact ⟨fun k hk => absurd hk (Nat.not_lt_zero k), Nat.le_refl _, Nat.zero_le _, h.r, h.sh, fld0_short⟩
    · rw [if_neg h2, if_neg h2]
      refine ⟨fun k hk => absurd hk (Nat.not_lt_zero k), Nat.le_refl _, Nat.zero_le _, bare_in _ _, short_bare _, fld0_short⟩

set_option maxHeartbeats 2000000 in
theorem plain_any (o : OpL) (P : OpP) (w : World) :
    Calls Tryz.prog 51 #[o.v P] w fun e w' => e = .returned (o.plain.v (o.plainP P)) ∧ Below w.heap.size w w' := by
  obtain ⟨V, hV⟩ : ∃ V, V = o.plain.v (o.plainP P) := ⟨_, rfl⟩
  rw [← hV]
  have HV := Lib.hid hV
  clear hV
  obtain ⟨kind, who, n, rs, r, id, f⟩ := o
  obtain ⟨ra, rc, p⟩ := P
  by_cases h1 : kind = 1
  · subst h1
    have hv : V = .agg #[.int .i64 1, .int .i64 0, .int .i64 0, .int .i64 0, .slice ra n rc, .string ⟨#[]⟩, .int .i64 0, .slice none 0 0, .slice none 0 0, .string ⟨#[]⟩, .string ⟨#[]⟩, .string ⟨#[]⟩] := by
      rw [HV.out]
      unfold OpL.plain OpL.plainP
      rw [if_pos rfl, if_pos rfl]
      simp [OpL.v, opRules, who0, RecL.zero, At.none, fld0]
    subst hv
    clear HV
    go_enter Tryz.func51, Tryz.ntmps51
    go_wp2_with fail
    refine bodyPost_ret (v := .agg #[.int .i64 1, .int .i64 0, .int .i64 0, .int .i64 0, .slice ra n rc, .string ⟨#[]⟩, .int .i64 0, .slice none 0 0, .slice none 0 0, .string ⟨#[]⟩, .string ⟨#[]⟩, .string ⟨#[]⟩]) (by simp [results, Tryz.results51, go_sem]) rfl ?_
    exact ⟨rfl, by go_grown⟩
  · have h1f : (kind == 1) = false := by simpa using h1
    by_cases h2 : kind = 2
    · subst h2
      have hv : V = .agg #[.int .i64 2, .int .i64 who.role, .int .i64 who.why, .int .i64 who.time, .slice none 0 0, .string r.id, .int .i64 r.cats, .slice p.fa r.fs.length p.fc, .slice p.ra r.rs.length p.rc, .string ⟨#[]⟩, .string ⟨#[]⟩, .string ⟨#[]⟩] := by
        rw [HV.out]
        unfold OpL.plain OpL.plainP
        rw [if_neg (show ¬ (2 : Int) = 1 by decide), if_pos rfl, if_neg (show ¬ (2 : Int) = 1 by decide), if_pos rfl]
        simp [OpL.v, opPut, fld0]
      subst hv
      clear HV
      go_enter Tryz.func51, Tryz.ntmps51
      go_wp2_with fail
      refine bodyPost_ret (v := .agg #[.int .i64 2, .int .i64 who.role, .int .i64 who.why, .int .i64 who.time, .slice none 0 0, .string r.id, .int .i64 r.cats, .slice p.fa r.fs.length p.fc, .slice p.ra r.rs.length p.rc, .string ⟨#[]⟩, .string ⟨#[]⟩, .string ⟨#[]⟩]) (by simp [results, Tryz.results51, go_sem]) rfl ?_
      exact ⟨rfl, by go_grown⟩
    · have h2f : (kind == 2) = false := by simpa using h2
      have hv : V = .agg #[.int .i64 3, .int .i64 who.role, .int .i64 who.why, .int .i64 who.time, .slice none 0 0, .string ⟨#[]⟩, .int .i64 r.cats, .slice none 0 0, .slice none 0 0, .string id, .string ⟨#[]⟩, .string ⟨#[]⟩] := by
        rw [HV.out]
        unfold OpL.plain OpL.plainP
        rw [if_neg h1, if_neg h2, if_neg h1, if_neg h2]
        simp [OpL.v, opCut, fld0, At.none]
      subst hv
      clear HV
      go_enter Tryz.func51, Tryz.ntmps51
      go_wp2_with fail
      refine bodyPost_ret (v := .agg #[.int .i64 3, .int .i64 who.role, .int .i64 who.why, .int .i64 who.time, .slice none 0 0, .string ⟨#[]⟩, .int .i64 r.cats, .slice none 0 0, .slice none 0 0, .string id, .string ⟨#[]⟩, .string ⟨#[]⟩]) (by simp [results, Tryz.results51, go_sem]) rfl ?_
      exact ⟨rfl, by go_grown⟩

set_option maxHeartbeats 2000000 in
theorem eqRules_yes (a a' : Option Addr) (n c c' : Nat) (rs : Nat → RuleL) (w : World) (hs : SlR w a n rs) (hs' : SlR w a' n rs) (hm : n ≤ maxLen) :
    Calls Tryz.prog 15 #[.slice a n c, .slice a' n c'] w fun e w' => e = .returned (.bool true) ∧ Below w.heap.size w w' := by
  unfold maxLen at hm
  have HS := Lib.hid hs
  have HS' := Lib.hid hs'
  clear hs hs'
  go_enter Tryz.func15, Tryz.ntmps15
  go_wp2_with fail
  go_loopw [13] (fun i wr => ∃ k : Nat, k ≤ n ∧ i = .int .i64 k ∧ Below w.heap.size w wr) (fun i _ => n - (intOf i).toNat)
  case atStart => exact ⟨0, Nat.zero_le _, rfl, Below.refl _ _⟩
  case round =>
    obtain ⟨k, hk, rfl, hB⟩ := hrel
    by_cases hlt : k < n
    · obtain ⟨b, off, rfl, hr⟩ := (HS.out.below hB) k hlt
      obtain ⟨b', off', rfl, hr'⟩ := (HS'.out.below hB) k hlt
      obtain ⟨c0, c1, c2, c3, c4, c5⟩ := hr
      obtain ⟨d0, d1, d2, d3, d4, d5⟩ := hr'
      generalize rs k = r at c0 c1 c2 c3 c4 c5 d0 d1 d2 d3 d4 d5
      have j1 : (0 : Int) ≤ (k : Int) := by omega
      have j2 : (k : Int) < (n : Int) := by omega
      go_wp2_with fail
      go_quiet (fail)
      go_wp2_with fail
      go_roundw
      case rel => exact ⟨k + 1, by omega, by go_num, hB.trans ((drewn_below wr _).mono hB.size)⟩
      case measure => simp [intOf]; omega
    · go_wp2_with fail
      go_ret
      exact ⟨rfl, hB⟩

set_option maxHeartbeats 4000000 in
theorem sameOp_yes (o : OpL) (P P' : OpP) (w : World) (hi : o.in_ P w) (hi' : o.in_ P' w) :
    Calls Tryz.prog 21 #[o.v P, o.v P'] w fun e w' => e = .returned (.bool true) ∧ Below w.heap.size w w' := by
  have HI := Lib.hid hi
  have HI' := Lib.hid hi'
  have hA : Below w.heap.size w ((w.alloc (.cells #[.int .i64 o.kind, .int .i64 o.who.role, .int .i64 o.who.why, .int .i64 o.who.time, .slice P.ra o.n P.rc, .string o.r.id, .int .i64 o.r.cats, .slice P.p.fa o.r.fs.length P.p.fc, .slice P.p.ra o.r.rs.length P.p.rc, .string o.id, .string o.f.key, .string o.f.val] 43)).alloc (.cells #[.int .i64 o.kind, .int .i64 o.who.role, .int .i64 o.who.why, .int .i64 o.who.time, .slice P'.ra o.n P'.rc, .string o.r.id, .int .i64 o.r.cats, .slice P'.p.fa o.r.fs.length P'.p.fc, .slice P'.p.ra o.r.rs.length P'.p.rc, .string o.id, .string o.f.key, .string o.f.val] 43)) := ((Below.refl _ _).alloc (Nat.le_refl _) _).alloc (by simp) _
  have HA := Lib.hid hA
  have HX := Lib.hid (show OpAt ((w.alloc (.cells #[.int .i64 o.kind, .int .i64 o.who.role, .int .i64 o.who.why, .int .i64 o.who.time, .slice P.ra o.n P.rc, .string o.r.id, .int .i64 o.r.cats, .slice P.p.fa o.r.fs.length P.p.fc, .slice P.p.ra o.r.rs.length P.p.rc, .string o.id, .string o.f.key, .string o.f.val] 43)).alloc (.cells #[.int .i64 o.kind, .int .i64 o.who.role, .int .i64 o.who.why, .int .i64 o.who.time, .slice P'.ra o.n P'.rc, .string o.r.id, .int .i64 o.r.cats, .slice P'.p.fa o.r.fs.length P'.p.fc, .slice P'.p.ra o.r.rs.length P'.p.rc, .string o.id, .string o.f.key, .string o.f.val] 43)) w.heap.size 0 ⟨o, P⟩ ∧ OpAt ((w.alloc (.cells #[.int .i64 o.kind, .int .i64 o.who.role, .int .i64 o.who.why, .int .i64 o.who.time, .slice P.ra o.n P.rc, .string o.r.id, .int .i64 o.r.cats, .slice P.p.fa o.r.fs.length P.p.fc, .slice P.p.ra o.r.rs.length P.p.rc, .string o.id, .string o.f.key, .string o.f.val] 43)).alloc (.cells #[.int .i64 o.kind, .int .i64 o.who.role, .int .i64 o.who.why, .int .i64 o.who.time, .slice P'.ra o.n P'.rc, .string o.r.id, .int .i64 o.r.cats, .slice P'.p.fa o.r.fs.length P'.p.fc, .slice P'.p.ra o.r.rs.length P'.p.rc, .string o.id, .string o.f.key, .string o.f.val] 43)) (w.heap.size + 1) 0 ⟨o, P'⟩ from by
    constructor <;> constructor <;> simp [go_sem])
  have s1 : (o.id.toList == o.id.toList) = true := by simp
  have s2 : (o.f.key.toList == o.f.key.toList) = true := by simp
  have s3 : (o.f.val.toList == o.f.val.toList) = true := by simp
  clear hi hi' hA
  go_enter Tryz.func21, Tryz.ntmps21
  go_wp2_with fail
  refine (eqRules_yes P.ra P'.ra o.n P.rc P'.rc o.rs _ (HI.out.rs.below HA.out) (HI'.out.rs.below HA.out) (Nat.le_trans HI.out.rl HI.out.rm)).mono ?_
  rintro e w1 ⟨rfl, hb1⟩
  have HB1 := Lib.hid (HA.out.trans (hb1.mono HA.out.size))
  obtain ⟨c0, c1, c2, c3, c4, c5, c6, c7, c8, c9, c10, c11⟩ := HX.out.1.below hb1
  obtain ⟨d0, d1, d2, d3, d4, d5, d6, d7, d8, d9, d10, d11⟩ := HX.out.2.below hb1
  simp only [Nat.zero_add] at c0 c1 c2 c3 c4 c5 c6 c7 c8 c9 c10 c11 d0 d1 d2 d3 d4 d5 d6 d7 d8 d9 d10 d11
  have HXB := Lib.hid (show OpAt w1 w.heap.size 0 ⟨o, P⟩ ∧ OpAt w1 (w.heap.size + 1) 0 ⟨o, P'⟩ from ⟨HX.out.1.below hb1, HX.out.2.below hb1⟩)
  clear hb1 HX
  go_wp2_with fail
  refine (same_is (b := true) o.r o.r P.p P'.p w1 (HI.out.r.below HB1.out) (HI'.out.r.below HB1.out) (by simp)).mono ?_
  rintro e w2 ⟨rfl, hb2⟩
  have HB2 := Lib.hid (HB1.out.trans (hb2.mono HB1.out.size))
  clear c0 c1 c2 c3 c4 c5 c6 c7 c8 c9 c10 c11 d0 d1 d2 d3 d4 d5 d6 d7 d8 d9 d10 d11
  obtain ⟨c0, c1, c2, c3, c4, c5, c6, c7, c8, c9, c10, c11⟩ := HXB.out.1.below hb2
  obtain ⟨d0, d1, d2, d3, d4, d5, d6, d7, d8, d9, d10, d11⟩ := HXB.out.2.below hb2
  simp only [Nat.zero_add] at c0 c1 c2 c3 c4 c5 c6 c7 c8 c9 c10 c11 d0 d1 d2 d3 d4 d5 d6 d7 d8 d9 d10 d11
  clear hb2
  go_wp2_with fail
  go_ret
  exact ⟨rfl, HB2.out⟩

set_option maxHeartbeats 4000000 in
/-- lists of operations that say the same -/
theorem eqOps_yes (a a' : Option Addr) (l l' : List OO) (n n' c c' : Nat) (w : World) (hs : SlO w a l) (hs' : SlO w a' l') (hn : l.length = n) (hn' : l'.length = n') (hm : n ≤ maxLen) (he : l.map (·.o) = l'.map (·.o)) :
    Calls Tryz.prog 23 #[.slice a n c, .slice a' n' c', .func (.func 21) #[] #[]] w fun e w' => e = .returned (.bool true) ∧ Below w.heap.size w w' := by
  unfold maxLen at hm
  have hl : n' = n := by rw [← hn, ← hn']; have := congrArg List.length he; rw [List.length_map, List.length_map] at this; exact this.symm
  subst hl
  have HS := Lib.hid hs
  have HS' := Lib.hid hs'
  have HN := Lib.hid hn
  have HN' := Lib.hid hn'
  have HE := Lib.hid (fun (k : Nat) (x y : OO) (h1 : l[k]? = some x) (h2 : l'[k]? = some y) => show x.o = y.o from by
    have := congrArg (·[k]?) he
    simp only [List.getElem?_map, h1, h2, Option.map_some, Option.some.injEq] at this
    exact this)
  clear hs hs' hn hn' he
  go_enter Tryz.func23, Tryz.ntmps23
  go_wp2_with fail
  go_loopw [17] (fun i wr => ∃ k : Nat, k ≤ n' ∧ i = .int .i64 k ∧ Hid (Below w.heap.size w wr)) (fun i _ => n' - (intOf i).toNat)
  case atStart => exact ⟨0, Nat.zero_le _, rfl, Below.refl _ _⟩
  case round =>
    obtain ⟨k, hk, rfl, HB⟩ := hrel
    by_cases hlt : k < n'
    · obtain ⟨x, hx⟩ : ∃ x, l[k]? = some x := ⟨_, List.getElem?_eq_getElem (by rw [HN.out]; exact hlt)⟩
      obtain ⟨y, hy⟩ : ∃ y, l'[k]? = some y := ⟨_, List.getElem?_eq_getElem (by rw [HN'.out]; exact hlt)⟩
      obtain ⟨ix, b, off, rfl, hc⟩ := (HS.out.below HB.out) k x hx
      obtain ⟨iy, b', off', rfl, hd⟩ := (HS'.out.below HB.out) k y hy
      have hxy := HE.out k x y hx hy
      obtain ⟨o, P⟩ := x
      obtain ⟨o', P'⟩ := y
      replace hxy : o = o' := hxy
      subst hxy
      have HIX := Lib.hid ix
      have HIY := Lib.hid iy
      obtain ⟨c0, c1, c2, c3, c4, c5, c6, c7, c8, c9, c10, c11⟩ := hc
      obtain ⟨d0, d1, d2, d3, d4, d5, d6, d7, d8, d9, d10, d11⟩ := hd
      have j1 : (0 : Int) ≤ (k : Int) := by omega
      have j2 : (k : Int) < (n' : Int) := by omega
      have lt1 := cell_lt c0
      have lt2 := cell_lt d0
      have hA2 : Below wr.heap.size wr (((wr.alloc (.cells #[.int .i64 o.kind, .int .i64 o.who.role, .int .i64 o.who.why, .int .i64 o.who.time, .slice P.ra o.n P.rc, .string o.r.id, .int .i64 o.r.cats, .slice P.p.fa o.r.fs.length P.p.fc, .slice P.p.ra o.r.rs.length P.p.rc, .string o.id, .string o.f.key, .string o.f.val] 43)).alloc (.cells #[.int .i64 o.kind, .int .i64 o.who.role, .int .i64 o.who.why, .int .i64 o.who.time, .slice P'.ra o.n P'.rc, .string o.r.id, .int .i64 o.r.cats, .slice P'.p.fa o.r.fs.length P'.p.fc, .slice P'.p.ra o.r.rs.length P'.p.rc, .string o.id, .string o.f.key, .string o.f.val] 43))) := ((Below.refl _ _).alloc (Nat.le_refl _) _).alloc (by simp) _
      have HA2 := Lib.hid hA2
      clear hx hy ix iy hA2
      go_wp2_with fail
      refine (sameOp_yes o P P' _ (HIX.out.below HA2.out) (HIY.out.below HA2.out)).mono ?_
      rintro e w1 ⟨rfl, hb1⟩
      have HB1 := Lib.hid (HB.out.trans ((HA2.out.trans (hb1.mono HA2.out.size)).mono HB.out.size))
      clear hb1 c0 c1 c2 c3 c4 c5 c6 c7 c8 c9 c10 c11 d0 d1 d2 d3 d4 d5 d6 d7 d8 d9 d10 d11
      go_wp2_with fail
      go_roundw
      case rel => exact ⟨k + 1, by omega, by go_num, HB1.out⟩
      case measure => simp [intOf]; omega
    · have HB2 := Lib.hid HB.out
      go_wp2_with fail
      go_ret
      exact ⟨rfl, HB2.out⟩
end Go.Proofs.YtepenlciaanoeaaGreatDoor
