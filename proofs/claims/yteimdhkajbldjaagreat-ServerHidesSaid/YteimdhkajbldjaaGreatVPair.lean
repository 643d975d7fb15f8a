/- Two servers side by side: what becomes of both; what is one to who sees just some kinds; what is put in either order. -/
import Derived.Test.YteimdhkajbldjaaGreatSrvB
import Derived.Test.YteimdhkajbldjaaGreatVRead
set_option linter.unusedVariables false
set_option linter.unusedSimpArgs false
set_option maxRecDepth 100000
namespace Go.Proofs.YteimdhkajbldjaaGreat
open Go.RowKit Go.Sort

/-- blocks pa and pb are servers that have X and Y, neither of whose blocks are the other's; since the world w3, in which their notes lay at ra and rb, nothing but theirs, and what is new, has changed -/
structure LpQ (S pa pb ra rb : Nat) (w3 : World) (qa qb : Nat) (X Y : SrvX) (w : World) : Prop where
  a : Srv w S pa qa (fun z => z = pb ∨ z = qb) X
  b : Srv w S pb qb (fun z => z = pa ∨ z = qa) Y
  na : qa = ra ∨ w3.heap.size ≤ qa
  nb : qb = rb ∨ w3.heap.size ≤ qb
  k : Kept (fun z => (z ≠ pa ∧ z ≠ ra) ∧ (z ≠ pb ∧ z ≠ rb)) w3 w
section
variable {S pa pb ra rb qa qb : Nat} {w3 : World} {X X' Y : SrvX} {w w' : World} {T : ToldL}
theorem LpQ.swap (h : LpQ S pa pb ra rb w3 qa qb X Y w) : LpQ S pb pa rb ra w3 qb qa Y X w :=
  ⟨h.b, h.a, h.nb, h.na, h.k.sub fun z _ hz => ⟨hz.2, hz.1⟩⟩
theorem LpQ.below (h : LpQ S pa pb ra rb w3 qa qb X Y w) (hb : Below w.heap.size w w') : LpQ S pa pb ra rb w3 qa qb X Y w' :=
  ⟨h.a.below hb, h.b.below hb, h.na, h.nb, h.k.trans (Kept.of hb)⟩
theorem LpQ.far (h : LpQ S pa pb ra rb w3 qa qb X Y w) (hr : S ≤ ra ∧ S ≤ rb) (hS : S ≤ w3.heap.size) : Below S w3 w :=
  h.k.to (fun z hz => by have h1 := h.a.sp; have h2 := h.b.sp; exact ⟨⟨by omega, by omega⟩, by omega, by omega⟩) hS
theorem LpQ.base (h : LpQ S pa pb ra rb w3 qa qb X Y w) : LpQ S pa pb qa qb w qa qb X Y w := ⟨h.a, h.b, .inl rfl, .inl rfl, Kept.refl _ _⟩
theorem LpQ.lt (h : LpQ S pa pb ra rb w3 qa qb X Y w) : pa < w.heap.size ∧ qa < w.heap.size ∧ pb < w.heap.size ∧ qb < w.heap.size := ⟨h.a.pw, h.a.qw, h.b.pw, h.b.qw⟩
theorem LpQ.ge (h : LpQ S pa pb ra rb w3 qa qb X Y w) : S ≤ pa ∧ S ≤ qa ∧ S ≤ pb ∧ S ≤ qb := ⟨h.a.sp, h.a.sq, h.b.sp, h.b.sq⟩
/-- what Do of the first one leaves -/
def LpIsQ (S pa pb ra rb : Nat) (w3 : World) (qa qb : Nat) (T : ToldL) (X' Y : SrvX) (w : World) (e : Ending) (w' : World) : Prop :=
  ∃ (P : ToldP) (qa' : Nat), e = .returned (.agg #[.int .i64 T.code, .slice P.va T.vs.length P.vc, .slice P.ia T.ids.length P.ic, .slice P.na T.ns.length P.nc]) ∧ NewTold w.heap.size w' T P ∧ LpQ S pa pb ra rb w3 qa' qb X' Y w' ∧ (qa' = qa ∨ w.heap.size ≤ qa') ∧ Kept (Off pa qa) w w'
theorem LpQ.doing (h : LpQ S pa pb ra rb w3 qa qb X Y w) (o : OpL) (P : OpP) (hi : o.in_ P w) (hT : doT X o = T) (hX : doX X o = X') :
    Calls Tryz.prog 16 #[ptr pa, o.v P] w (LpIsQ S pa pb ra rb w3 qa qb T X' Y w) := by
  have hpb := h.b.pw
  have hqb := h.b.qw
  have hsz := h.k.size
  refine (do_to o P w h.a (fun z hz => by rcases hz with rfl | rfl <;> assumption) hi hT hX).mono ?_
  rintro e w' ⟨P', q', rfl, hn, hs, hq, hk⟩
  have k3 : Kept (fun z => ((z ≠ pa ∧ z ≠ ra) ∧ (z ≠ pb ∧ z ≠ rb)) ∧ z < w3.heap.size) w3 w' := (h.k.sub fun z _ hz => hz.1).trans (hk.sub fun z _ hz => ⟨hz.1.1.1, fun e => by
    rcases h.na with e2 | e2
    · exact hz.1.1.2 (e.trans e2)
    · omega⟩)
  refine ⟨P', q', rfl, hn, ⟨hs, h.b.keep (hk.sub fun z _ hz => ⟨fun e => hz (.inl e), fun e => hz (.inr e)⟩) (fun z hl hz => ?_), ?_, h.nb, k3.sub fun z hl hz => ⟨hz, hl⟩⟩, hq, hk⟩
  · rcases hz with hz | hz
    · exact .inl hz
    · rcases hq with e | e
      · exact .inr (hz.trans e)
      · omega
  · rcases hq with e | e
    · rw [e]; exact h.na
    · exact .inr (by omega)
theorem LpQ.reading (h : LpQ S pa pb ra rb w3 qa qb X Y w) (o : OpL) (P : OpP) (hi : o.in_ P w) (hk : o.kind ≠ 1 ∧ o.kind ≠ 2 ∧ o.kind ≠ 3 ∧ o.kind ≠ 7) (hT : doT X o = T) :
    Calls Tryz.prog 16 #[ptr pa, o.v P] w (RdIs T w) := by
  have hpb := h.b.pw
  have hqb := h.b.qw
  exact do_read o P w h.a (fun z hz => by rcases hz with rfl | rfl <;> assumption) hi hk hT
theorem LpQ.rules {n : Nat} (h : LpQ S pa pb ra rb w3 qa qb X Y w) (hn : X.n = n) : Calls Tryz.prog 15 #[ptr pa] w (RulesTo n X.rs w) := rules_of w h.a hn
theorem LpQ.versions {L : List VerL} (h : LpQ S pa pb ra rb w3 qa qb X Y w) (hL : X.vs = L) : Calls Tryz.prog 18 #[ptr pa] w (VersTo L w) := versions_of w h.a hL
/-- two that were made one after the other -/
theorem LpQ.start (ha : Srv w S pa pa (fun _ => False) X) (hb : Srv w3 w.heap.size pb pb (fun z => z = pa) Y) (h : Below w.heap.size w w3) (hS : S ≤ w.heap.size) : LpQ S pa pb pa pb w3 pa pb X Y w3 := by
  have hpa := ha.pw
  have hpb := hb.sp
  have hne : pa ≠ pb := by omega
  refine ⟨?_, ?_, .inl rfl, .inl rfl, Kept.refl _ _⟩
  · refine ha.keep ((Kept.of h (Z := fun _ => True)).sub fun _ _ _ => trivial) (fun z hl hz => ?_)
    rcases hz with rfl | rfl <;> omega
  · have h2 := hb.sub (F' := fun z => z = pa ∨ z = pa) (fun z _ hz => by rcases hz with hz | hz <;> exact hz)
    exact ⟨Nat.le_trans hS h2.sp, Nat.le_trans hS h2.sq, h2.fp, h2.fq, h2.pw, h2.qw, h2.fz, h2.c0, h2.c1, h2.c2, h2.c3, h2.ok⟩
end

/-! ## one to who sees just some kinds -/
/-- Y has of X's versions those of the kinds s -/
structure Sim (s : Nat) (X Y : SrvX) : Prop where
  m : Y.m = X.m
  u : Y.u = X.u
  n : Y.n = X.n
  rs : Y.rs = X.rs
  vs : Y.vs = prt X.vs (s : Int)
theorem Sim.see {s : Nat} {X Y : SrvX} (h : Sim s X Y) (x : WhoL) : seE Y x = seE X x ∧ seV Y x = seV X x ∧ ∀ c, chkE Y x c = chkE X x c := by
  obtain ⟨h1, h2, h3, h4, _⟩ := h
  refine ⟨?_, ?_, fun c => ?_⟩
  · unfold seE SrvX.zi
    rw [h1, h2, h3, h4]
  · unfold seV SrvX.zi
    rw [h1, h2, h3, h4]
  · unfold chkE maE maV SrvX.zi
    rw [h1, h2, h3, h4]
theorem and_sub {a s : Nat} (ha : a ≤ 255) (hs : s ≤ 255) (h : sub a s = 0) : s &&& a = a := by
  have := (sub_zero (a := a) (b := s) (by omega) (by omega)).1 h
  apply Nat.eq_of_testBit_eq
  intro i
  rw [Nat.testBit_and]
  cases hi : a.testBit i with
  | false => simp
  | true => rw [this i hi]; rfl
theorem Sim.seen {s : Nat} {X Y : SrvX} (h : Sim s X Y) (hok : X.Ok) (hs : s ≤ 255) {x : WhoL} (hx : sub (seV X x) s = 0) : seenL Y x = seenL X x := by
  unfold seenL
  rw [(h.see x).2.1, h.vs, prt_prt (stErr_ok.1 hok.st).2 hs (seV_le X x), and_sub (seV_le X x) hs hx]
theorem Sim.putC {s : Nat} {X Y : SrvX} (h : Sim s X Y) (hok : X.Ok) {x : WhoL} {r : RecL} (hr : among r.cats (s : Int) = true) : putC Y x r = putC X x r := by
  have hY : stErr (prt X.vs (s : Int)) = 0 := prt_st hok.st _
  unfold Go.Proofs.YteimdhkajbldjaaGreat.putC putErr
  rw [(h.see x).2.2, h.vs, same_prt_in hr, if_neg (c := stErr (prt X.vs (s : Int)) ≠ 0) (fun k => k hY), if_neg (c := stErr X.vs ≠ 0) (fun k => k hok.st)]
theorem Sim.cutC {s : Nat} {X Y : SrvX} (h : Sim s X Y) (hok : X.Ok) {x : WhoL} {id : ByteArray} {c : Int} (hr : among c (s : Int) = true) : cutC Y x id c = cutC X x id c := by
  have hY : stErr (prt X.vs (s : Int)) = 0 := prt_st hok.st _
  unfold Go.Proofs.YteimdhkajbldjaaGreat.cutC cutErr
  rw [(h.see x).2.2, h.vs, same_prt_in hr, lives_prt, hr, Bool.true_and, if_neg (c := stErr (prt X.vs (s : Int)) ≠ 0) (fun k => k hY), if_neg (c := stErr X.vs ≠ 0) (fun k => k hok.st)]
theorem Sim.vset {s : Nat} {X Y : SrvX} (h : Sim s X Y) {vs : List VerL} {vs' : List VerL} (hv : vs' = prt vs (s : Int)) : Sim s { X with vs := vs } { Y with vs := vs' } := ⟨h.m, h.u, h.n, h.rs, hv⟩
/-- what is hidden changes nothing -/
theorem Sim.hide {s : Nat} {X Y : SrvX} (h : Sim s X Y) {o : OpL} (hk : o.kind = 2 ∨ o.kind = 3) (hr : among o.r.cats (s : Int) = false) : Sim s (doX X o) Y := by
  rcases hk with hk | hk
  · rw [doX_2 hk]
    unfold putS
    split
    · refine ⟨h.m, h.u, h.n, h.rs, ?_⟩
      show Y.vs = prt (X.vs ++ _) _
      rw [prt_append, prt_one, if_neg (by simp [hr]), List.append_nil, h.vs]
    · exact h
  · rw [doX_3 hk]
    unfold cutS
    split
    · refine ⟨h.m, h.u, h.n, h.rs, ?_⟩
      show Y.vs = prt (X.vs ++ _) _
      rw [prt_append, prt_one, if_neg (by show ¬ among o.r.cats _ = true; simp [hr]), List.append_nil, h.vs]
    · exact h
/-- what is only read, or noted, changes nothing -/
theorem Sim.still {s : Nat} {X Y : SrvX} (h : Sim s X Y) {o : OpL} (h1 : o.kind ≠ 1) (h2 : o.kind ≠ 2) (h3 : o.kind ≠ 3) : Sim s (doX X o) Y := by
  unfold doX
  rw [if_neg h1, if_neg h2, if_neg h3]
  split
  · unfold needS
    split
    · exact ⟨h.m, h.u, h.n, h.rs, h.vs⟩
    · exact h
  · exact h
/-- what both do -/
theorem Sim.both {s : Nat} {X Y : SrvX} (h : Sim s X Y) (hok : X.Ok) {o : OpL} (h7 : o.kind ≠ 7) (hr : o.kind = 2 ∨ o.kind = 3 → among o.r.cats (s : Int) = true) : Sim s (doX X o) (doX Y o) := by
  by_cases h1 : o.kind = 1
  · rw [doX_1 h1, doX_1 h1]
    unfold setS
    split
    · exact ⟨h.m, h.u, rfl, rfl, h.vs⟩
    · exact h
  by_cases h2 : o.kind = 2
  · have hr := hr (.inl h2)
    rw [doX_2 h2, doX_2 h2]
    unfold putS
    rw [h.putC hok hr]
    split
    · refine ⟨h.m, h.u, h.n, h.rs, ?_⟩
      show Y.vs ++ _ = prt (X.vs ++ _) _
      rw [prt_append, prt_one, if_pos hr, h.vs]
    · exact h
  by_cases h3 : o.kind = 3
  · have hr := hr (.inr h3)
    rw [doX_3 h3, doX_3 h3]
    unfold cutS
    rw [h.cutC hok hr]
    split
    · refine ⟨h.m, h.u, h.n, h.rs, ?_⟩
      show Y.vs ++ _ = prt (X.vs ++ _) _
      rw [prt_append, prt_one, if_pos (by exact hr), h.vs]
    · exact h
  have e : ∀ Z : SrvX, doX Z o = Z := fun Z => by
    unfold doX
    rw [if_neg h1, if_neg h2, if_neg h3, if_neg h7]
  rw [e, e]
  exact h
/-- what both are told -/
theorem Sim.told {s : Nat} {X Y : SrvX} (h : Sim s X Y) (hok : X.Ok) (hs : s ≤ 255) {o : OpL} (h7 : o.kind ≠ 7) (h8 : o.kind ≠ 8) (hr : o.kind = 2 ∨ o.kind = 3 → among o.r.cats (s : Int) = true)
    (hv : o.kind = 1 ∨ o.kind = 2 ∨ o.kind = 3 ∨ sub (seV X o.who) s = 0) : doT Y o = doT X o := by
  by_cases h1 : o.kind = 1
  · rw [doT_1 h1, doT_1 h1]
  by_cases h2 : o.kind = 2
  · rw [doT_2 h2, doT_2 h2, h.putC hok (hr (.inl h2))]
  by_cases h3 : o.kind = 3
  · rw [doT_3 h3, doT_3 h3, h.cutC hok (hr (.inr h3))]
  have hx : sub (seV X o.who) s = 0 := by
    rcases hv with k | k | k | k
    · exact absurd k h1
    · exact absurd k h2
    · exact absurd k h3
    · exact k
  have hse := (h.see o.who).1
  have hl := h.seen hok hs hx
  by_cases h4 : o.kind = 4
  · rw [doT_4 h4, doT_4 h4]
    unfold getT getC
    rw [hse, hl]
  by_cases h5 : o.kind = 5
  · rw [doT_5 h5, doT_5 h5]
    unfold findT findC
    rw [hse, hl]
  by_cases h6 : o.kind = 6
  · rw [doT_6 h6, doT_6 h6]
    unfold histT histC
    rw [hse, hl]
  · unfold doT
    simp only [if_neg h1, if_neg h2, if_neg h3, if_neg h4, if_neg h5, if_neg h6, if_neg h7, if_neg h8]

/-! ## two records in either order -/
noncomputable def putV (X : SrvX) (x : WhoL) (r : RecL) : List VerL := if Go.Proofs.YteimdhkajbldjaaGreat.putC X x r = 0 then [⟨r, false⟩] else []
theorem putS_eq (X : SrvX) (x : WhoL) (r : RecL) : putS X x r = { X with vs := X.vs ++ putV X x r } := by
  unfold putS putV
  split
  · rfl
  · rw [List.append_nil]
theorem putC_after {X : SrvX} (hok : X.Ok) (x : WhoL) {a b : RecL} (hc : a.cats ≠ b.cats) : Go.Proofs.YteimdhkajbldjaaGreat.putC (putS X x a) x b = Go.Proofs.YteimdhkajbldjaaGreat.putC X x b := by
  have hok' := hok.put x a
  have e := putS_eq X x a
  have hst : stErr (X.vs ++ putV X x a) = 0 := by
    have := hok'.st
    rw [e] at this
    exact this
  have hchk : chkE (putS X x a) x b.cats = chkE X x b.cats := by rw [e]; rfl
  have hvs : (putS X x a).vs = X.vs ++ putV X x a := by rw [e]
  have hsame : same (X.vs ++ putV X x a) b.cats = same X.vs b.cats := by
    rw [same_append]
    unfold putV
    split
    · have := same_snoc [] ⟨a, false⟩ b.cats
      rw [if_neg (by exact hc)] at this
      simp only [List.nil_append, same_nil, Nat.add_zero] at this
      rw [this]
      rfl
    · rw [same_nil, Nat.add_zero]
  unfold Go.Proofs.YteimdhkajbldjaaGreat.putC putErr
  rw [hchk, hvs, hsame, if_neg (c := stErr (X.vs ++ putV X x a) ≠ 0) (fun k => k hst), if_neg (c := stErr X.vs ≠ 0) (fun k => k hok.st)]
theorem putV_after {X : SrvX} (hok : X.Ok) (x : WhoL) {a b : RecL} (hc : a.cats ≠ b.cats) : putV (putS X x a) x b = putV X x b := by
  unfold putV
  rw [putC_after hok x hc]
theorem hist_putV (X : SrvX) (x : WhoL) {a : RecL} {id : ByteArray} (m : Int) (h : a.id ≠ id) : hist (prt (putV X x a) m) id = [] := by
  rw [hist_prt]
  have : hist (putV X x a) id = [] := by
    unfold hist
    rw [List.filter_eq_nil_iff]
    intro v hv
    unfold putV at hv
    split at hv
    · rw [List.mem_singleton] at hv
      subst hv
      exact fun k => h (sEq_iff.1 k)
    · simp at hv
  rw [this]
  rfl
/-- of each of the names the same versions are seen -/
theorem apart_hist {X : SrvX} (hok : X.Ok) (x : WhoL) {a b : RecL} (hi : a.id ≠ b.id) (hc : a.cats ≠ b.cats) (m : Int) {id : ByteArray} (hid : id = a.id ∨ id = b.id) :
    hist (prt (putS (putS X x a) x b).vs m) id = hist (prt (putS (putS X x b) x a).vs m) id := by
  have e1 : (putS (putS X x a) x b).vs = X.vs ++ putV X x a ++ putV X x b := by
    rw [putS_eq (putS X x a), putV_after hok x hc, putS_eq X x a]
  have e2 : (putS (putS X x b) x a).vs = X.vs ++ putV X x b ++ putV X x a := by
    rw [putS_eq (putS X x b), putV_after hok x (Ne.symm hc), putS_eq X x b]
  have happ : ∀ l k : List VerL, hist (prt (l ++ k) m) id = hist (prt l m) id ++ hist (prt k m) id := fun l k => by
    rw [prt_append]
    exact List.filter_append _ _
  rw [e1, e2, happ, happ, happ, happ]
  rcases hid with rfl | rfl
  · rw [hist_putV X x m (a := b) (Ne.symm hi)]
    simp
  · rw [hist_putV X x m (a := a) hi]
    simp
theorem putS_see (X : SrvX) (x y : WhoL) (r : RecL) : seE (putS X x r) y = seE X y ∧ seV (putS X x r) y = seV X y := by
  rw [putS_eq]
  exact ⟨rfl, rfl⟩
/-- what is told of them -/
theorem apart_told {X : SrvX} (hok : X.Ok) (x y : WhoL) {a b : RecL} (hi : a.id ≠ b.id) (hc : a.cats ≠ b.cats) {id : ByteArray} (hid : id = a.id ∨ id = b.id) (o : OpL) (hw : o.who = y) (ho : o.id = id) (hk : o.kind = 4 ∨ o.kind = 6) :
    doT (putS (putS X x a) x b) o = doT (putS (putS X x b) x a) o := by
  subst hw ho
  obtain ⟨X1, h1⟩ : ∃ X1, putS (putS X x a) x b = X1 := ⟨_, rfl⟩
  obtain ⟨X2, h2⟩ : ∃ X2, putS (putS X x b) x a = X2 := ⟨_, rfl⟩
  have hh := fun m : Int => apart_hist hok x hi hc m hid
  have o1 : X1.Ok := by rw [← h1]; exact (hok.put x a).put x b
  have o2 : X2.Ok := by rw [← h2]; exact (hok.put x b).put x a
  have s1 : ∀ y, seE X1 y = seE X2 y ∧ seV X1 y = seV X2 y := fun y => by
    rw [← h1, ← h2, (putS_see _ x y b).1, (putS_see _ x y b).2, (putS_see _ x y a).1, (putS_see _ x y a).2, (putS_see _ x y a).1, (putS_see _ x y a).2, (putS_see _ x y b).1, (putS_see _ x y b).2]
    exact ⟨rfl, rfl⟩
  rw [h1, h2] at *
  have hH : hist (seenL X1 o.who) o.id = hist (seenL X2 o.who) o.id := by
    unfold seenL
    rw [(s1 o.who).2]
    exact hh _
  have t1 : stErr (seenL X1 o.who) = 0 := prt_st o1.st _
  have t2 : stErr (seenL X2 o.who) = 0 := prt_st o2.st _
  rcases hk with h4 | h6
  · have hg : getV (seenL X1 o.who) o.id = getV (seenL X2 o.who) o.id := by rw [← getV_hist, hH, getV_hist]
    obtain ⟨g1, g2⟩ := get_congr t1 t2 hg
    rw [doT_4 h4, doT_4 h4]
    unfold getT getC
    rw [(s1 o.who).1, g1, g2]
  · rw [doT_6 h6, doT_6 h6]
    unfold histT histC histErr
    rw [(s1 o.who).1, hH, if_neg (c := stErr (seenL X1 o.who) ≠ 0) (fun k => k t1), if_neg (c := stErr (seenL X2 o.who) ≠ 0) (fun k => k t2)]
end Go.Proofs.YteimdhkajbldjaaGreat
