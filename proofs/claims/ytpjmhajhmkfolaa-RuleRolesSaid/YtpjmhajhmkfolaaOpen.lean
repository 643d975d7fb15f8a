/- Arguments opened to cells: numbers, lists of numbers, who asks, rules, lists of rules. -/
import Derived.Test.YtpjmhajhmkfolaaSeesDefs
import Derived.Deep.Slices
import Derived.ChangeSame
import Derived.OpenShut
set_option linter.unusedVariables false
set_option linter.unusedSimpArgs false
namespace Go.Proofs.Ytpjmhajhmkfolaa
open Go.RowKit Go.ChangeShapes Go.WideShapes Go.Deep

theorem addr_add (b off k : Nat) : (⟨b, off, none⟩ : Addr).add k = ⟨b, off + k, none⟩ := by unfold Addr.add; split <;> simp_all

theorem spot_none {w : World} {x : Addr} {v : Value} (h : w.cell? (x.add 0) = some v) : ∃ b off, x = ⟨b, off, none⟩ := by
  obtain ⟨b, off, spot⟩ := x
  have hs : spot = none := by simpa [Addr.add] using World.cell?_spot h
  subst hs
  exact ⟨b, off, rfl⟩

theorem cellsInt : Try.prog.cellsOf 3 = 1 := by kernel_rfl
theorem cellsBool : Try.prog.cellsOf 4 = 1 := by kernel_rfl
theorem cellsWho : Try.prog.cellsOf 25 = 3 := by kernel_rfl
theorem cellsRule : Try.prog.cellsOf 27 = 6 := by kernel_rfl

section
variable {H : Type} {enc : TypeId × Value → H} {w : World} {base : Nat} {spare : Nat → Bool} {held : Bool}

/-- the reading of one field of a struct -/
theorem field_read {P : Program} {t : TypeId} {fs : Array Field} {fuel : Nat} {cs : List Value} {x : DataW H × List MemPlace} (ht : P.underlying t = some (.struct fs)) (h : DataW.trod enc P w base spare held fuel t cs = some x)
    {i : Nat} {f : Field} (hf : fs[i]? = some f) : ∃ n y, DataW.trod enc P w base spare held n f.type ((cs.drop f.offset).take (P.cellsOf f.type)) = some y := by
  obtain ⟨xs, n, _, _, _, hlen, hg⟩ := DataW.trod_struct ht h
  have hi : i < xs.length := by rw [hlen]; exact (Array.getElem?_eq_some_iff.1 hf).1
  exact ⟨n, _, (hg i f hf).trans (List.getElem?_eq_getElem hi)⟩
theorem cell_read {P : Program} {t : TypeId} {fs : Array Field} {fuel : Nat} {cs : List Value} {x : DataW H × List MemPlace} (ht : P.underlying t = some (.struct fs)) (h : DataW.trod enc P w base spare held fuel t cs = some x)
    (i : Nat) {f : Field} (ty o : Nat) (hf : fs[i]? = some f) (hty : f.type = ty) (ho : f.offset = o) (hc : P.cellsOf ty = 1) : ∃ n y, DataW.trod enc P w base spare held n ty ((cs.drop o).take 1) = some y := by
  obtain ⟨n, y, h1⟩ := field_read ht h hf
  rw [ho, hty, hc] at h1
  exact ⟨n, y, h1⟩
theorem struct_len {P : Program} {t : TypeId} {fs : Array Field} {fuel : Nat} {cs : List Value} {x : DataW H × List MemPlace} (ht : P.underlying t = some (.struct fs)) (h : DataW.trod enc P w base spare held fuel t cs = some x) : cs.length = P.cellsOf t := by
  obtain ⟨_, _, _, _, hl, _⟩ := DataW.trod_struct ht h
  exact hl

theorem int_read {fuel : Nat} {c : Value} {x : DataW H × List MemPlace} (h : DataW.trod enc Try.prog w base spare held fuel 3 [c] = some x) : ∃ n : Int, c = .int .i64 n := by
  obtain ⟨n, e, _⟩ := DataW.trod_int Try.underlying3 h
  cases e
  exact ⟨n, rfl⟩
theorem bool_read {fuel : Nat} {c : Value} {x : DataW H × List MemPlace} (h : DataW.trod enc Try.prog w base spare held fuel 4 [c] = some x) : ∃ b : Bool, c = .bool b := by
  obtain ⟨n, e, _⟩ := DataW.trod_bool Try.underlying4 h
  cases e
  exact ⟨n, rfl⟩

theorem who_cells {fuel : Nat} {cs : List Value} {y : DataW H × List MemPlace} (h : DataW.trod enc Try.prog w base spare held fuel 25 cs = some y) : ∃ x : WhoL, cs = x.cells := by
  have hl := (struct_len Try.underlying25 h).trans cellsWho
  match cs, hl with
  | [c0, c1, c2], _ =>
    obtain ⟨_, _, h0⟩ := cell_read Try.underlying25 h 0 3 0 rfl rfl rfl cellsInt
    obtain ⟨_, _, h1⟩ := cell_read Try.underlying25 h 1 3 1 rfl rfl rfl cellsInt
    obtain ⟨_, _, h2⟩ := cell_read Try.underlying25 h 2 3 2 rfl rfl rfl cellsInt
    obtain ⟨n0, rfl⟩ := int_read h0
    obtain ⟨n1, rfl⟩ := int_read h1
    obtain ⟨n2, rfl⟩ := int_read h2
    exact ⟨⟨n0, n1, n2⟩, rfl⟩

theorem rule_cells {fuel : Nat} {cs : List Value} {y : DataW H × List MemPlace} (h : DataW.trod enc Try.prog w base spare held fuel 27 cs = some y) : ∃ r : RuleL, cs = r.cells := by
  have hl := (struct_len Try.underlying27 h).trans cellsRule
  match cs, hl with
  | [c0, c1, c2, c3, c4, c5], _ =>
    obtain ⟨_, _, h0⟩ := cell_read Try.underlying27 h 0 3 0 rfl rfl rfl cellsInt
    obtain ⟨_, _, h1⟩ := cell_read Try.underlying27 h 1 3 1 rfl rfl rfl cellsInt
    obtain ⟨_, _, h2⟩ := cell_read Try.underlying27 h 2 3 2 rfl rfl rfl cellsInt
    obtain ⟨_, _, h3⟩ := cell_read Try.underlying27 h 3 3 3 rfl rfl rfl cellsInt
    obtain ⟨_, _, h4⟩ := cell_read Try.underlying27 h 4 3 4 rfl rfl rfl cellsInt
    obtain ⟨_, _, h5⟩ := cell_read Try.underlying27 h 5 4 5 rfl rfl rfl cellsBool
    obtain ⟨n0, rfl⟩ := int_read h0
    obtain ⟨n1, rfl⟩ := int_read h1
    obtain ⟨n2, rfl⟩ := int_read h2
    obtain ⟨n3, rfl⟩ := int_read h3
    obtain ⟨n4, rfl⟩ := int_read h4
    obtain ⟨n5, rfl⟩ := bool_read h5
    exact ⟨⟨n0, n1, n2, n3, n4, n5⟩, rfl⟩
end

section
variable {H : Type} {enc : TypeId × Value → H} {w : World} {r : Go.Reach} {b0 : Nat} {v : Value} {d : DataW H} {p : List MemPlace}

theorem open_num (hv : Value.okWide Try.prog w r b0 3 v) (h : DataW.Trod enc Try.prog w 0 (fun _ => true) true 3 v d p) : ∃ n : Int, v = .int .i64 n := by
  obtain ⟨n, rfl, _⟩ := open_int Try.underlying3 hv h
  exact ⟨n, rfl⟩

theorem open_who (hv : Value.okWide Try.prog w r b0 25 v) (h : DataW.Trod enc Try.prog w 0 (fun _ => true) true 25 v d p) : ∃ x : WhoL, v = x.v := by
  obtain ⟨cs, rfl, _⟩ := okWide_struct Try.underlying25 hv
  obtain ⟨fuel, hf⟩ := h
  obtain ⟨x, hx⟩ := who_cells hf
  refine ⟨x, ?_⟩
  have e : cs = x.cells.toArray := Array.toList_inj.1 (by simpa [Value.cells] using hx)
  rw [e]
  rfl

theorem open_rule (hv : Value.okWide Try.prog w r b0 27 v) (h : DataW.Trod enc Try.prog w 0 (fun _ => true) true 27 v d p) : ∃ x : RuleL, v = x.v := by
  obtain ⟨cs, rfl, _⟩ := okWide_struct Try.underlying27 hv
  obtain ⟨fuel, hf⟩ := h
  obtain ⟨x, hx⟩ := rule_cells hf
  refine ⟨x, ?_⟩
  have e : cs = x.cells.toArray := Array.toList_inj.1 (by simpa [Value.cells] using hx)
  rw [e]
  rfl

/-- the elements of a slice that came in, cell by cell: 'q k' tells what is known of element k's cells -/
theorem slice_read {P : Program} {t e : TypeId} {fuel size : Nat} {a : Option Addr} {len cap : Nat} {x : DataW H × List MemPlace} (ht : P.underlying t = some (.slice e)) (hs : P.cellsOf e = size) (hs0 : 0 < size)
    (h : DataW.trod enc P w 0 (fun _ => true) true fuel t [.slice a len cap] = some x) {T : Type} [Inhabited T] (toCells : T → List Value) (hone : ∀ n cs y, DataW.trod enc P w 0 (fun _ => true) true n e cs = some y → ∃ u : T, cs = toCells u) :
    ∃ q : Nat → T, (∀ k, k < len → ∃ b off, a = some ⟨b, off, none⟩ ∧ (toCells (q k)).length = size ∧ ∀ j u, (toCells (q k))[j]? = some u → w.cell? ⟨b, off + k * size + j, none⟩ = some u) ∧ len ≤ cap ∧ cap ≤ maxLen := by
  rcases open_slice ht h with ⟨hcs, _⟩ | ⟨y, l, c, m, n, D, Pl, hcs, _, hl, hm, hmm, _, hi⟩
  · simp only [List.cons.injEq, Value.slice.injEq, and_true] at hcs
    obtain ⟨rfl, rfl, rfl⟩ := hcs
    exact ⟨fun _ => default, fun k hk => absurd hk (Nat.not_lt_zero k), Nat.le_refl _, Nat.zero_le _⟩
  · simp only [List.cons.injEq, Value.slice.injEq, and_true] at hcs
    obtain ⟨rfl, rfl, rfl⟩ := hcs
    rw [hs] at hi
    have hmc : m = cap := by simpa using hmm
    have one : ∀ k, ∃ u : T, k < len → ∃ b off, y = ⟨b, off, none⟩ ∧ (toCells u).length = size ∧ ∀ j v, (toCells u)[j]? = some v → w.cell? ⟨b, off + k * size + j, none⟩ = some v := by
      intro k
      by_cases hk : k < len
      · obtain ⟨c0, g0, _⟩ := hi 0 (by omega)
        obtain ⟨_, _, at0⟩ := World.cells?_some g0
        have first := at0 0 hs0
        simp only [Nat.zero_mul] at first
        obtain ⟨b, off, rfl⟩ : ∃ b off, y = ⟨b, off, none⟩ := by
          have e : y.add 0 = y := by simp [Addr.add]
          rw [e] at first
          cases hc : c0[0]? with
          | none =>
            have := List.getElem?_eq_none_iff.1 hc
            have := (World.cells?_some g0).2.1
            omega
          | some v => exact spot_none (first.trans hc)
        obtain ⟨ck, gk, tk⟩ := hi k (by omega)
        obtain ⟨u, rfl⟩ := hone _ _ _ tk
        obtain ⟨_, hlen, hat⟩ := World.cells?_some gk
        refine ⟨u, fun _ => ⟨b, off, rfl, hlen, fun j v hv => ?_⟩⟩
        have hj : j < size := by
          have := (List.getElem?_eq_some_iff.1 hv).1
          omega
        have := hat j hj
        rw [addr_add, addr_add, hv] at this
        exact this
      · exact ⟨default, fun h => absurd h hk⟩
    obtain ⟨q, hq⟩ := Classical.axiomOfChoice one
    refine ⟨q, fun k hk => ?_, hl, hm⟩
    obtain ⟨b, off, h1, h2⟩ := hq k hk
    exact ⟨b, off, by rw [h1], h2⟩

theorem open_nums (hv : Value.okWide Try.prog w r b0 22 v) (h : DataW.Trod enc Try.prog w 0 (fun _ => true) true 22 v d p) :
    ∃ a len cap z, v = .slice a len cap ∧ Sl w a len z ∧ len ≤ cap ∧ cap ≤ maxLen := by
  obtain ⟨a, len, cap, rfl⟩ := okWide_slice Try.underlying22 hv
  obtain ⟨fuel, hf⟩ := h
  obtain ⟨q, hq, hl, hm⟩ := slice_read Try.underlying22 cellsInt (by omega) hf (fun n : Int => [Value.int .i64 n]) (fun n cs y ht => by
    obtain ⟨k, e, _⟩ := DataW.trod_int Try.underlying3 ht
    exact ⟨k, e⟩)
  refine ⟨a, len, cap, q, rfl, fun k hk => ?_, hl, hm⟩
  obtain ⟨b, off, h1, _, h2⟩ := hq k hk
  have := h2 0 _ rfl
  rw [Nat.mul_one, Nat.add_zero] at this
  exact ⟨b, off, h1, this⟩

instance : Inhabited RuleL := ⟨⟨0, 0, 0, 0, 0, false⟩⟩

theorem open_rules (hv : Value.okWide Try.prog w r b0 23 v) (h : DataW.Trod enc Try.prog w 0 (fun _ => true) true 23 v d p) :
    ∃ a len cap rs, v = .slice a len cap ∧ SlR w a len rs ∧ len ≤ cap ∧ cap ≤ maxLen := by
  obtain ⟨a, len, cap, rfl⟩ := okWide_slice Try.underlying23 hv
  obtain ⟨fuel, hf⟩ := h
  obtain ⟨q, hq, hl, hm⟩ := slice_read Try.underlying23 cellsRule (by omega) hf RuleL.cells (fun n cs y ht => rule_cells ht)
  refine ⟨a, len, cap, q, rfl, fun k hk => ?_, hl, hm⟩
  obtain ⟨b, off, h1, _, h2⟩ := hq k hk
  exact ⟨b, off, h1, h2 0 _ rfl, h2 1 _ rfl, h2 2 _ rfl, h2 3 _ rfl, h2 4 _ rfl, h2 5 _ rfl⟩
end
end Go.Proofs.Ytpjmhajhmkfolaa
