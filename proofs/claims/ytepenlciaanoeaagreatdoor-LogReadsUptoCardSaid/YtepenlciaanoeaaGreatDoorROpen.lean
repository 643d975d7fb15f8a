/- Arguments opened to cells: strings, numbers, fields, records, lists of fields. -/
import Derived.Test.YtepenlciaanoeaaGreatDoorRMem
import Derived.Deep.Slices
import Derived.ChangeSame
import Derived.OpenShut
set_option linter.unusedVariables false
set_option linter.unusedSimpArgs false
set_option maxRecDepth 100000
namespace Go.Proofs.YtepenlciaanoeaaGreatDoor
open Go.RowKit Go.ChangeShapes Go.WideShapes Go.Deep

theorem addr_add (b off k : Nat) : (⟨b, off, none⟩ : Addr).add k = ⟨b, off + k, none⟩ := by unfold Addr.add; split <;> simp_all

theorem spot_none {w : World} {x : Addr} {v : Value} (h : w.cell? (x.add 0) = some v) : ∃ b off, x = ⟨b, off, none⟩ := by
  obtain ⟨b, off, spot⟩ := x
  have hs : spot = none := by simpa [Addr.add] using World.cell?_spot h
  subst hs
  exact ⟨b, off, rfl⟩

theorem cellsInt : Tryz.prog.cellsOf 3 = 1 := by kernel_rfl
theorem cellsStr : Tryz.prog.cellsOf 9 = 1 := by kernel_rfl
theorem cellsField : Tryz.prog.cellsOf 41 = 2 := by kernel_rfl
theorem cellsRec : Tryz.prog.cellsOf 39 = 4 := by kernel_rfl
theorem cellsFs : Tryz.prog.cellsOf 37 = 1 := by kernel_rfl
theorem cellsSs : Tryz.prog.cellsOf 29 = 1 := by kernel_rfl

section
variable {H : Type} {enc : TypeId × Value → H} {w : World} {base : Nat} {spare : Nat → Bool} {held : Bool}

/-- the reading of one field of a struct -/
theorem field_read {P : Program} {t : TypeId} {fs : Array Field} {fuel : Nat} {cs : List Value} {x : DataW H × List MemPlace} (ht : P.underlying t = some (.struct fs)) (h : DataW.trod enc P w base spare held fuel t cs = some x)
    {i : Nat} {f : Field} (hf : fs[i]? = some f) : ∃ n y, DataW.trod enc P w base spare held n f.type ((cs.drop f.offset).take (P.cellsOf f.type)) = some y := by
  obtain ⟨xs, n, _, _, _, hlen, hg⟩ := DataW.trod_struct ht h
  have hi : i < xs.length := by rw [hlen]; exact (Array.getElem?_eq_some_iff.1 hf).1
  exact ⟨n, _, (hg i f hf).trans (List.getElem?_eq_getElem hi)⟩
theorem cell_read {P : Program} {t : TypeId} {fs : Array Field} {fuel : Nat} {cs : List Value} {x : DataW H × List MemPlace} (ht : P.underlying t = some (.struct fs)) (h : DataW.trod enc P w base spare held fuel t cs = some x)
    (i : Nat) {f : Field} (ty o : Nat) (hf : fs[i]? = some f) (hty : f.type = ty) (ho : f.offset = o) (hc : P.cellsOf ty = 1) : ∃ n y, DataW.trod enc P w base spare held n ty ((cs.drop o).take 1) = some y := by
  obtain ⟨n, y, h1⟩ := field_read ht h hf
  rw [ho, hty, hc] at h1
  exact ⟨n, y, h1⟩
theorem struct_len {P : Program} {t : TypeId} {fs : Array Field} {fuel : Nat} {cs : List Value} {x : DataW H × List MemPlace} (ht : P.underlying t = some (.struct fs)) (h : DataW.trod enc P w base spare held fuel t cs = some x) : cs.length = P.cellsOf t := by
  obtain ⟨_, _, _, _, hl, _⟩ := DataW.trod_struct ht h
  exact hl

theorem int_read {fuel : Nat} {c : Value} {x : DataW H × List MemPlace} (h : DataW.trod enc Tryz.prog w base spare held fuel 3 [c] = some x) : ∃ n : Int, c = .int .i64 n := by
  obtain ⟨n, e, _⟩ := DataW.trod_int Tryz.underlying3 h
  cases e
  exact ⟨n, rfl⟩
theorem str_read {fuel : Nat} {c : Value} {x : DataW H × List MemPlace} (h : DataW.trod enc Tryz.prog w base spare held fuel 9 [c] = some x) : ∃ s : ByteArray, c = .string s ∧ s.size ≤ maxLen := by
  obtain ⟨n, e, _, hm⟩ := DataW.trod_string Tryz.underlying9 h
  cases e
  exact ⟨n, rfl, hm⟩


theorem field_cells {fuel : Nat} {cs : List Value} {y : DataW H × List MemPlace} (h : DataW.trod enc Tryz.prog w base spare held fuel 41 cs = some y) : ∃ f : FieldL, cs = f.cells ∧ f.short := by
  have hl := (struct_len Tryz.underlying41 h).trans cellsField
  match cs, hl with
  | [c0, c1], _ =>
    obtain ⟨_, _, h0⟩ := cell_read Tryz.underlying41 h 0 9 0 rfl rfl rfl cellsStr
    obtain ⟨_, _, h1⟩ := cell_read Tryz.underlying41 h 1 9 1 rfl rfl rfl cellsStr
    obtain ⟨n0, rfl, m0⟩ := str_read h0
    obtain ⟨n1, rfl, m1⟩ := str_read h1
    exact ⟨⟨n0, n1⟩, rfl, m0, m1⟩
end

section
variable {H : Type} {enc : TypeId × Value → H} {w : World} {r : Go.Reach} {b0 : Nat} {v : Value} {d : DataW H} {p : List MemPlace}

theorem open_num (hv : Value.okWide Tryz.prog w r b0 3 v) (h : DataW.Trod enc Tryz.prog w 0 (fun _ => true) true 3 v d p) : ∃ n : Int, v = .int .i64 n := by
  obtain ⟨n, rfl, _⟩ := open_int Tryz.underlying3 hv h
  exact ⟨n, rfl⟩

theorem open_str (hv : Value.okWide Tryz.prog w r b0 9 v) (h : DataW.Trod enc Tryz.prog w 0 (fun _ => true) true 9 v d p) : ∃ s : ByteArray, v = .string s ∧ s.size ≤ maxLen := by
  obtain ⟨s, rfl, _, _, hs⟩ := Go.ChangeMaps.open_string Tryz.underlying9 hv h
  exact ⟨s, rfl, hs⟩

theorem open_field (hv : Value.okWide Tryz.prog w r b0 41 v) (h : DataW.Trod enc Tryz.prog w 0 (fun _ => true) true 41 v d p) : ∃ f : FieldL, v = f.v ∧ f.short := by
  obtain ⟨cs, rfl, _⟩ := okWide_struct Tryz.underlying41 hv
  obtain ⟨fuel, hf⟩ := h
  obtain ⟨x, hx, hs⟩ := field_cells hf
  refine ⟨x, ?_, hs⟩
  have e : cs = x.cells.toArray := Array.toList_inj.1 (by simpa [Value.cells] using hx)
  rw [e]
  rfl

/-- the elements of a slice that came in, cell by cell: 'q k' tells what is known of element k's cells -/
theorem slice_read {P : Program} {t e : TypeId} {fuel size : Nat} {a : Option Addr} {len cap : Nat} {x : DataW H × List MemPlace} (ht : P.underlying t = some (.slice e)) (hs : P.cellsOf e = size) (hs0 : 0 < size)
    (h : DataW.trod enc P w 0 (fun _ => true) true fuel t [.slice a len cap] = some x) {T : Type} [Inhabited T] (toCells : T → List Value) (hone : ∀ n cs y, DataW.trod enc P w 0 (fun _ => true) true n e cs = some y → ∃ u : T, cs = toCells u) :
    ∃ q : Nat → T, (∀ k, k < len → ∃ b off, a = some ⟨b, off, none⟩ ∧ (toCells (q k)).length = size ∧ ∀ j u, (toCells (q k))[j]? = some u → w.cell? ⟨b, off + k * size + j, none⟩ = some u) ∧ len ≤ cap ∧ cap ≤ maxLen := by
  rcases open_slice ht h with ⟨hcs, _⟩ | ⟨y, l, c, m, n, D, Pl, hcs, _, hl, hm, hmm, _, hi⟩
  · simp only [List.cons.injEq, Value.slice.injEq, and_true] at hcs
    obtain ⟨rfl, rfl, rfl⟩ := hcs
    exact ⟨fun _ => default, fun k hk => absurd hk (Nat.not_lt_zero k), Nat.le_refl _, Nat.zero_le _⟩
  · simp only [List.cons.injEq, Value.slice.injEq, and_true] at hcs
    obtain ⟨rfl, rfl, rfl⟩ := hcs
    rw [hs] at hi
    have hmc : m = cap := by simpa using hmm
    have one : ∀ k, ∃ u : T, k < len → ∃ b off, y = ⟨b, off, none⟩ ∧ (toCells u).length = size ∧ ∀ j v, (toCells u)[j]? = some v → w.cell? ⟨b, off + k * size + j, none⟩ = some v := by
      intro k
      by_cases hk : k < len
      · obtain ⟨c0, g0, _⟩ := hi 0 (by omega)
        obtain ⟨_, _, at0⟩ := World.cells?_some g0
        have first := at0 0 hs0
        simp only [Nat.zero_mul] at first
        obtain ⟨b, off, rfl⟩ : ∃ b off, y = ⟨b, off, none⟩ := by
          have e : y.add 0 = y := by simp [Addr.add]
          rw [e] at first
          cases hc : c0[0]? with
          | none =>
            have := List.getElem?_eq_none_iff.1 hc
            have := (World.cells?_some g0).2.1
            omega
          | some v => exact spot_none (first.trans hc)
        obtain ⟨ck, gk, tk⟩ := hi k (by omega)
        obtain ⟨u, rfl⟩ := hone _ _ _ tk
        obtain ⟨_, hlen, hat⟩ := World.cells?_some gk
        refine ⟨u, fun _ => ⟨b, off, rfl, hlen, fun j v hv => ?_⟩⟩
        have hj : j < size := by
          have := (List.getElem?_eq_some_iff.1 hv).1
          omega
        have := hat j hj
        rw [addr_add, addr_add, hv] at this
        exact this
      · exact ⟨default, fun h => absurd h hk⟩
    obtain ⟨q, hq⟩ := Classical.axiomOfChoice one
    refine ⟨q, fun k hk => ?_, hl, hm⟩
    obtain ⟨b, off, h1, h2⟩ := hq k hk
    exact ⟨b, off, by rw [h1], h2⟩


instance : Inhabited { f : FieldL // f.short } := ⟨⟨⟨⟨#[]⟩, ⟨#[]⟩⟩, Nat.zero_le _, Nat.zero_le _⟩⟩
instance : Inhabited { s : ByteArray // s.size ≤ maxLen } := ⟨⟨⟨#[]⟩, Nat.zero_le _⟩⟩

theorem fields_read {fuel : Nat} {c : Value} {x : DataW H × List MemPlace} (h : DataW.trod enc Tryz.prog w 0 (fun _ => true) true fuel 37 [c] = some x) :
    ∃ a cap fs, c = .slice a (List.length fs) cap ∧ SlF w a fs ∧ fs.length ≤ cap ∧ cap ≤ maxLen ∧ ∀ f ∈ fs, f.short := by
  obtain ⟨a, len, cap, rfl⟩ : ∃ a len cap, c = .slice a len cap := by
    rcases open_slice Tryz.underlying37 h with ⟨hcs, _⟩ | ⟨y, l, k, m, n, D, Pl, hcs, _⟩
    · exact ⟨_, _, _, (List.cons.inj hcs).1⟩
    · exact ⟨_, _, _, (List.cons.inj hcs).1⟩
  obtain ⟨q, hq, hl, hm⟩ := slice_read Tryz.underlying37 cellsField (by omega) h (fun f : { f : FieldL // f.short } => f.1.cells) (fun n cs y ht => by
    obtain ⟨f, hf, hs⟩ := field_cells ht
    exact ⟨⟨f, hs⟩, hf⟩)
  refine ⟨a, cap, (List.range len).map (fun k => (q k).1), by simp, fun k f hf => ?_, by simpa using hl, hm, fun f hf => ?_⟩
  · have hk : k < len := by simpa using (List.getElem?_eq_some_iff.1 hf).1
    have e : f = (q k).1 := by
      rw [List.getElem?_map, List.getElem?_range hk] at hf
      exact (Option.some.inj hf).symm
    subst e
    obtain ⟨b, off, h1, _, h2⟩ := hq k hk
    exact ⟨b, off, h1, h2 0 _ rfl, h2 1 _ rfl⟩
  · obtain ⟨k, _, rfl⟩ := List.mem_map.1 hf
    exact (q k).2
theorem strs_read {fuel : Nat} {c : Value} {x : DataW H × List MemPlace} (h : DataW.trod enc Tryz.prog w 0 (fun _ => true) true fuel 29 [c] = some x) :
    ∃ a cap rs, c = .slice a (List.length rs) cap ∧ SlS w a rs ∧ rs.length ≤ cap ∧ cap ≤ maxLen ∧ ∀ s ∈ rs, s.size ≤ maxLen := by
  obtain ⟨a, len, cap, rfl⟩ : ∃ a len cap, c = .slice a len cap := by
    rcases open_slice Tryz.underlying29 h with ⟨hcs, _⟩ | ⟨y, l, k, m, n, D, Pl, hcs, _⟩
    · exact ⟨_, _, _, (List.cons.inj hcs).1⟩
    · exact ⟨_, _, _, (List.cons.inj hcs).1⟩
  obtain ⟨q, hq, hl, hm⟩ := slice_read Tryz.underlying29 cellsStr (by omega) h (fun s : { s : ByteArray // s.size ≤ maxLen } => [Value.string s.1]) (fun n cs y ht => by
    obtain ⟨k, e, _, hs⟩ := DataW.trod_string Tryz.underlying9 ht
    exact ⟨⟨k, hs⟩, e⟩)
  refine ⟨a, cap, (List.range len).map (fun k => (q k).1), by simp, fun k s hf => ?_, by simpa using hl, hm, fun f hf => ?_⟩
  · have hk : k < len := by simpa using (List.getElem?_eq_some_iff.1 hf).1
    have e : s = (q k).1 := by
      rw [List.getElem?_map, List.getElem?_range hk] at hf
      exact (Option.some.inj hf).symm
    subst e
    obtain ⟨b, off, h1, _, h2⟩ := hq k hk
    have := h2 0 _ rfl
    rw [Nat.mul_one, Nat.add_zero] at this
    exact ⟨b, off, h1, this⟩
  · obtain ⟨k, _, rfl⟩ := List.mem_map.1 hf
    exact (q k).2

theorem rec_cells {fuel : Nat} {cs : List Value} {y : DataW H × List MemPlace} (h : DataW.trod enc Tryz.prog w 0 (fun _ => true) true fuel 39 cs = some y) :
    ∃ (r : RecL) (p : At), cs = [.string r.id, .int .i64 r.cats, .slice p.fa r.fs.length p.fc, .slice p.ra r.rs.length p.rc] ∧ r.in_ p w ∧ r.short := by
  have hl := (struct_len Tryz.underlying39 h).trans cellsRec
  match cs, hl with
  | [c0, c1, c2, c3], _ =>
    obtain ⟨_, _, h0⟩ := cell_read Tryz.underlying39 h 0 9 0 rfl rfl rfl cellsStr
    obtain ⟨_, _, h1⟩ := cell_read Tryz.underlying39 h 1 3 1 rfl rfl rfl cellsInt
    obtain ⟨_, _, h2⟩ := cell_read Tryz.underlying39 h 2 37 2 rfl rfl rfl cellsFs
    obtain ⟨_, _, h3⟩ := cell_read Tryz.underlying39 h 3 29 3 rfl rfl rfl cellsSs
    obtain ⟨n0, rfl, m0⟩ := str_read h0
    obtain ⟨n1, rfl⟩ := int_read h1
    obtain ⟨fa, fc, fs, rfl, f1, f2, f3, f4⟩ := fields_read h2
    obtain ⟨ra, rc, rs, rfl, r1, r2, r3, r4⟩ := strs_read h3
    exact ⟨⟨n0, n1, fs, rs⟩, ⟨fa, fc, ra, rc⟩, rfl, ⟨f1, r1, f2, r2, f3, r3⟩, ⟨m0, f4, r4⟩⟩

theorem open_rec (hv : Value.okWide Tryz.prog w r b0 39 v) (h : DataW.Trod enc Tryz.prog w 0 (fun _ => true) true 39 v d p) : ∃ (x : RecL) (q : At), v = x.v q ∧ x.in_ q w ∧ x.short := by
  obtain ⟨cs, rfl, _⟩ := okWide_struct Tryz.underlying39 hv
  obtain ⟨fuel, hf⟩ := h
  obtain ⟨x, q, hx, hi, hs⟩ := rec_cells hf
  refine ⟨x, q, ?_, hi, hs⟩
  have e : cs = #[.string x.id, .int .i64 x.cats, .slice q.fa x.fs.length q.fc, .slice q.ra x.rs.length q.rc] := Array.toList_inj.1 (by simpa [Value.cells] using hx)
  rw [e]

theorem open_fields (hv : Value.okWide Tryz.prog w r b0 37 v) (h : DataW.Trod enc Tryz.prog w 0 (fun _ => true) true 37 v d p) :
    ∃ a cap fs, v = .slice a (List.length fs) cap ∧ SlF w a fs ∧ fs.length ≤ cap ∧ cap ≤ maxLen ∧ ∀ f ∈ fs, f.short := by
  obtain ⟨a, len, cap, rfl⟩ := okWide_slice Tryz.underlying37 hv
  obtain ⟨fuel, hf⟩ := h
  exact fields_read hf
end
end Go.Proofs.YtepenlciaanoeaaGreatDoor
