/-
  Helpers: C2Args2.
-/
import Derived.Test.YtpmapdialjdcbaaDoorBunb96cd0f25623
import Derived.Test.YtpmapdialjdcbaaDoorBun500076cf42fb
import Derived.Lib.SmallJoins
import Derived.Deep.Slices
namespace Go.Proofs.YtpmapdialjdcbaaDoor.C2
open Go.ChangeShapes Go.WideShapes Go.ChangeAt Go.RowKit Go.Deep Go.Joins 
set_option maxRecDepth 4000
theorem cellsProg : Tryd.prog.cellsOf 24 = 4 := by kernel_rfl
theorem cellsIns' : Tryd.prog.cellsOf 54 = 4 := by kernel_rfl
theorem cellsFn : Tryd.prog.cellsOf 55 = 1 := by kernel_rfl
theorem int_in {H : Type} {enc : TypeId × Value → H} {W : World} {n : Nat} {v : Value} {y : DataW H × List MemPlace} (h : DataW.trod enc Tryd.prog W 0 (fun _ => true) true n 3 [v] = some y) : ∃ z, v = .int .i64 z := by
  obtain ⟨z, h, -⟩ := DataW.trod_int Tryd.underlying3 h
  simp at h
  exact ⟨z, h⟩
theorem ins_in {H : Type} {enc : TypeId × Value → H} {W : World} {n : Nat} {cs : List Value} {y : DataW H × List MemPlace} (h : DataW.trod enc Tryd.prog W 0 (fun _ => true) true n 54 cs = some y) : ∃ i : In, cs = [.int .i64 i.o, .int .i64 i.a, .int .i64 i.b, .int .i64 i.c] := by
  obtain ⟨y0, y1, y2, y3, n, -, hl, h0, h1, h2, h3⟩ := trod_struct4 Tryd.underlying54 h
  rw [cellsIns'] at hl
  match cs, hl with
  | [c0, c1, c2, c3], _ =>
    simp [cellsInt'] at h0 h1 h2 h3
    obtain ⟨z0, rfl⟩ := int_in h0
    obtain ⟨z1, rfl⟩ := int_in h1
    obtain ⟨z2, rfl⟩ := int_in h2
    obtain ⟨z3, rfl⟩ := int_in h3
    exact ⟨⟨z0, z1, z2, z3⟩, rfl⟩
instance : Inhabited In := ⟨⟨0, 0, 0, 0⟩⟩
theorem list_of {α : Type} [Inhabited α] {n : Nat} {p : Nat → α → Prop} (h : ∀ i, i < n → ∃ x, p i x) : ∃ l : List α, l.length = n ∧ ∀ i (hi : i < l.length), p i l[i] := by
  obtain ⟨f, hf⟩ := choose_lt h
  exact ⟨(List.range n).map f, by simp, fun i hi => by simpa using hf i (by simpa using hi)⟩
theorem code_in {H : Type} {enc : TypeId × Value → H} {W : World} {n : Nat} {v : Value} {y : DataW H × List MemPlace} (h : DataW.trod enc Tryd.prog W 0 (fun _ => true) true n 55 [v] = some y) : ∃ xs : List In, SlI W v xs ∧ xs.length ≤ maxLen := by
  rcases open_slice Tryd.underlying55 h with ⟨h0, -⟩ | ⟨a, len, cap, m, n, D, Pl, h0, -, hl, hm, hmm, -, hx⟩
  · simp at h0
    subst h0
    exact ⟨[], ⟨none, 0, rfl, fun k hk => by simp at hk⟩, by simp⟩
  · simp at h0
    subst h0
    simp at hmm
    rw [cellsIns'] at hx
    have hx2 : ∀ i, i < len → ∃ x : In, ∃ g f, some a = some ⟨g, f, none⟩ ∧ InsAt W g (f + i * 4) x := by
      intro i hi
      obtain ⟨cs, h1, h2⟩ := hx i (by omega)
      obtain ⟨c0, h01, -⟩ := hx 0 (by omega)
      obtain ⟨x, rfl⟩ := ins_in h2
      obtain ⟨-, -, hc⟩ := World.cells?_some h1
      obtain ⟨-, hc0l, hc0⟩ := World.cells?_some h01
      obtain ⟨b, off, spot⟩ := a
      have hspot : spot = none := by
        have h00 := hc0 0 (by omega)
        rw [List.getElem?_eq_getElem (by omega)] at h00
        simpa [Addr.add] using World.cell?_spot h00
      subst hspot
      refine ⟨x, b, off, rfl, ?_⟩
      simp only [Go.WideShapes.add_plain] at hc
      exact ⟨by simpa using hc 0 (by omega), by simpa using hc 1 (by omega), by simpa using hc 2 (by omega), by simpa using hc 3 (by omega)⟩
    obtain ⟨xs, rfl, hxs⟩ := list_of hx2
    exact ⟨xs, ⟨some a, cap, rfl, fun k hk => hxs k hk⟩, by omega⟩
theorem fns_in {H : Type} {enc : TypeId × Value → H} {W : World} {n : Nat} {v : Value} {y : DataW H × List MemPlace} (h : DataW.trod enc Tryd.prog W 0 (fun _ => true) true n 22 [v] = some y) : ∃ fs : List (List In), SlF W v fs ∧ fs.length ≤ maxLen ∧ ∀ f ∈ fs, f.length ≤ maxLen := by
  rcases open_slice1 Tryd.underlying22 cellsFn h with ⟨h0, -⟩ | ⟨a, len, cap, m, n, V, D, Pl, h0, -, hl, hm, hmm, -, hx⟩
  · simp at h0
    subst h0
    exact ⟨[], ⟨none, 0, rfl, fun k hk => by simp at hk⟩, by simp, by simp⟩
  · simp at h0
    subst h0
    simp at hmm
    have hx2 : ∀ i, i < len → ∃ x : List In, (∃ g f u, some a = some ⟨g, f, none⟩ ∧ W.cell? ⟨g, f + i, none⟩ = some u ∧ SlI W u x) ∧ x.length ≤ maxLen := by
      intro i hi
      obtain ⟨h1, h2⟩ := hx i (by omega)
      have h01 := (hx 0 (by omega)).1
      obtain ⟨xs, hxs, hl⟩ := code_in h2
      obtain ⟨b, off, spot⟩ := a
      have hspot : spot = none := by simpa [Addr.add] using World.cell?_spot h01
      subst hspot
      simp only [Go.WideShapes.add_plain] at h1
      exact ⟨xs, ⟨b, off, _, rfl, h1, hxs⟩, hl⟩
    obtain ⟨fs, rfl, hfs⟩ := list_of hx2
    refine ⟨fs, ⟨some a, cap, rfl, fun k hk => (hfs k hk).1⟩, by omega, fun f hf => ?_⟩
    obtain ⟨k, hk, rfl⟩ := List.getElem_of_mem hf
    exact (hfs k hk).2
/-- a program as an argument -/
theorem prog_in {H : Type} {enc : TypeId × Value → H} {W : World} {r : Reach} {b0 : Nat} {v : Value} {d : DataW H} {ps : List MemPlace} (hv : Value.okWide Tryd.prog W r b0 24 v) (h : DataW.Trod enc Tryd.prog W 0 (fun _ => true) true 24 v d ps) :
    ∃ (p : Pr) (fv : Value), v = .agg #[fv, .int .i64 p.futs, .int .i64 p.depth, .int .i64 p.fuel] ∧ SlF W fv p.fs ∧ p.fs.length ≤ maxLen ∧ ∀ f ∈ p.fs, f.length ≤ maxLen := by
  obtain ⟨v0, v1, v2, v3, y0, y1, y2, y3, n, rfl, -, -, h0, h1, h2, h3⟩ := open_agg4 Tryd.underlying24 (by kernel_rfl) cellsProg hv h
  obtain ⟨z1, rfl⟩ := int_in h1
  obtain ⟨z2, rfl⟩ := int_in h2
  obtain ⟨z3, rfl⟩ := int_in h3
  obtain ⟨fs, hF, hl, hm⟩ := fns_in h0
  exact ⟨⟨fs, z1, z2, z3⟩, v0, rfl, hF, hl, hm⟩
def FewPost (p : Pr) (w : World) (e : Ending) (w' : World) : Prop := (∃ r : Bool, e = .returned (.bool r) ∧ (r = true → p.fs.length ≤ 15 ∧ ∀ f ∈ p.fs, f.length ≤ 45)) ∧ Below w.heap.size w w'
set_option maxHeartbeats 1000000 in
theorem few_any (p : Pr) (fv : Value) (w : World) (hF : SlF w fv p.fs) (hl : p.fs.length ≤ maxLen) (hm : ∀ f ∈ p.fs, f.length ≤ maxLen) :
    Calls Tryd.prog 9 #[.agg #[fv, .int .i64 p.futs, .int .i64 p.depth, .int .i64 p.fuel]] w fun e w' => FewPost p w e w' := by
  have hF0 := hF
  obtain ⟨fa, fc, rfl, -⟩ := hF0
  have hB := BoxedP.made hF
  have hb := below_alloc (Below.refl w.heap.size w) (.cells #[.slice fa p.fs.length fc, .int .i64 p.futs, .int .i64 p.depth, .int .i64 p.fuel] 24)
  unfold maxLen at hl hm
  clear hF
  go_enter Tryd.func9, Tryd.ntmps9
  go_wp2_with fail
  generalize hW0 : w.alloc (.cells #[.slice fa p.fs.length fc, .int .i64 p.futs, .int .i64 p.depth, .int .i64 p.fuel] 24) = W0 at *
  clear hW0
  go_loopw [3] (fun iv wr => ∃ i : Nat, i ≤ p.fs.length ∧ i ≤ 15 ∧ iv = .int .i64 i ∧ (∀ k (h : k < p.fs.length), k < i → p.fs[k].length ≤ 45) ∧ Below W0.heap.size W0 wr) (fun iv _ => p.fs.length - (intOf iv).toNat)
  case atStart => exact ⟨0, by omega, by omega, rfl, fun k _ hk => by omega, Below.refl _ _⟩
  case round =>
    obtain ⟨i, hi, hi15, rfl, hk, hBl⟩ := hrel
    have HK : Hid (∀ k (h : k < p.fs.length), k < i → p.fs[k].length ≤ 45) := hk
    clear hk
    have hB5 := hB.kept hBl
    obtain ⟨d0, d1, d2, d3⟩ := hB5.cells
    by_cases hlt : i < p.fs.length
    · by_cases h15 : i < 15
      · obtain ⟨fa', fc', he, hfx⟩ := hB5.fns
        obtain ⟨rfl, rfl⟩ : fa' = fa ∧ fc' = fc := by simp at he; exact ⟨he.1.symm, he.2.symm⟩
        clear he
        obtain ⟨g, f, u, rfl, hc, xa, xc, rfl, hI⟩ := hfx i hlt
        have hmi := hm _ (List.getElem_mem hlt)
        clear hfx hI
        by_cases h45 : 45 < p.fs[i].length
        · go_wp2_with fail
          go_ret
          exact ⟨⟨false, rfl, by simp⟩, below_then hb hBl⟩
        · go_wp2_with fail
          go_roundw
          case rel =>
            refine ⟨i + 1, by omega, by omega, by go_num, fun k h hk => ?_, hBl⟩
            by_cases e : k = i
            · subst e; omega
            · exact HK.out k h (by omega)
          case measure => simp [intOf]; omega
      · go_wp2_with fail
        go_ret
        exact ⟨⟨_, rfl, fun h => by simp at h; omega⟩, below_then hb hBl⟩
    · go_wp2_with fail
      go_ret
      refine ⟨⟨_, rfl, fun h => ⟨by omega, fun f hf => ?_⟩⟩, below_then hb hBl⟩
      obtain ⟨k, hk, rfl⟩ := List.getElem_of_mem hf
      exact HK.out k hk (by omega)
end Go.Proofs.YtpmapdialjdcbaaDoor.C2
