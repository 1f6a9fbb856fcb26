/-
  Helpers: C2Same.
-/
import Derived.Test.YtnhogbgnnnniaaaDoorAsmAllBun8
import Derived.BigRegion
import Derived.Deep.RegionHeld3
namespace Go.Proofs.YtnhogbgnnnniaaaDoor.C2
open Go.RowKit

theorem below_two (w : World) (x y : Obj) : Below w.heap.size w ((w.alloc x).alloc y) := ((Below.refl _ _).alloc (Nat.le_refl _) _).alloc (by simp) _
theorem ext_fs {fs gs : List (List In)} (hl : fs.length = gs.length) (h : ∀ i (h1 : i < fs.length) (h2 : i < gs.length), fs[i] = gs[i]) : fs = gs := List.ext_getElem hl h
theorem In.ext' {x y : In} (h1 : x.o = y.o) (h2 : x.a = y.a) (h3 : x.b = y.b) (h4 : x.c = y.c) : x = y := by
  cases x
  cases y
  simp_all
def boxPr (fv : Value) (p : Pr) : Obj := .cells #[fv, .int .i64 p.futs, .int .i64 p.depth, .int .i64 p.fuel] 24 (0, 0)
theorem first_diff (x y : In) : ((x.o == y.o) = false ∧ (x.o != y.o) = true ∧ ¬ x = y) ∨ ((x.o == y.o) = true ∧ (x.o != y.o) = false ∧ (x.a == y.a) = false ∧ (x.a != y.a) = true ∧ ¬ x = y) ∨ ((x.o == y.o) = true ∧ (x.o != y.o) = false ∧ (x.a == y.a) = true ∧ (x.a != y.a) = false ∧ (x.b == y.b) = false ∧ (x.b != y.b) = true ∧ ¬ x = y) ∨ ((x.o == y.o) = true ∧ (x.o != y.o) = false ∧ (x.a == y.a) = true ∧ (x.a != y.a) = false ∧ (x.b == y.b) = true ∧ (x.b != y.b) = false ∧ (x.c == y.c) = false ∧ (x.c != y.c) = true ∧ ¬ x = y) ∨ ((x.o == y.o) = true ∧ (x.o != y.o) = false ∧ (x.a == y.a) = true ∧ (x.a != y.a) = false ∧ (x.b == y.b) = true ∧ (x.b != y.b) = false ∧ (x.c == y.c) = true ∧ (x.c != y.c) = false ∧ x = y) := by
  by_cases h0 : x.o = y.o
  · by_cases h1 : x.a = y.a
    · by_cases h2 : x.b = y.b
      · by_cases h3 : x.c = y.c
        · exact .inr (.inr (.inr (.inr (by simp [h0, h1, h2, h3]; exact In.ext' h0 h1 h2 h3))))
        · exact .inr (.inr (.inr (.inl (by simp [h0, h1, h2, h3]; intro e; exact h3 (by rw [e])))))
      · exact .inr (.inr (.inl (by simp [h0, h1, h2]; intro e; exact h2 (by rw [e]))))
    · exact .inr (.inl (by simp [h0, h1]; intro e; exact h1 (by rw [e])))
  · exact .inl (by simp [h0]; intro e; exact h0 (by rw [e]))
/-- behind the walk -/
def SamePost (P Q : Pr) (w : World) (e : Ending) (w' : World) : Prop := (∃ r : Bool, e = .returned (.bool r) ∧ (r = true ↔ P = Q)) ∧ Below w.heap.size w w'
theorem same_false {P Q : Pr} {w w' : World} (h : ¬ P = Q) (hb : Below w.heap.size w w') : SamePost P Q w (.returned (.bool false)) w' := ⟨⟨false, rfl, by simp [h]⟩, hb⟩
set_option maxHeartbeats 4000000 in
set_option maxRecDepth 100000 in
theorem same_any (P Q : Pr) (fv gv : Value) (w : World) (hF : SlF w fv P.fs) (hG : SlF w gv Q.fs) (hn : P.fs.length ≤ 1000000) (hm : ∀ f ∈ P.fs, f.length ≤ 1000000) (hn2 : Q.fs.length ≤ 1000000) (hm2 : ∀ f ∈ Q.fs, f.length ≤ 1000000) :
    Calls Tryd.prog 38 #[.agg #[fv, .int .i64 P.futs, .int .i64 P.depth, .int .i64 P.fuel], .agg #[gv, .int .i64 Q.futs, .int .i64 Q.depth, .int .i64 Q.fuel]] w fun e w' => SamePost P Q w e w' := by
  have hb0 := below_two w (.cells #[fv, .int .i64 P.futs, .int .i64 P.depth, .int .i64 P.fuel] 24) (.cells #[gv, .int .i64 Q.futs, .int .i64 Q.depth, .int .i64 Q.fuel] 24)
  have hF1 := hF.still (still_of_below hb0)
  have hG1 := hG.still (still_of_below hb0)
  obtain ⟨fa, fc, rfl, -⟩ := hF
  obtain ⟨ga, gc, rfl, -⟩ := hG
  by_cases h1 : P.futs = Q.futs
  · have t1 : (P.futs == Q.futs) = true := by simp [h1]
    have t1' : (P.futs != Q.futs) = false := by simp [h1]
    by_cases h2 : P.depth = Q.depth
    · have t2 : (P.depth == Q.depth) = true := by simp [h2]
      have t2' : (P.depth != Q.depth) = false := by simp [h2]
      by_cases h3 : P.fuel = Q.fuel
      · have t3 : (P.fuel == Q.fuel) = true := by simp [h3]
        have t3' : (P.fuel != Q.fuel) = false := by simp [h3]
        by_cases h4 : P.fs.length = Q.fs.length
        · have t4 : ((P.fs.length : Int) == (Q.fs.length : Int)) = true := by simp [h4]
          have t4' : ((P.fs.length : Int) != (Q.fs.length : Int)) = false := by simp [h4]
          have H1 : Hid (P.futs = Q.futs ∧ P.depth = Q.depth ∧ P.fuel = Q.fuel ∧ P.fs.length = Q.fs.length) := ⟨h1, h2, h3, h4⟩
          have hle : Q.fs.length ≤ P.fs.length ∧ P.fs.length ≤ Q.fs.length := by omega
          clear h1 h2 h3 h4
          go_enter Tryd.func38, Tryd.ntmps38
          go_wp2_with fail
          go_loopw [5] (fun iv wr => ∃ i : Nat, i ≤ P.fs.length ∧ iv = .int .i64 i ∧ (∀ j (h1 : j < P.fs.length) (h2 : j < Q.fs.length), j < i → P.fs[j] = Q.fs[j]) ∧ Below (w.heap.size + 1 + 1) ((w.alloc (.cells #[.slice fa P.fs.length fc, .int .i64 P.futs, .int .i64 P.depth, .int .i64 P.fuel] 24)).alloc (.cells #[.slice ga Q.fs.length gc, .int .i64 Q.futs, .int .i64 Q.depth, .int .i64 Q.fuel] 24)) wr) (fun iv _ => P.fs.length - (intOf iv).toNat)
          case atStart => exact ⟨0, by omega, rfl, by omega, Below.refl _ _⟩
          case round =>
            obtain ⟨i, hi, rfl, hall, hB⟩ := hrel
            have hB' : Below ((w.alloc (.cells #[.slice fa P.fs.length fc, .int .i64 P.futs, .int .i64 P.depth, .int .i64 P.fuel] 24)).alloc (.cells #[.slice ga Q.fs.length gc, .int .i64 Q.futs, .int .i64 Q.depth, .int .i64 Q.fuel] 24)).heap.size ((w.alloc (.cells #[.slice fa P.fs.length fc, .int .i64 P.futs, .int .i64 P.depth, .int .i64 P.fuel] 24)).alloc (.cells #[.slice ga Q.fs.length gc, .int .i64 Q.futs, .int .i64 Q.depth, .int .i64 Q.fuel] 24)) wr := by simpa using hB
            have a0 : wr.cell? ⟨w.heap.size, 0, none⟩ = some (.slice fa P.fs.length fc) := by rw [hB.cell (by simp; omega)]; simp
            have b0 : wr.cell? ⟨w.heap.size + 1, 0, none⟩ = some (.slice ga Q.fs.length gc) := by rw [hB.cell (by simp)]; simp
            have hFr := hF1.still (still_of_below hB')
            have hGr := hG1.still (still_of_below hB')
            by_cases hlt : i < P.fs.length
            · have hlt2 : i < Q.fs.length := by omega
              obtain ⟨fa', fc', he, hx⟩ := hFr
              obtain ⟨rfl, rfl⟩ : fa' = fa ∧ fc' = fc := by simp at he; exact ⟨he.1.symm, he.2.symm⟩
              clear he
              obtain ⟨ga', gc', he, hy⟩ := hGr
              obtain ⟨rfl, rfl⟩ : ga' = ga ∧ gc' = gc := by simp at he; exact ⟨he.1.symm, he.2.symm⟩
              clear he
              obtain ⟨g1, o1, u1, rfl, c1, xa, xc, rfl, hI⟩ := hx i hlt
              obtain ⟨g2, o2, u2, rfl, c2, ya, yc, rfl, hJ⟩ := hy i hlt2
              have m1 := hm _ (List.getElem_mem hlt)
              have m2 := hm2 _ (List.getElem_mem hlt2)
              clear hx hy
              by_cases h5 : P.fs[i].length = Q.fs[i].length
              · have t5 : ((P.fs[i].length : Int) == (Q.fs[i].length : Int)) = true := by simp [h5]
                have t5' : ((P.fs[i].length : Int) != (Q.fs[i].length : Int)) = false := by simp [h5]
                have H5 : Hid (P.fs[i].length = Q.fs[i].length) := h5
                have h5le : P.fs[i].length ≤ Q.fs[i].length ∧ Q.fs[i].length ≤ P.fs[i].length := by omega
                clear h5
                go_wp2_with fail
                obtain ⟨W, rfl⟩ : ∃ W, W = wr := ⟨wr, rfl⟩
                go_quiet (fail)
                go_wp2_with fail
                go_loopw [6] (fun kv wi => ∃ k : Nat, k ≤ P.fs[i].length ∧ kv = .int .i64 k ∧ (∀ j (h1 : j < P.fs[i].length) (h2 : j < Q.fs[i].length), j < k → P.fs[i][j] = Q.fs[i][j]) ∧ Below W.heap.size W wi) (fun kv _ => P.fs[i].length - (intOf kv).toNat)
                case atStart => exact ⟨0, by omega, rfl, by omega, below_drewN (Below.refl _ _) _⟩
                case round =>
                  obtain ⟨k, hk, rfl, hallk, hBi⟩ := hrel
                  have st := still_of_below hBi
                  have a1 := st _ _ a0
                  have b1 := st _ _ b0
                  have c1' := st _ _ c1
                  have c2' := st _ _ c2
                  have hzr := hBi.size
                  by_cases hkl : k < P.fs[i].length
                  · have hkl2 : k < Q.fs[i].length := by omega
                    obtain ⟨h1, q1, rfl, hA⟩ := hI k hkl
                    obtain ⟨h2, q2, rfl, hC⟩ := hJ k hkl2
                    obtain ⟨x0, x1, x2, x3⟩ := hA.still st
                    obtain ⟨y0, y1, y2, y3⟩ := hC.still st
                    have l1 := block_lt_of_cell a1
                    have l2 := block_lt_of_cell b1
                    have l3 := block_lt_of_cell c1'
                    have l4 := block_lt_of_cell c2'
                    have l5 := block_lt_of_cell x0
                    have l6 := block_lt_of_cell y0
                    simp only at l1 l2 l3 l4 l5 l6
                    go_wp2_with fail
                    go_region_held3 (fun w' => w'.cell? ⟨w.heap.size, 0, none⟩ = some (.slice (some ⟨g1, o1, none⟩) P.fs.length fc') ∧ w'.cell? ⟨w.heap.size + 1, 0, none⟩ = some (.slice (some ⟨g2, o2, none⟩) Q.fs.length gc') ∧ w'.cell? ⟨g1, o1 + i, none⟩ = some (.slice (some ⟨h1, q1, none⟩) P.fs[i].length xc) ∧ w'.cell? ⟨g2, o2 + i, none⟩ = some (.slice (some ⟨h2, q2, none⟩) Q.fs[i].length yc) ∧ w'.cell? ⟨h1, q1 + k * 4, none⟩ = some (.int .i64 P.fs[i][k].o) ∧ w'.cell? ⟨h1, q1 + k * 4 + 1, none⟩ = some (.int .i64 P.fs[i][k].a) ∧ w'.cell? ⟨h1, q1 + k * 4 + 2, none⟩ = some (.int .i64 P.fs[i][k].b) ∧ w'.cell? ⟨h1, q1 + k * 4 + 3, none⟩ = some (.int .i64 P.fs[i][k].c) ∧ w'.cell? ⟨h2, q2 + k * 4, none⟩ = some (.int .i64 Q.fs[i][k].o) ∧ w'.cell? ⟨h2, q2 + k * 4 + 1, none⟩ = some (.int .i64 Q.fs[i][k].a) ∧ w'.cell? ⟨h2, q2 + k * 4 + 2, none⟩ = some (.int .i64 Q.fs[i][k].b) ∧ w'.cell? ⟨h2, q2 + k * 4 + 3, none⟩ = some (.int .i64 Q.fs[i][k].c)) (go_keep) (fail)
                    all_goals
                      rcases first_diff P.fs[i][k] Q.fs[i][k] with ⟨e0, e0', hd⟩ | ⟨e0, e0', e1, e1', hd⟩ | ⟨e0, e0', e1, e1', e2, e2', hd⟩ | ⟨e0, e0', e1, e1', e2, e2', e3, e3', hd⟩ | ⟨e0, e0', e1, e1', e2, e2', e3, e3', hd⟩
                      · have HN : Hid (¬ P = Q) := fun e => hd (by subst e; rfl)
                        clear hd
                        go_wp2_with fail
                        go_ret
                        exact same_false HN.out ((hb0.trans (hB.mono (by omega))).trans (Below.mono (((hBi.alloc hBi.size _).alloc (by simp; omega) _).drew) (by have := hB'.size; simp at this; omega)))
                      · have HN : Hid (¬ P = Q) := fun e => hd (by subst e; rfl)
                        clear hd
                        go_wp2_with fail
                        go_ret
                        exact same_false HN.out ((hb0.trans (hB.mono (by omega))).trans (Below.mono (((hBi.alloc hBi.size _).alloc (by simp; omega) _).drew) (by have := hB'.size; simp at this; omega)))
                      · have HN : Hid (¬ P = Q) := fun e => hd (by subst e; rfl)
                        clear hd
                        go_wp2_with fail
                        go_ret
                        exact same_false HN.out ((hb0.trans (hB.mono (by omega))).trans (Below.mono (((hBi.alloc hBi.size _).alloc (by simp; omega) _).drew) (by have := hB'.size; simp at this; omega)))
                      · have HN : Hid (¬ P = Q) := fun e => hd (by subst e; rfl)
                        clear hd
                        go_wp2_with fail
                        go_ret
                        exact same_false HN.out ((hb0.trans (hB.mono (by omega))).trans (Below.mono (((hBi.alloc hBi.size _).alloc (by simp; omega) _).drew) (by have := hB'.size; simp at this; omega)))
                      · have HE : Hid (P.fs[i][k] = Q.fs[i][k]) := hd
                        clear hd
                        go_wp2_with fail
                        go_roundw
                        case rel => exact ⟨k + 1, by omega, by go_num, fun j h1 h2 hj => by rcases (by omega : j < k ∨ j = k) with h' | rfl; exact hallk j h1 h2 h'; exact HE.out, ((hBi.alloc hBi.size _).alloc (by simp; omega) _).drew⟩
                        case measure => simp [intOf]; omega
                  · have hfe : P.fs[i] = Q.fs[i] := List.ext_getElem H5.out fun j h1 h2 => hallk j h1 h2 (by omega)
                    have HFE : Hid (P.fs[i] = Q.fs[i]) := hfe
                    clear hfe
                    go_wp2_with fail
                    go_roundw
                    case rel => exact ⟨i + 1, by omega, by go_num, fun j h1 h2 hj => by rcases (by omega : j < i ∨ j = i) with h' | rfl; exact hall j h1 h2 h'; exact HFE.out, hB.trans (hBi.mono (by have := hB'.size; simp at this; omega))⟩
                    case measure => simp [intOf]; omega
              · have t5 : ((P.fs[i].length : Int) == (Q.fs[i].length : Int)) = false := by simp; omega
                have t5' : ((P.fs[i].length : Int) != (Q.fs[i].length : Int)) = true := by simp; omega
                have HN : Hid (¬ P = Q) := fun e => h5 (by subst e; rfl)
                clear h5
                go_wp2_with fail
                go_quiet (fail)
                go_wp2_with fail
                go_ret
                exact same_false HN.out (below_drewN (hb0.trans (hB.mono (by omega))) _)
            · have hPQ : P = Q := by
                obtain ⟨h1, h2, h3, h4⟩ := H1.out
                have := ext_fs h4 fun j h1 h2 => hall j h1 h2 (by omega)
                cases P
                cases Q
                simp_all
              have HPQ : Hid (P = Q) := hPQ
              clear hPQ
              go_wp2_with fail
              go_ret
              exact ⟨⟨true, rfl, by simp [HPQ.out]⟩, hb0.trans (hB.mono (by omega))⟩
        · have t4 : ((P.fs.length : Int) == (Q.fs.length : Int)) = false := by simp; omega
          have t4' : ((P.fs.length : Int) != (Q.fs.length : Int)) = true := by simp; omega
          have HN : Hid (¬ P = Q) := fun e => h4 (by rw [e])
          clear h1 h2 h3 h4
          go_enter Tryd.func38, Tryd.ntmps38
          go_wp2_with fail
          go_ret
          exact same_false HN.out hb0
      · have t3 : (P.fuel == Q.fuel) = false := by simp [h3]
        have t3' : (P.fuel != Q.fuel) = true := by simp [h3]
        have HN : Hid (¬ P = Q) := fun e => h3 (by rw [e])
        clear h1 h2 h3
        go_enter Tryd.func38, Tryd.ntmps38
        go_wp2_with fail
        go_ret
        exact same_false HN.out hb0
    · have t2 : (P.depth == Q.depth) = false := by simp [h2]
      have t2' : (P.depth != Q.depth) = true := by simp [h2]
      have HN : Hid (¬ P = Q) := fun e => h2 (by rw [e])
      clear h1 h2
      go_enter Tryd.func38, Tryd.ntmps38
      go_wp2_with fail
      go_ret
      exact same_false HN.out hb0
  · have t1 : (P.futs == Q.futs) = false := by simp [h1]
    have t1' : (P.futs != Q.futs) = true := by simp [h1]
    have HN : Hid (¬ P = Q) := fun e => h1 (by rw [e])
    clear h1
    go_enter Tryd.func38, Tryd.ntmps38
    go_wp2_with fail
    go_ret
    exact same_false HN.out hb0
end Go.Proofs.YtnhogbgnnnniaaaDoor.C2
