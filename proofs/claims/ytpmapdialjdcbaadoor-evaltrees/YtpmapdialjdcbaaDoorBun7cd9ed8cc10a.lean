/-
  Helpers: EvTc, EvTd.
-/
import Derived.Test.YtpmapdialjdcbaaDoorBun451162f6da3b
namespace Go.Proofs.YtpmapdialjdcbaaDoor
open Go.RowKit
open C2 (In Pr SlF SlI InsAt Tab BoxedP still_of_below below_then below_alloc Still)
open K6 (Ky)
open V5 (checkF SlN)

theorem tree_code {w d : Nat} {m : Int} (h1 : 1 ≤ w) (h3 : w ≤ 3) (d1 : 1 ≤ d) (d3 : d ≤ 3) (m0 : 0 ≤ m) (m2 : m ≤ 2) : checkF (treeP w d m) = 0 := by
  rcases wide_cases h1 h3 with rfl | rfl | rfl <;> rcases wide_cases d1 d3 with rfl | rfl | rfl <;> rcases (by omega : m = 0 ∨ m = 1 ∨ m = 2) with rfl | rfl | rfl <;> decide +kernel
def treeZ (w : Nat) (m : Int) : Pg7 := ⟨[treeF w m 1], 0, 0, 100⟩
theorem tree_bare {w : Nat} {m : Int} (h1 : 1 ≤ w) (h3 : w ≤ 3) (m0 : 0 ≤ m) (m2 : m ≤ 2) : checkF (treeZ w m) = 5 := by
  rcases wide_cases h1 h3 with rfl | rfl | rfl <;> rcases (by omega : m = 0 ∨ m = 1 ∨ m = 2) with rfl | rfl | rfl <;> decide +kernel
theorem takes_bd {w d : Nat} (h1 : 1 ≤ w) (h3 : w ≤ 3) (d3 : d ≤ 3) : takes w d ≤ 5000 := by
  rcases wide_cases h1 h3 with rfl | rfl | rfl <;> rcases (by omega : d = 0 ∨ d = 1 ∨ d = 2 ∨ d = 3) with rfl | rfl | rfl | rfl <;> decide
theorem tree_ev {w d : Nat} {m a : Int} (h1 : 1 ≤ w) (h3 : w ≤ 3) (d3 : d ≤ 3) (m0 : 0 ≤ m) (m2 : m ≤ 2) (a0 : 0 ≤ a) (a9 : a ≤ 99) :
    (ev0 (treeP w d m) 5000 a).1.over = false ∧ (ev0 (treeP w d m) 5000 a).2.e = ⟨1, gives w m d a⟩ ∧ (ev0 (treeP w d m) 5000 a).1.forks = many w d ∧ (ran0 (treeP w d m) 5000 a).length = many w d + 1 := by
  have hb : (99 : Int) * 7 ^ d ≤ 1000000 := by rcases (by omega : d = 0 ∨ d = 1 ∨ d = 2 ∨ d = 3) with rfl | rfl | rfl | rfl <;> decide
  have hl := tree_lvl (M := 5000) h1 h3 d3 m0 m2 d 0 a 99 (by omega) a0 a9 hb
  obtain ⟨r', t', e, he, hf⟩ := hl (rs0 (treeP w d m)) K6.root K6.root_ok rfl rfl (by have := takes_bd h1 h3 d3; show 0 + takes w d ≤ 5000; omega)
  have e2 : ev0 (treeP w d m) 5000 a = (r', t') := e
  have ho : (ev0 (treeP w d m) 5000 a).1.over = false := by rw [e2]; exact hf.over
  have hk := run_ok (p := treeP w d m) (by show (d : Int) ≤ 5; omega) 5000 a ho
  have hfk : (ev0 (treeP w d m) 5000 a).1.forks = many w d := by rw [e2]; have := hf.forks; show r'.forks = _; rw [this]; show 0 + _ = _; omega
  refine ⟨ho, by rw [e2]; exact he, hfk, ?_⟩
  have := hk.len
  show (putR _ _).length = _
  rw [this]
  show (ev0 (treeP w d m) 5000 a).1.forks + 1 = _
  rw [hfk]
/-- Run of a tree -/
theorem tree_run {w d : Nat} {m a : Int} (h1 : 1 ≤ w) (h3 : w ≤ 3) (d1 : 1 ≤ d) (d3 : d ≤ 3) (m0 : 0 ≤ m) (m2 : m ≤ 2) (a0 : 0 ≤ a) (a9 : a ≤ 99) (fv : Value) (W : World) (hT : Tab W) (hF : SlF W fv (fsT w d m (d + 1))) :
    Calls Tryd.prog 12 #[.agg #[fv, .int .i64 0, .int .i64 d, .int .i64 100], .int .i64 a, .int .i64 5000] W fun e w' => ∃ ra rc ua un uc sa sn sc, ∃ st : Int, e = .returned (.tuple #[.agg #[.int .i64 1, .int .i64 (gives w m d a), .slice ra (many w d + 1) rc, .slice ua un uc, .slice sa sn sc, .int .i64 st, .int .i64 (many w d), .bool false], .int .i64 0]) ∧ Below W.heap.size W w' := by
  obtain ⟨o1, o2, o3, o4⟩ := tree_ev (d := d) h1 h3 d3 m0 m2 a0 a9
  rw [fsT_tree d1] at hF
  have hlen : (treeP w d m).fs.length ≤ 1000000 := by simp [treeP]; omega
  have hmem : ∀ f ∈ (treeP w d m).fs, f.length ≤ 1000000 := by
    intro f hf
    simp only [treeP, List.mem_append, List.mem_map, List.mem_singleton] at hf
    rcases hf with ⟨j, -, rfl⟩ | rfl
    · rw [treeF_len]; omega
    · simp
  refine (Run_any (treeP w d m) fv a 5000 W hT hF hlen hmem).mono ?_
  intro e w' hq
  obtain ⟨ra, rc, ua, uc, sa, sc, he, hb, -, -, -⟩ := hq.good (M := 5000) (by decide) (tree_code h1 h3 d1 d3 m0 m2) o1
  rw [o2, o3, o4] at he
  exact ⟨ra, rc, ua, _, uc, sa, _, sc, _, he, hb⟩
theorem bare_run {w : Nat} {m a : Int} (h1 : 1 ≤ w) (h3 : w ≤ 3) (m0 : 0 ≤ m) (m2 : m ≤ 2) (fv : Value) (W : World) (hT : Tab W) (hF : SlF W fv (fsT w 0 m 1)) :
    Calls Tryd.prog 12 #[.agg #[fv, .int .i64 0, .int .i64 0, .int .i64 100], .int .i64 a, .int .i64 5000] W fun e w' => e = .returned (.tuple #[.agg #[.int .i64 0, .int .i64 0, .slice none 0 0, .slice none 0 0, .slice none 0 0, .int .i64 0, .int .i64 0, .bool false], .int .i64 5]) ∧ Below W.heap.size W w' := by
  rw [fsT_one] at hF
  have hc := tree_bare h1 h3 m0 m2
  refine (Run_any (treeZ w m) fv a 5000 W hT hF (by simp [treeZ]) (by intro f hf; simp [treeZ] at hf; subst hf; rw [treeF_len]; omega)).mono ?_
  rintro e w' ⟨hb, h | h | h⟩
  · obtain ⟨-, h⟩ := h
    rw [hc] at h
    exact ⟨h, hb⟩
  · rw [hc] at h; exact absurd h.1 (by decide)
  · rw [hc] at h; exact absurd h.1 (by decide)
/-- the law's own sum -/
def xF (m a : Int) : Nat → Int
  | 0 => a
  | i + 1 => xF m a i * m
def nF (w : Int) : Nat → Int
  | 0 => 1
  | i + 1 => nF w i * w
def wtF (w m a : Int) : Nat → Int
  | 0 => a
  | i + 1 => wtF w m a i + nF w (i + 1) * xF m a (i + 1)
def tkF (w : Int) : Nat → Int
  | 0 => 1
  | i + 1 => tkF w i + nF w (i + 1)
theorem sum_bd {k i : Nat} {m a : Int} (h3 : k < 3) (i3 : i ≤ 3) (m0 : 0 ≤ m) (m2 : m ≤ 2) (a0 : 0 ≤ a) (a9 : a ≤ 99) : 0 ≤ xF m a i ∧ xF m a i ≤ 1000 ∧ 1 ≤ nF (1 + (k : Int)) i ∧ nF (1 + (k : Int)) i ≤ 100 ∧ 0 ≤ nF (1 + (k : Int)) i * xF m a i ∧ nF (1 + (k : Int)) i * xF m a i ≤ 100000 ∧ 0 ≤ wtF (1 + (k : Int)) m a i ∧ wtF (1 + (k : Int)) m a i ≤ 1000000 ∧ 1 ≤ tkF (1 + (k : Int)) i ∧ tkF (1 + (k : Int)) i ≤ 1000 := by
  rcases (by omega : k = 0 ∨ k = 1 ∨ k = 2) with rfl | rfl | rfl <;> rcases (by omega : i = 0 ∨ i = 1 ∨ i = 2 ∨ i = 3) with rfl | rfl | rfl | rfl <;> rcases (by omega : m = 0 ∨ m = 1 ∨ m = 2) with rfl | rfl | rfl <;> simp [xF, nF, wtF, tkF] <;> omega
theorem sum_ok {k d : Nat} {m a : Int} (h3 : k < 3) (i3 : d ≤ 3) (m0 : 0 ≤ m) (m2 : m ≤ 2) : gives (k + 1) m d a = wtF (1 + (k : Int)) m a d ∧ ((many (k + 1) d : Nat) : Int) + 1 = tkF (1 + (k : Int)) d := by
  rcases (by omega : k = 0 ∨ k = 1 ∨ k = 2) with rfl | rfl | rfl <;> rcases (by omega : d = 0 ∨ d = 1 ∨ d = 2 ∨ d = 3) with rfl | rfl | rfl | rfl <;> rcases (by omega : m = 0 ∨ m = 1 ∨ m = 2) with rfl | rfl | rfl <;> simp [xF, nF, wtF, tkF, gives, many] <;> omega
end Go.Proofs.YtpmapdialjdcbaaDoor
namespace Go.Proofs.YtpmapdialjdcbaaDoor
open Go.RowKit
open C2 (In Pr SlF SlI InsAt Tab BoxedP still_of_below below_then below_alloc Still)
open K6 (Ky)
open V5 (checkF SlN)

set_option maxHeartbeats 2000000 in
set_option maxRecDepth 8000 in
theorem trees_walk (wi de mu ar : Int) (w : World) (hT : Tab w) : Calls Tryd.prog 5 #[.int .i64 wi, .int .i64 de, .int .i64 mu, .int .i64 ar] w fun e w' => e = .returned (.bool true) ∧ Below w.heap.size w w' := by
  obtain ⟨k, hk⟩ : ∃ k : Nat, wi % 3 = k := ⟨(wi % 3).toNat, by omega⟩
  obtain ⟨D, hD⟩ : ∃ k : Nat, de % 4 = k := ⟨(de % 4).toNat, by omega⟩
  have hk3 : k < 3 := by omega
  have hD3 : D ≤ 3 := by omega
  have m0 : 0 ≤ mu % 3 := by omega
  have m2 : mu % 3 ≤ 2 := by omega
  have a0 : 0 ≤ ar % 100 := by omega
  have a9 : ar % 100 ≤ 99 := by omega
  have q1 := fun w => V1.place_any wi 3 w (by decide) (by decide)
  have q2 := fun w => V1.place_any de 4 w (by decide) (by decide)
  have q3 := fun w => V1.place_any mu 3 w (by decide) (by decide)
  have q4 := fun w => V1.place_any ar 100 w (by decide) (by decide)
  rw [hk] at q1
  rw [hD] at q2
  generalize mu % 3 = m at *
  generalize ar % 100 = a at *
  clear hk hD
  have HT : Hid (Calls Tryd.prog 20 #[.int .i64 (1 + (k : Int)), .int .i64 D, .int .i64 m] w fun e w' => ∃ fv, e = .returned (.agg #[fv, .int .i64 0, .int .i64 D, .int .i64 100]) ∧ SlF w' fv (fsT (k + 1) D m (D + 1)) ∧ Below w.heap.size w w') := by
    have := Tree_any (k + 1) D m (by omega) (by omega) hD3 w
    rw [show ((k + 1 : Nat) : Int) = 1 + (k : Int) by omega] at this
    exact this
  go_enter Tryd.func5, Tryd.ntmps5
  go_wp2_with fail
  refine (q1 _).mono ?_
  rintro e w' ⟨rfl, rfl⟩
  go_wp2_with fail
  refine (q2 _).mono ?_
  rintro e w' ⟨rfl, rfl⟩
  go_wp2_with fail
  refine (q3 _).mono ?_
  rintro e w' ⟨rfl, rfl⟩
  go_wp2_with fail
  refine (q4 _).mono ?_
  rintro e w' ⟨rfl, rfl⟩
  have hki : (k : Int) < 3 := by omega
  go_wp2_with fail
  refine HT.out.mono ?_
  rintro e w1 ⟨fv, rfl, hSF, hb1⟩
  clear HT q1 q2 q3 q4
  have hT1 := hT.below hb1
  by_cases hD0 : D = 0
  · subst hD0
    have HR : Hid (Calls Tryd.prog 12 #[.agg #[fv, .int .i64 0, .int .i64 0, .int .i64 100], .int .i64 a, .int .i64 5000] w1 fun e w' => e = .returned (.tuple #[.agg #[.int .i64 0, .int .i64 0, .slice none 0 0, .slice none 0 0, .slice none 0 0, .int .i64 0, .int .i64 0, .bool false], .int .i64 5]) ∧ Below w1.heap.size w1 w') := bare_run (by omega) (by omega) m0 m2 fv w1 hT1 hSF
    clear hSF
    go_wp2_with fail
    refine HR.out.mono ?_
    rintro e w2 ⟨rfl, hb2⟩
    replace hb2 := below_alloc (below_then hb1 hb2) (.cells #[.int .i64 0, .int .i64 0, .slice none 0 0, .slice none 0 0, .slice none 0 0, .int .i64 0, .int .i64 0, .bool false] 34)
    have hT2 := hT.below hb2
    clear HR hb1 hT1
    go_wp2_with fail
    generalize w2.alloc (.cells #[.int .i64 0, .int .i64 0, .slice none 0 0, .slice none 0 0, .slice none 0 0, .int .i64 0, .int .i64 0, .bool false] 34) = w3 at *
    go_loopw [15, 16, 17, 18, 19] (fun v1 v2 v3 v4 iv wx => iv = .int .i64 0 ∧ wx = w3) (fun _ _ _ _ _ _ => 0)
    case atStart => exact ⟨rfl, rfl⟩
    case round =>
      obtain ⟨rfl, rfl⟩ := hrel
      go_wp2_with fail
      refine (awake_any _ hT2).mono ?_
      rintro e w4 ⟨rfl, hb4⟩
      go_wp2_with fail
      go_ret
      exact ⟨rfl, below_then hb2 hb4⟩
  · have hDi : ((D : Int) == 0) = false := by simp; omega
    obtain ⟨s1, s2⟩ := sum_ok (k := k) (d := D) (a := a) hk3 hD3 m0 m2
    have HR : Hid (Calls Tryd.prog 12 #[.agg #[fv, .int .i64 0, .int .i64 D, .int .i64 100], .int .i64 a, .int .i64 5000] w1 fun e w' => ∃ ra rc ua un uc sa sn sc, ∃ st : Int, e = .returned (.tuple #[.agg #[.int .i64 1, .int .i64 (wtF (1 + (k : Int)) m a D), .slice ra (many (k + 1) D + 1) rc, .slice ua un uc, .slice sa sn sc, .int .i64 st, .int .i64 (many (k + 1) D), .bool false], .int .i64 0]) ∧ Below w1.heap.size w1 w') := by
      have := tree_run (w := k + 1) (d := D) (by omega) (by omega) (by omega) hD3 m0 m2 a0 a9 fv w1 hT1 hSF
      rw [s1] at this
      exact this
    have HK : Hid (((many (k + 1) D : Nat) : Int) + 1 = tkF (1 + (k : Int)) D) := s2
    clear hSF hD0 s1 s2
    generalize many (k + 1) D = M at *
    go_wp2_with fail
    refine HR.out.mono ?_
    rintro e w2 ⟨ra, rc, ua, un, uc, sa, sn, sc, st, rfl, hb2⟩
    have hb3 := below_alloc (below_then hb1 hb2) (.cells #[.int .i64 1, .int .i64 (wtF (1 + (k : Int)) m a D), .slice ra (M + 1) rc, .slice ua un uc, .slice sa sn sc, .int .i64 st, .int .i64 M, .bool false] 34)
    have hbx := heap_alloc_new w2 (.cells #[.int .i64 1, .int .i64 (wtF (1 + (k : Int)) m a D), .slice ra (M + 1) rc, .slice ua un uc, .slice sa sn sc, .int .i64 st, .int .i64 M, .bool false] 34)
    have hT2 := hT.below hb3
    clear HR hb1 hT1
    go_wp2_with fail
    generalize w2.alloc (.cells #[.int .i64 1, .int .i64 (wtF (1 + (k : Int)) m a D), .slice ra (M + 1) rc, .slice ua un uc, .slice sa sn sc, .int .i64 st, .int .i64 M, .bool false] 34) = w3 at *
    generalize w2.heap.size = b3 at *
    go_loopw [15, 16, 17, 18, 19] (fun v1 v2 v3 v4 iv wx => ∃ i : Nat, i ≤ D ∧ iv = .int .i64 i ∧ v1 = .int .i64 (wtF (1 + (k : Int)) m a i) ∧ v2 = .int .i64 (tkF (1 + (k : Int)) i) ∧ v3 = .int .i64 (xF m a i) ∧ v4 = .int .i64 (nF (1 + (k : Int)) i) ∧ wx = w3) (fun _ _ _ _ iv _ => D - (intOf iv).toNat)
    case atStart => exact ⟨0, by omega, rfl, rfl, rfl, rfl, rfl, rfl⟩
    case round =>
      obtain ⟨i, hiD, rfl, rfl, rfl, rfl, rfl, rfl⟩ := hrel
      by_cases hlt : i < D
      · obtain ⟨p1, p2, p3, p4, p5, p6, p7, p8, p9, p10⟩ := sum_bd (k := k) (i := i) (m := m) (a := a) hk3 (by omega) m0 m2 a0 a9
        obtain ⟨r1, r2, r3, r4, r5, r6, r7, r8, r9, r10⟩ := sum_bd (k := k) (i := i + 1) (m := m) (a := a) hk3 (by omega) m0 m2 a0 a9
        have HX : Hid (xF m a (i + 1) = xF m a i * m ∧ nF (1 + (k : Int)) (i + 1) = nF (1 + (k : Int)) i * (1 + (k : Int)) ∧ wtF (1 + (k : Int)) m a (i + 1) = wtF (1 + (k : Int)) m a i + nF (1 + (k : Int)) (i + 1) * xF m a (i + 1) ∧ tkF (1 + (k : Int)) (i + 1) = tkF (1 + (k : Int)) i + nF (1 + (k : Int)) (i + 1)) := ⟨rfl, rfl, rfl, rfl⟩
        have hlti : (i : Int) < (D : Int) := by omega
        rw [show xF m a (i + 1) = xF m a i * m from rfl] at r1 r2 r5 r6
        rw [show nF (1 + (k : Int)) (i + 1) = nF (1 + (k : Int)) i * (1 + (k : Int)) from rfl] at r3 r4 r5 r6
        clear p5 p6 r7 r8 r9 r10
        generalize xF m a i = xv at *
        generalize nF (1 + (k : Int)) i = nv at *
        generalize wtF (1 + (k : Int)) m a i = wv at *
        generalize tkF (1 + (k : Int)) i = tv at *
        go_wp2_with fail
        go_roundw
        case rel => exact ⟨i + 1, by omega, by go_num, by rw [HX.out.2.2.1, HX.out.1, HX.out.2.1], by rw [HX.out.2.2.2, HX.out.2.1], by rw [HX.out.1], by rw [HX.out.2.1], by first | exact True.intro | rfl⟩
        case measure => simp [intOf]; omega
      · obtain rfl : i = D := by omega
        have hcs := fun f => cell_of_row _ _ f _ _ _ hbx
        have c0 := hcs 0
        have c1 := hcs 1
        have c2 := hcs 2
        have c6 := hcs 6
        have c7 := hcs 7
        simp at c0 c1 c2 c6 c7
        clear hcs hbx
        obtain ⟨p1, p2, p3, p4, p5, p6, p7, p8, p9, p10⟩ := sum_bd (k := k) (i := i) (m := m) (a := a) hk3 hD3 m0 m2 a0 a9
        have hk9 := HK.out
        clear HK p1 p2 p3 p4 p5 p6 hlt hiD
        generalize wtF (1 + (k : Int)) m a i = wv at *
        generalize tkF (1 + (k : Int)) i = tv at *
        subst hk9
        have e1 : ((M : Int) + 1 - 1) = (M : Int) := by omega
        go_wp2_with fail
        refine (awake_any _ hT2).mono ?_
        rintro e w4 ⟨rfl, hb4⟩
        go_wp2_with fail
        go_ret
        exact ⟨rfl, below_then hb3 hb4⟩
end Go.Proofs.YtpmapdialjdcbaaDoor
