/-
  Helpers: EvT, EvF, EvJ.
-/
import Derived.Test.YtpmapdialjdcbaaDoorBunc118e3978f6b
namespace Go.Proofs.YtpmapdialjdcbaaDoor
open K6 (Ky und wd ofK)

def treeF (w : Nat) (m : Int) (j : Nat) : List In7 := [⟨1, 1, m, 0⟩, ⟨4, 2, 0, 1⟩] ++ (List.range w).map (fun i => ⟨9, (i : Int), (j : Int), 2⟩) ++ ((List.range w).map fun i => [⟨10, 3, (i : Int), 0⟩, ⟨2, 0, 0, 3⟩]).flatten ++ [⟨15, 0, 0, 0⟩]
theorem wide_cases {w : Nat} (h1 : 1 ≤ w) (h3 : w ≤ 3) : w = 1 ∨ w = 2 ∨ w = 3 := by omega
theorem tree_0 (w : Nat) (m : Int) (j : Nat) : (treeF w m j).getD 0 ⟨0, 0, 0, 0⟩ = ⟨1, 1, m, 0⟩ := rfl
theorem tree_1 (w : Nat) (m : Int) (j : Nat) : (treeF w m j).getD 1 ⟨0, 0, 0, 0⟩ = ⟨4, 2, 0, 1⟩ := rfl
theorem tree_fork {w i : Nat} (h1 : 1 ≤ w) (h3 : w ≤ 3) (hi : i < w) (m : Int) (j : Nat) : (treeF w m j).getD (2 + i) ⟨0, 0, 0, 0⟩ = ⟨9, (i : Int), (j : Int), 2⟩ := by
  rcases wide_cases h1 h3 with rfl | rfl | rfl
  · obtain rfl : i = 0 := by omega
    rfl
  · rcases (by omega : i = 0 ∨ i = 1) with rfl | rfl <;> rfl
  · rcases (by omega : i = 0 ∨ i = 1 ∨ i = 2) with rfl | rfl | rfl <;> rfl
theorem tree_join {w i : Nat} (h1 : 1 ≤ w) (h3 : w ≤ 3) (hi : i < w) (m : Int) (j : Nat) : (treeF w m j).getD (2 + w + 2 * i) ⟨0, 0, 0, 0⟩ = ⟨10, 3, (i : Int), 0⟩ ∧ (treeF w m j).getD (2 + w + 2 * i + 1) ⟨0, 0, 0, 0⟩ = ⟨2, 0, 0, 3⟩ := by
  rcases wide_cases h1 h3 with rfl | rfl | rfl
  · obtain rfl : i = 0 := by omega
    exact ⟨rfl, rfl⟩
  · rcases (by omega : i = 0 ∨ i = 1) with rfl | rfl <;> exact ⟨rfl, rfl⟩
  · rcases (by omega : i = 0 ∨ i = 1 ∨ i = 2) with rfl | rfl | rfl <;> exact ⟨rfl, rfl⟩
theorem tree_ret {w : Nat} (h1 : 1 ≤ w) (h3 : w ≤ 3) (m : Int) (j : Nat) : (treeF w m j).getD (2 + 3 * w) ⟨0, 0, 0, 0⟩ = ⟨15, 0, 0, 0⟩ := by
  rcases wide_cases h1 h3 with rfl | rfl | rfl <;> rfl
section
variable {p : Pg7} {M : Nat}
theorem ev_one {r : Rs} {t : Ts} (h : goesB M r t) {x : In7} (hx : ins7 p t = x) (h9 : x.o ≠ 9) : ev7 p M r t = ev7 p M (oneP (up1 r) (down1 t) x).1 (oneP (up1 r) (down1 t) x).2 := by
  unfold ev7
  rw [evP_step p M depK chY h]
  unfold bodyP
  rw [hx, if_neg h9]
theorem ev_fork {r : Rs} {t : Ts} (h : goesB M r t) {a b c : Int} (hx : ins7 p t = ⟨9, a, b, c⟩) (hd : depK t.key < p.depth) (hf : t.forks < 1000) : ev7 p M r t = ev7 p M (told (ev7 p M (forkR (up1 r)) (ts0 b.toNat (rg t c) (chY t.key (t.forks + 1)) p.fuel.toNat)).1 b (rg t c) (chY t.key (t.forks + 1)) (ev7 p M (forkR (up1 r)) (ts0 b.toNat (rg t c) (chY t.key (t.forks + 1)) p.fuel.toNat)).2.e) (forkT (down1 t) a (ev7 p M (forkR (up1 r)) (ts0 b.toNat (rg t c) (chY t.key (t.forks + 1)) p.fuel.toNat)).2.e) := by
  unfold ev7
  rw [evP_step p M depK chY h]
  unfold bodyP
  rw [hx, if_pos rfl, if_neg (by omega), if_neg (by omega)]
end
theorem wrp_id {x : Int} (h1 : -2147483648 ≤ x) (h2 : x ≤ 2147483647) : wrp x = x := by unfold wrp; omega
/-- a run goes on to another: not over, so many instructions, so many forks -/
structure Fwd (r r' : Rs) (c f : Nat) : Prop where
  over : r'.over = false
  steps : r'.steps = r.steps + c
  forks : r'.forks = r.forks + f
/-- a task of a level: what it gives, what it takes -/
def Lvl (p : Pg7) (M : Nat) (j : Nat) (x y : Int) (c f : Nat) : Prop := ∀ (r : Rs) (tk : Ky), tk.Ok → tk.dep = j → r.over = false → r.steps + c ≤ M → ∃ r' t', ev7 p M r (ts0 j x tk.key p.fuel.toNat) = (r', t') ∧ t'.e = ⟨1, y⟩ ∧ Fwd r r' c f
theorem lvl_leaf {p : Pg7} {M j : Nat} {x : Int} (hf : 1 ≤ p.fuel) (hfn : p.fs.getD j [] = [⟨15, 0, 0, 0⟩]) (hx : wrp x = x) : Lvl p M j x x 1 0 := by
  intro r tk _ _ ho hs
  have hg : goesB M r (ts0 j x tk.key p.fuel.toNat) := ⟨rfl, ho, by show p.fuel.toNat ≠ 0; omega, by omega⟩
  have hi : ins7 p (ts0 j x tk.key p.fuel.toNat) = ⟨15, 0, 0, 0⟩ := by
    unfold ins7
    show (p.fs.getD j []).getD 0 _ = _
    rw [hfn]
    rfl
  refine ⟨up1 r, { down1 (ts0 j x tk.key p.fuel.toNat) with e := ⟨1, x⟩ }, ?_, rfl, ⟨ho, rfl, rfl⟩⟩
  rw [ev_one hg hi (by decide)]
  have e1 : oneP (up1 r) (down1 (ts0 j x tk.key p.fuel.toNat)) ⟨15, 0, 0, 0⟩ = (up1 r, { down1 (ts0 j x tk.key p.fuel.toNat) with e := ⟨1, wrp x⟩ }) := rfl
  rw [e1, hx, ev7, evP_end p M depK chY (.inl (show (1 : Int) ≠ 0 by decide))]
def hasI (i : Nat) : List Bool := [decide (0 < i), decide (1 < i), decide (2 < i), false]
def handI (i : Nat) (S : Int) : List En := [if 0 < i then ⟨1, S⟩ else en0, if 1 < i then ⟨1, S⟩ else en0, if 2 < i then ⟨1, S⟩ else en0, en0]
def hasJ (w i : Nat) : List Bool := [decide (0 < w) && decide (i ≤ 0), decide (1 < w) && decide (i ≤ 1), decide (2 < w) && decide (i ≤ 2), false]
def TI (x m S : Int) (j FU : Nat) (key : Int) (i : Nat) : Ts := ⟨[x, m, x * m, 0, 0, 0, 0, 0], hasI i, handI i S, j, 2 + i, FU - 2 - i, i, key, en0⟩
def TJ (x m S : Int) (w j FU : Nat) (key : Int) (i : Nat) : Ts := ⟨[x + i * S, m, x * m, if 0 < i then S else 0, 0, 0, 0, 0], hasJ w i, handI w S, j, 2 + w + 2 * i, FU - 2 - w - 2 * i, w, key, en0⟩
theorem has_set {i : Nat} (h : i < 3) : (hasI i).set i true = hasI (i + 1) := by
  rcases (by omega : i = 0 ∨ i = 1 ∨ i = 2) with rfl | rfl | rfl <;> rfl
theorem hand_set {i : Nat} (h : i < 3) (S : Int) : (handI i S).set i ⟨1, S⟩ = handI (i + 1) S := by
  rcases (by omega : i = 0 ∨ i = 1 ∨ i = 2) with rfl | rfl | rfl <;> rfl
section
variable {p : Pg7} {M w j c f : Nat} {x m S : Int}
theorem tree_heads (hfn : p.fs.getD j [] = treeF w m (j + 1)) (hfu : 100 ≤ p.fuel) (hx : wrp x = x) (hxm : wrp (x * m) = x * m) {r : Rs} {key : Int} (ho : r.over = false) (hs : r.steps + 3 ≤ M) : ev7 p M r (ts0 j x key p.fuel.toNat) = ev7 p M (up1 (up1 r)) (TI x m S j p.fuel.toNat key 0) := by
  have g0 : goesB M r (ts0 j x key p.fuel.toNat) := ⟨rfl, ho, by show p.fuel.toNat ≠ 0; omega, by omega⟩
  have i0 : ins7 p (ts0 j x key p.fuel.toNat) = ⟨1, 1, m, 0⟩ := by
    unfold ins7
    show (p.fs.getD j []).getD 0 _ = _
    rw [hfn]
    rfl
  rw [ev_one g0 i0 (by show (1 : Int) ≠ 9; decide)]
  have e1 : oneP (up1 r) (down1 (ts0 j x key p.fuel.toNat)) ⟨1, 1, m, 0⟩ = (up1 r, ⟨[wrp x, m, 0, 0, 0, 0, 0, 0], [false, false, false, false], [en0, en0, en0, en0], j, 1, p.fuel.toNat - 1, 0, key, en0⟩) := rfl
  rw [e1]
  simp only
  have g1 : goesB M (up1 r) ⟨[wrp x, m, 0, 0, 0, 0, 0, 0], [false, false, false, false], [en0, en0, en0, en0], j, 1, p.fuel.toNat - 1, 0, key, en0⟩ := ⟨rfl, ho, by show p.fuel.toNat - 1 ≠ 0; omega, by show r.steps + 1 < M; omega⟩
  have i1 : ins7 p (⟨[wrp x, m, 0, 0, 0, 0, 0, 0], [false, false, false, false], [en0, en0, en0, en0], j, 1, p.fuel.toNat - 1, 0, key, en0⟩ : Ts) = ⟨4, 2, 0, 1⟩ := by
    unfold ins7
    show (p.fs.getD j []).getD 1 _ = _
    rw [hfn]
    rfl
  rw [ev_one g1 i1 (by show (4 : Int) ≠ 9; decide)]
  have e2 : oneP (up1 (up1 r)) (down1 (⟨[wrp x, m, 0, 0, 0, 0, 0, 0], [false, false, false, false], [en0, en0, en0, en0], j, 1, p.fuel.toNat - 1, 0, key, en0⟩ : Ts)) ⟨4, 2, 0, 1⟩ = (up1 (up1 r), ⟨[wrp x, m, wrp (wrp x * m), 0, 0, 0, 0, 0], [false, false, false, false], [en0, en0, en0, en0], j, 2, p.fuel.toNat - 1 - 1, 0, key, en0⟩) := rfl
  rw [e2, hx, hxm]
  rfl
theorem tree_forks (h1 : 1 ≤ w) (h3 : w ≤ 3) (hfn : p.fs.getD j [] = treeF w m (j + 1)) (hfu : 100 ≤ p.fuel) (hd : (j : Int) < p.depth) (h5 : j < 5) (kid : Lvl p M (j + 1) (x * m) S c f) {r : Rs} {tk : Ky} (hk : tk.Ok) (hkd : tk.dep = j) (ho : r.over = false) (hs : r.steps + (2 + w + w * c) ≤ M) :
    ∀ i, i ≤ w → ∃ ri, Fwd r ri (2 + i + i * c) (i * (f + 1)) ∧ ev7 p M (up1 (up1 r)) (TI x m S j p.fuel.toNat tk.key 0) = ev7 p M ri (TI x m S j p.fuel.toNat tk.key i) := by
  intro i
  induction i with
  | zero => intro _; exact ⟨up1 (up1 r), ⟨ho, by show r.steps + 1 + 1 = _; omega, by show r.forks = _; omega⟩, rfl⟩
  | succ i ih =>
    intro hi
    obtain ⟨ri, hF, he⟩ := ih (by omega)
    have hic : (i + 1) * c ≤ w * c := Nat.mul_le_mul_right _ hi
    rw [Nat.succ_mul] at hic
    have hg : goesB M ri (TI x m S j p.fuel.toNat tk.key i) := ⟨rfl, hF.over, by show p.fuel.toNat - 2 - i ≠ 0; omega, by rw [hF.steps]; omega⟩
    have hx : ins7 p (TI x m S j p.fuel.toNat tk.key i) = ⟨9, (i : Int), ((j + 1 : Nat) : Int), 2⟩ := by
      unfold ins7
      show (p.fs.getD j []).getD (2 + i) _ = _
      rw [hfn, tree_fork h1 h3 (by omega)]
    have hdk : depK tk.key = j := by unfold depK; rw [K6.of_key hk, hkd]
    obtain ⟨kk, q1, q2, -, -, -, -, q7, -⟩ := kid_facts hk (f := i) (by omega) (by omega)
    have hch : chY tk.key ((i : Int) + 1) = kk.key := by unfold chY; rw [K6.of_key hk, q2]
    have hst := ev_fork hg hx (by show depK tk.key < _; omega) (by show i < 1000; omega)
    have hrg : rg (TI x m S j p.fuel.toNat tk.key i) 2 = x * m := rfl
    have hb : (((j + 1 : Nat) : Int)).toNat = j + 1 := by omega
    have hky : chY (TI x m S j p.fuel.toNat tk.key i).key (((TI x m S j p.fuel.toNat tk.key i).forks : Int) + 1) = kk.key := hch
    rw [hrg, hb, hky] at hst
    obtain ⟨rc, tc, kc, ke, kf⟩ := kid (forkR (up1 ri)) kk q1 (by omega) hF.over (by have := hF.steps; show ri.steps + 1 + c ≤ M; omega)
    rw [kc, ke] at hst
    obtain ⟨t1, t2, t3⟩ := told_ran kf.over ((j + 1 : Nat) : Int) (x * m) kk.key ⟨1, S⟩
    refine ⟨told rc ((j + 1 : Nat) : Int) (x * m) kk.key ⟨1, S⟩, ⟨t3, ?_, ?_⟩, ?_⟩
    · rw [(told_steps _ _ _ _ _).1, kf.steps]
      show ri.steps + 1 + c = _
      rw [hF.steps, Nat.succ_mul]
      omega
    · rw [t2, kf.forks]
      show ri.forks + 1 + f = _
      rw [hF.forks, Nat.succ_mul]
      omega
    · rw [he, hst]
      have e : forkT (down1 (TI x m S j p.fuel.toNat tk.key i)) (i : Int) ⟨1, S⟩ = TI x m S j p.fuel.toNat tk.key (i + 1) := by
        unfold forkT down1 TI
        simp only [Int.toNat_natCast]
        rw [has_set (by omega), hand_set (by omega)]
        congr 1
      rw [e]
theorem tree_joins (h1 : 1 ≤ w) (h3 : w ≤ 3) (hfn : p.fs.getD j [] = treeF w m (j + 1)) (hfu : 100 ≤ p.fuel) (hsum : ∀ i : Nat, i ≤ w → wrp (x + i * S) = x + i * S) {r : Rs} {key : Int} (ho : r.over = false) (hs : r.steps + (2 * w + 1) ≤ M) :
    ∀ i, i ≤ w → ∃ ri, Fwd r ri (2 * i) 0 ∧ ev7 p M r (TI x m S j p.fuel.toNat key w) = ev7 p M ri (TJ x m S w j p.fuel.toNat key i) := by
  intro i
  induction i with
  | zero =>
    intro _
    refine ⟨r, ⟨ho, by omega, by omega⟩, ?_⟩
    have e : TI x m S j p.fuel.toNat key w = TJ x m S w j p.fuel.toNat key 0 := by
      unfold TI TJ
      rcases wide_cases h1 h3 with rfl | rfl | rfl <;> simp [hasI, hasJ]
    rw [e]
  | succ i ih =>
    intro hi
    obtain ⟨ri, hF, he⟩ := ih (by omega)
    obtain ⟨j1, j2⟩ := tree_join h1 h3 (show i < w by omega) m (j + 1)
    have g1 : goesB M ri (TJ x m S w j p.fuel.toNat key i) := ⟨rfl, hF.over, by show p.fuel.toNat - 2 - w - 2 * i ≠ 0; omega, by rw [hF.steps]; omega⟩
    have x1 : ins7 p (TJ x m S w j p.fuel.toNat key i) = ⟨10, 3, (i : Int), 0⟩ := by
      unfold ins7
      show (p.fs.getD j []).getD (2 + w + 2 * i) _ = _
      rw [hfn, j1]
    have e1 : oneP (up1 ri) (down1 (TJ x m S w j p.fuel.toNat key i)) ⟨10, 3, (i : Int), 0⟩ = (up1 ri, ⟨[x + i * S, m, x * m, S, 0, 0, 0, 0], hasJ w (i + 1), handI w S, j, 2 + w + 2 * i + 1, p.fuel.toNat - 2 - w - 2 * i - 1, w, key, en0⟩) := by
      rcases wide_cases h1 h3 with rfl | rfl | rfl
      · obtain rfl : i = 0 := by omega
        rfl
      · rcases (by omega : i = 0 ∨ i = 1) with rfl | rfl <;> rfl
      · rcases (by omega : i = 0 ∨ i = 1 ∨ i = 2) with rfl | rfl | rfl <;> rfl
    have g2 : goesB M (up1 ri) ⟨[x + i * S, m, x * m, S, 0, 0, 0, 0], hasJ w (i + 1), handI w S, j, 2 + w + 2 * i + 1, p.fuel.toNat - 2 - w - 2 * i - 1, w, key, en0⟩ := ⟨rfl, hF.over, by show p.fuel.toNat - 2 - w - 2 * i - 1 ≠ 0; omega, by show ri.steps + 1 < M; rw [hF.steps]; omega⟩
    have x2 : ins7 p (⟨[x + i * S, m, x * m, S, 0, 0, 0, 0], hasJ w (i + 1), handI w S, j, 2 + w + 2 * i + 1, p.fuel.toNat - 2 - w - 2 * i - 1, w, key, en0⟩ : Ts) = ⟨2, 0, 0, 3⟩ := by
      unfold ins7
      show (p.fs.getD j []).getD (2 + w + 2 * i + 1) _ = _
      rw [hfn, j2]
    have e2 : oneP (up1 (up1 ri)) (down1 (⟨[x + i * S, m, x * m, S, 0, 0, 0, 0], hasJ w (i + 1), handI w S, j, 2 + w + 2 * i + 1, p.fuel.toNat - 2 - w - 2 * i - 1, w, key, en0⟩ : Ts)) ⟨2, 0, 0, 3⟩ = (up1 (up1 ri), ⟨[wrp (x + i * S + S), m, x * m, S, 0, 0, 0, 0], hasJ w (i + 1), handI w S, j, 2 + w + 2 * i + 1 + 1, p.fuel.toNat - 2 - w - 2 * i - 1 - 1, w, key, en0⟩) := rfl
    have hS : x + (i : Int) * S + S = x + ((i + 1 : Nat) : Int) * S := by rw [show ((i + 1 : Nat) : Int) = (i : Int) + 1 by omega, Int.add_mul, Int.one_mul]; omega
    refine ⟨up1 (up1 ri), ⟨hF.over, by show ri.steps + 1 + 1 = _; rw [hF.steps]; omega, hF.forks⟩, ?_⟩
    rw [he, ev_one g1 x1 (by show (10 : Int) ≠ 9; decide), e1]
    simp only
    rw [ev_one g2 x2 (by show (2 : Int) ≠ 9; decide), e2, hS, hsum (i + 1) hi]
    rfl
/-- a task of a tree -/
theorem lvl_node (h1 : 1 ≤ w) (h3 : w ≤ 3) (hfn : p.fs.getD j [] = treeF w m (j + 1)) (hfu : 100 ≤ p.fuel) (hd : (j : Int) < p.depth) (h5 : j < 5) (hx : wrp x = x) (hxm : wrp (x * m) = x * m) (hsum : ∀ i : Nat, i ≤ w → wrp (x + i * S) = x + i * S) (kid : Lvl p M (j + 1) (x * m) S c f) :
    Lvl p M j x (x + w * S) (3 + 3 * w + w * c) (w * (f + 1)) := by
  intro r tk hk hkd ho hs
  rw [tree_heads (S := S) hfn hfu hx hxm ho (by omega)]
  obtain ⟨r1, f1, e1⟩ := tree_forks h1 h3 hfn hfu hd h5 kid hk hkd ho (by omega) w (Nat.le_refl _)
  obtain ⟨r2, f2, e2⟩ := tree_joins (M := M) (key := tk.key) h1 h3 hfn hfu hsum f1.over (by rw [f1.steps]; omega) w (Nat.le_refl _)
  rw [e1, e2]
  have g : goesB M r2 (TJ x m S w j p.fuel.toNat tk.key w) := ⟨rfl, f2.over, by show p.fuel.toNat - 2 - w - 2 * w ≠ 0; omega, by rw [f2.steps, f1.steps]; omega⟩
  have hi : ins7 p (TJ x m S w j p.fuel.toNat tk.key w) = ⟨15, 0, 0, 0⟩ := by
    unfold ins7
    show (p.fs.getD j []).getD (2 + w + 2 * w) _ = _
    rw [hfn, show 2 + w + 2 * w = 2 + 3 * w by omega, tree_ret h1 h3]
  refine ⟨up1 r2, { down1 (TJ x m S w j p.fuel.toNat tk.key w) with e := ⟨1, x + w * S⟩ }, ?_, rfl, ⟨f2.over, by show r2.steps + 1 = _; rw [f2.steps, f1.steps]; omega, by show r2.forks = _; rw [f2.forks, f1.forks]; omega⟩⟩
  rw [ev_one g hi (by show (15 : Int) ≠ 9; decide)]
  have e3 : oneP (up1 r2) (down1 (TJ x m S w j p.fuel.toNat tk.key w)) ⟨15, 0, 0, 0⟩ = (up1 r2, { down1 (TJ x m S w j p.fuel.toNat tk.key w) with e := ⟨1, x + w * S⟩ }) := rfl
  rw [e3, ev7, evP_end p M depK chY (.inl (show (1 : Int) ≠ 0 by decide))]
end
end Go.Proofs.YtpmapdialjdcbaaDoor
namespace Go.Proofs.YtpmapdialjdcbaaDoor
open K6 (Ky und wd ofK)

theorem jump_on {p : Pg7} {M : Nat} (reg : List Int) (has : List Bool) (hand : List En) (fn forks : Nat) (key : Int) (hfn : (p.fs.getD fn []).getD 0 ⟨0, 0, 0, 0⟩ = ⟨7, 0, 0, 0⟩) :
    ∀ (n : Nat) (r : Rs), r.over = false → r.steps + n ≤ M → ev7 p M r ⟨reg, has, hand, fn, 0, n, forks, key, en0⟩ = (⟨r.ran, r.futs, r.was, r.steps + n, r.forks, false⟩, ⟨reg, has, hand, fn, 0, 0, forks, key, ⟨5, 0⟩⟩)
  | 0, r, ho, _ => by
    rw [ev7, evP_fuel p M depK chY rfl ho rfl]
    cases r
    simp only at ho
    subst ho
    rfl
  | n + 1, r, ho, hs => by
    have hg : goesB M r (⟨reg, has, hand, fn, 0, n + 1, forks, key, en0⟩ : Ts) := ⟨rfl, ho, by show n + 1 ≠ 0; omega, by omega⟩
    have hi : ins7 p (⟨reg, has, hand, fn, 0, n + 1, forks, key, en0⟩ : Ts) = ⟨7, 0, 0, 0⟩ := hfn
    rw [ev_one hg hi (by show (7 : Int) ≠ 9; decide)]
    have e : oneP (up1 r) (down1 (⟨reg, has, hand, fn, 0, n + 1, forks, key, en0⟩ : Ts)) ⟨7, 0, 0, 0⟩ = (up1 r, ⟨reg, has, hand, fn, 0, n, forks, key, en0⟩) := rfl
    rw [e]
    simp only
    rw [jump_on reg has hand fn forks key hfn n (up1 r) ho (by show r.steps + 1 + n ≤ M; omega)]
    show (_, _) = (_, _)
    rw [show (up1 r).steps + n = r.steps + (n + 1) by show r.steps + 1 + n = _; omega]
    rfl
def treeP (w d : Nat) (m : Int) : Pg7 := ⟨(List.range d).map (fun j => treeF w m (j + 1)) ++ [[⟨15, 0, 0, 0⟩]], 0, d, 100⟩
theorem treeP_node {w d : Nat} {m : Int} {j : Nat} (h : j < d) : (treeP w d m).fs.getD j [] = treeF w m (j + 1) := by
  unfold treeP
  simp only
  rw [List.getD_eq_getElem?_getD, List.getElem?_append_left (by simpa using h)]
  simp [h]
theorem treeP_leaf {w d : Nat} {m : Int} : (treeP w d m).fs.getD d [] = [⟨15, 0, 0, 0⟩] := by
  unfold treeP
  simp only
  rw [List.getD_eq_getElem?_getD, List.getElem?_append_right (by simp)]
  simp
/-- what a level gives, what it takes: so many levels below it -/
def gives (w : Nat) (m : Int) : Nat → Int → Int
  | 0, x => x
  | n + 1, x => x + w * gives w m n (x * m)
def takes (w : Nat) : Nat → Nat
  | 0 => 1
  | n + 1 => 3 + 3 * w + w * takes w n
def many (w : Nat) : Nat → Nat
  | 0 => 0
  | n + 1 => w * (many w n + 1)
theorem gives_bd {w : Nat} {m : Int} (h3 : w ≤ 3) (m0 : 0 ≤ m) (m2 : m ≤ 2) : ∀ (n : Nat) (x B : Int), 0 ≤ x → x ≤ B → 0 ≤ gives w m n x ∧ gives w m n x ≤ B * 7 ^ n
  | 0, x, B, h0, hB => by
    simp only [gives, Int.pow_zero, Int.mul_one]
    exact ⟨h0, hB⟩
  | n + 1, x, B, h0, hB => by
    have hxm0 : 0 ≤ x * m := Int.mul_nonneg h0 m0
    have hxm : x * m ≤ B * 2 := Int.mul_le_mul hB m2 m0 (by omega)
    obtain ⟨g0, g1⟩ := gives_bd h3 m0 m2 n (x * m) (x * m) hxm0 (Int.le_refl _)
    have hp : (1 : Int) ≤ 7 ^ n := by
      have := Int.pow_pos (n := 7) (m := n) (by decide)
      omega
    have g2 : gives w m n (x * m) ≤ B * 2 * 7 ^ n := Int.le_trans g1 (Int.mul_le_mul_of_nonneg_right hxm (by omega))
    have hw : (w : Int) * gives w m n (x * m) ≤ 3 * (B * 2 * 7 ^ n) := Int.mul_le_mul (by omega) g2 g0 (by decide)
    have hw0 : 0 ≤ (w : Int) * gives w m n (x * m) := Int.mul_nonneg (by omega) g0
    simp only [gives]
    have e2 : B * 2 * 7 ^ n = 2 * (B * 7 ^ n) := by rw [Int.mul_comm B 2, Int.mul_assoc]
    have e : B * 7 ^ (n + 1) = 7 * (B * 7 ^ n) := by rw [Int.pow_succ, ← Int.mul_assoc, Int.mul_comm _ 7]
    have hB0 : B ≤ B * 7 ^ n := by
      have := Int.mul_le_mul_of_nonneg_left (c := B) hp (by omega)
      omega
    omega
theorem tree_lvl {w d : Nat} {m : Int} {M : Nat} (h1 : 1 ≤ w) (h3 : w ≤ 3) (hd : d ≤ 3) (m0 : 0 ≤ m) (m2 : m ≤ 2) : ∀ (n j : Nat) (x B : Int), j + n = d → 0 ≤ x → x ≤ B → B * 7 ^ n ≤ 1000000 → Lvl (treeP w d m) M j x (gives w m n x) (takes w n) (many w n)
  | 0, j, x, B, hj, h0, hB, hb => by
    obtain rfl : j = d := by omega
    simp only [Int.pow_zero, Int.mul_one] at hb
    exact lvl_leaf (by show (1 : Int) ≤ 100; decide) treeP_leaf (wrp_id (by omega) (by omega))
  | n + 1, j, x, B, hj, h0, hB, hb => by
    have hg := gives_bd h3 m0 m2 (n + 1) x B h0 hB
    have hp : (1 : Int) ≤ 7 ^ n := by
      have := Int.pow_pos (n := 7) (m := n) (by decide)
      omega
    have e : B * 7 ^ (n + 1) = 7 * (B * 7 ^ n) := by rw [Int.pow_succ, ← Int.mul_assoc, Int.mul_comm _ 7]
    have e2 : B * 2 * 7 ^ n = 2 * (B * 7 ^ n) := by rw [Int.mul_comm B 2, Int.mul_assoc]
    have hB0 : B ≤ B * 7 ^ n := by
      have := Int.mul_le_mul_of_nonneg_left (c := B) hp (by omega)
      omega
    have hxm0 : 0 ≤ x * m := Int.mul_nonneg h0 m0
    have hxm : x * m ≤ B * 2 := Int.mul_le_mul hB m2 m0 (by omega)
    have hk := gives_bd h3 m0 m2 n (x * m) (B * 2) hxm0 hxm
    have kid := tree_lvl (M := M) h1 h3 hd m0 m2 n (j + 1) (x * m) (B * 2) (by omega) hxm0 hxm (by omega)
    refine lvl_node h1 h3 (treeP_node (by omega)) (by show (100 : Int) ≤ 100; decide) (by show (j : Int) < (d : Int); omega) (by omega) (wrp_id (by omega) (by omega)) (wrp_id (by omega) (by omega)) (fun i hi => ?_) kid
    have hi1 : (i : Int) * gives w m n (x * m) ≤ 3 * (B * 2 * 7 ^ n) := Int.mul_le_mul (by omega) hk.2 hk.1 (by decide)
    have hi0 : 0 ≤ (i : Int) * gives w m n (x * m) := Int.mul_nonneg (by omega) hk.1
    exact wrp_id (by omega) (by omega)
end Go.Proofs.YtpmapdialjdcbaaDoor
namespace Go.Proofs.YtpmapdialjdcbaaDoor

def joinsP (k w j : Nat) : Pg7 := ⟨[(List.range k).map (fun i => ⟨9, (i : Int), if i = w then 2 else 1, 0⟩) ++ ((List.range j).map fun i => [⟨10, 1, (i : Int), 0⟩, ⟨2, 2, 2, 1⟩]).flatten ++ [⟨15, 2, 0, 0⟩], [⟨15, 0, 0, 0⟩], [⟨5, 0, 0, 7⟩, ⟨15, 0, 0, 0⟩]], 0, 1, 30⟩
def joinsB (k w j : Nat) : Bool :=
  let q := ev7 (joinsP k w j) 200 (rs0 (joinsP k w j)) (root7 (joinsP k w j) 5)
  !q.1.over && decide (q.1.ran.length = k) && decide (q.1.forks = k) && (if w < j then decide (q.2.e.h = 2) && decide (q.2.e.v = 0) else decide (q.2.e.h = 1) && decide (q.2.e.v = 5 * j))
theorem joins_all : ∀ k, k < 4 → 1 ≤ k → ∀ w, w < k → ∀ j, j < k + 1 → joinsB k w j = true := by decide +kernel
def errsF : Nat → List In7
  | 0 => [⟨5, 0, 0, 1⟩, ⟨15, 0, 0, 0⟩]
  | 1 => [⟨11, 0, 0, 0⟩, ⟨11, 0, 0, 0⟩, ⟨15, 0, 0, 0⟩]
  | 2 => [⟨12, 0, 0, 0⟩, ⟨15, 0, 0, 0⟩]
  | 3 => [⟨7, 0, 0, 0⟩, ⟨15, 0, 0, 0⟩]
  | 4 => [⟨9, 0, 1, 0⟩, ⟨10, 0, 0, 0⟩, ⟨15, 0, 0, 0⟩]
  | 5 => [⟨10, 0, 2, 0⟩, ⟨15, 0, 0, 0⟩]
  | 6 => [⟨13, 1, 0, 0⟩, ⟨15, 0, 0, 0⟩]
  | _ => [⟨14, 0, 0, 0⟩, ⟨15, 0, 0, 0⟩]
def errsW : Nat → Int
  | 0 => 2
  | 1 => 3
  | 2 => 4
  | 3 => 5
  | 4 => 6
  | 5 => 7
  | 6 => 7
  | _ => 1
def errsP (k : Nat) : Pg7 := ⟨[errsF k, [⟨15, 0, 0, 0⟩]], 1, 0, 20⟩
theorem errs_all (k : Nat) (hk : k < 8) (arg : Int) : (ev7 (errsP k) 100 (rs0 (errsP k)) (root7 (errsP k) arg)).1.over = false ∧ (ev7 (errsP k) 100 (rs0 (errsP k)) (root7 (errsP k) arg)).1.ran = [] ∧ (ev7 (errsP k) 100 (rs0 (errsP k)) (root7 (errsP k) arg)).1.was = [decide (k = 1)] ∧ (ev7 (errsP k) 100 (rs0 (errsP k)) (root7 (errsP k) arg)).2.e.h = errsW k := by
  rcases (by omega : k = 0 ∨ k = 1 ∨ k = 2 ∨ k = 3 ∨ k = 4 ∨ k = 5 ∨ k = 6 ∨ k = 7) with rfl | rfl | rfl | rfl | rfl | rfl | rfl | rfl
  all_goals exact ⟨by kernel_rfl, by kernel_rfl, by kernel_rfl, by kernel_rfl⟩
end Go.Proofs.YtpmapdialjdcbaaDoor
