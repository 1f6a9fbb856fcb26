/-
  Helpers: Zt, Zv, Zw.
-/
import Derived.Test.YtopnkfbcphbbiaaDoorBuneb4fd8039d96
namespace Go.Proofs.YtopnkfbcphbbiaaDoor
open Go.RowKit
open H8 (okP sizeF HTab below_then packV packF isH)
open A9 (Ab ArAt ArMem FrA Ar rawA setRawA useA ptrA Ok9 MapI But SrcN Left9 isTab htab_keep upF src_one bN retireS New9 new9 upN upN_other inR)
open F0 (Pl5 Tn PuAt PoAt FrS noT noT_new plBox plS plS_of below_next Wk Pu Po upO headF headF_eq)
open S1 (RowO MAt Mc Out FeM FeR stepF grN clN clN_lt PlS AlM AlR AlN plK plK_ok plK_wk grs newAlW ifAl Run Inv)

/-- a scan that has ended -/
def ScD (B : Ab) (p : Pl5) (t : Tb) (q : Nat) (lf : List Int) (s : Ar) (w : World) : Prop := ∃ base sc b, b.q = q ∧ ScM B base w p t sc b ∧ sc.lf = lf ∧ endS t sc = true ∧ sc.lk ≤ 1000000 ∧ ArAt B w s
section
variable {B : Ab} {w w' w0 w1 : World} {p : Pl5} {t : Tb} {s s' : Ar} {K M T0 cg q b0 : Nat} {ls : Nat → List Nat} {l lf live : List Int} {v : Value}
theorem ScD.below (h : ScD B p t q lf s w) (hb : Below w.heap.size w w') : ScD B p t q lf s w' := by
  obtain ⟨base, sc, b, h1, h2, h3, h4, h5, h6⟩ := h
  exact ⟨base, sc, b, h1, h2.below hb, h3, h4, h5, h6.below hb⟩
theorem ScD.ar (h : ScD B p t q lf s w) : ArAt B w s := by
  obtain ⟨base, sc, b, h1, h2, h3, h4, h5, h6⟩ := h
  exact h6
theorem ScD.left (h : ScD B p t q lf s w) (hn : lf.length ≤ 100000) : Calls Tryd.prog 17 #[.pointer (some ⟨q, 0, none⟩)] w fun e w' => ∃ v', e = .returned v' ∧ RowO w' w.heap.size v' lf ∧ Below w.heap.size w w' := by
  obtain ⟨base, sc, b, h1, h2, h3, h4, h5, h6⟩ := h
  subst h1 h3
  exact Left_any h2 h5 h4 hn
theorem FrA.of_B {base : Nat} (hb : Below w.heap.size w w1) (h : FrB B base w1 w') (h0 : w.heap.size ≤ base) : FrA B w w' :=
  ⟨h.os.trans hb.os, h.tape.trans hb.tape, h.output.trans hb.output, Nat.le_trans hb.size h.size, fun k hk hn => (h.block k (Nat.lt_of_lt_of_le hk hb.size) fun hh => hh.elim hn (fun e => by omega)).trans (hb.block k hk)⟩
/-- what a scan from its beginning to its end leaves -/
def ScanP (B : Ab) (p : Pl5) (K M : Nat) (t : Tb) (cg : Nat) (ls : Nat → List Nat) (live l : List Int) (T0 : Nat) (s : Ar) (w : World) (q : Nat) (e : Ending) (w' : World) : Prop :=
  e = .returned (.bool true) ∧ ∃ s', ScD B p t q (l.filter (nmd s t)) s' w' ∧ ScE K M t s l cg ls live T0 s' ∧ FrA B w w'
/-- what is asked of memory where a scan begins -/
structure ScOk (K M : Nat) (t : Tb) (s : Ar) (cg : Nat) (ls : Nat → List Nat) (live l : List Int) (T0 : Nat) : Prop where
  W : Wx K M s (4 * t.wk) cg ls live l none none T0
  len : l.length ≤ 10000
  cl : ∀ x, x ∈ l → clN x = 0
  T : TbOk K M t s
  tw : 1 ≤ t.tw
  T0 : T0 + (2 * t.tw + 3 * l.length) ≤ 900000
  us : 0 ≤ s.uses ∧ s.uses ≤ 1000000000000
  few : 2 * t.tw + 3 * l.length ≤ 2000
theorem scan_old (hA : ArAt B w s) : Old B w.heap.size := ⟨fun _ hk => hA.lt hk, fun _ hk => A9.tab_lt hA.tab _ hk⟩
theorem scan_any (hA : ArAt B w s) (hp : PlS K M p) (hS : ScOk K M t s cg ls live l T0) (hl : RowO w b0 v l) :
    Calls Tryd.prog 13 #[.agg #[.int .i64 (t.tw : Int), .int .i64 (t.a : Int)], p.v, .int .i64 (t.wk : Int), v] w fun e w1 => ∃ q, e = .returned (.pointer (some ⟨q, 0, none⟩)) ∧ Below w.heap.size w w1 ∧
      ∀ w2, Below w1.heap.size w1 w2 → Calls Tryd.prog 16 #[ptrA B, ifSc q] w2 (ScanP B p K M t cg ls live l T0 s w q) := by
  refine (NewScan_any p t hl (by have := hS.len; omega) (fun k hk => hA.lt hk) hA.tab).mono fun e w1 hh => ?_
  obtain ⟨b, e1, hb, hM⟩ := hh
  have hne : endS t ⟨0, [], l, [], none⟩ = false := by
    unfold endS
    have := hS.tw
    rw [decide_eq_true (show (⟨0, [], l, [], none⟩ : Sc).lk < 2 * t.tw by show 0 < 2 * t.tw; omega)]
    rfl
  have hrem : rem t ⟨0, [], l, [], none⟩ ≤ 2000 := by
    have := hS.few
    unfold rem
    rw [phO_none rfl]
    simp only
    omega
  refine ⟨b.q, e1, hb, fun w2 hb2 => ?_⟩
  have hb := below_then hb hb2
  have hM := hM.below hb2
  refine (runSc (hA.below hb) hM (ScR.goes (live := live) (cg := cg) (ls0 := ls) (s0 := s) hS.cl hS.T hS.T0 hS.us.1 hS.us.2 hS.len) hp (scan_old hA) hb.size ⟨rfl, ScR.begin hS.W, hne⟩ hrem).mono fun e w3 hh => ?_
  obtain ⟨e2, s', sc, b', hR, he, hA2, hM2, hq, hF⟩ := hh
  obtain ⟨x1, x2⟩ := hR.end_ (fun x hx => hS.W.waits hx) (fun x hx => hS.W.lives hx) he
  obtain ⟨ls', T', hI, -⟩ := hR.I
  have := hI.lk
  have := hS.T.tw
  exact ⟨e2, s', ⟨_, sc, b', hq, hM2, x1, he, by omega, hA2⟩, x2, FrA.of_B hb hF (Nat.le_refl _)⟩
end
/-- names that wait, and words of any kind -/
structure Rt (k n : Nat) (s : Ar) (l : List Int) (N : Nat) : Prop where
  W : ∀ i0, i0 % 4 = 0 → i0 + 4 ≤ 4 * k → Wx (4 * k) (grs (8 * n)) s i0 n (fun _ => []) [] l none none (3 * n)
  nw : s.nw = 8 * n
  nr : s.nr = 4 * k + grs (8 * n) + grs (8 * n) + 1 + 2 * k
  len : l.length = n
  nm : ∀ x, x ∈ l → clN x = 0 ∧ x ≠ 0
  bad : s.bad = false
  fresh : s.fresh = false
  us : 0 ≤ s.uses ∧ s.uses ≤ N
  cC : s.cC = 8 * n
/-- where words stand -/
def wAt (k n : Nat) : Nat := 4 * k + grs (8 * n) + grs (8 * n) + 1
def tbl (k n wk : Nat) : Tb := ⟨wAt k n, k, wk⟩
section
variable {B : Ab} {w w' : World} {k n N wk j b0 : Nat} {s s' : Ar} {l : List Int} {v : Value} {x : Int}
theorem Rt.of (h : MkI (4 * k) (grs (8 * n)) n s n l) (hr : s.nr = 4 * k + grs (8 * n) + grs (8 * n) + 1 + 2 * k) : Rt k n s l (200 * n) :=
  ⟨h.W, h.nw, hr, h.len, h.nm, h.bad, h.fresh, by have := h.us; omega, h.cC⟩
theorem set_in (h : Rt k n s l N) (hj : j < 2 * k) (x : Int) : setRawA s ((wAt k n + j : Nat) : Int) x = { useA s with raw := upN s.raw (wAt k n + j) x } := by
  have e : inR s ((wAt k n + j : Nat) : Int) := by
    have := h.nr
    unfold inR wAt
    omega
  unfold setRawA
  rw [if_pos e]
  rfl
theorem Rt.word (h : Rt k n s l N) (hj : j < 2 * k) (hN : N ≤ 100000000) (x : Int) : Rt k n (setRawA s ((wAt k n + j : Nat) : Int) x) l (N + 1) := by
  have hnr := h.nr
  have e := set_in h hj x
  obtain ⟨u1, u2⟩ := h.us
  refine ⟨fun i0 e1 e2 => (h.W i0 e1 e2).word (by unfold wAt; omega) (by unfold wAt; omega) x, ?_, ?_, h.len, h.nm, ?_, ?_, ?_, ?_⟩
  · rw [e]; exact h.nw
  · rw [e]; exact h.nr
  · rw [e]; exact h.bad
  · rw [e]; exact h.fresh
  · rw [e]
    show 0 ≤ wrap64 (s.uses + 1) ∧ wrap64 (s.uses + 1) ≤ _
    rw [A9.wr64_id (by omega) (by omega)]
    omega
  · rw [e]; exact h.cC
theorem set_raw (h : Rt k n s l N) (hj : j < 2 * k) (x : Int) (i : Nat) : (setRawA s ((wAt k n + j : Nat) : Int) x).raw (wAt k n + i) = if i = j then x else s.raw (wAt k n + i) := by
  rw [set_in h hj x]
  show upN s.raw (wAt k n + j) x (wAt k n + i) = _
  unfold upN
  by_cases e : i = j
  · rw [if_pos (by omega), if_pos e]
  · rw [if_neg (by omega), if_neg e]
theorem Rt.ok (h : Rt k n s l N) (hk : 1 ≤ k) (hk2 : k ≤ 50) (hn : n ≤ 50) (hw : wk < k) (hN : N ≤ 100000000) : ScOk (4 * k) (grs (8 * n)) (tbl k n wk) s n (fun _ => []) [] l (3 * n) := by
  have hl := h.len
  have hg := grs_8 n
  refine ⟨h.W (4 * wk) (by omega) (by omega), by omega, fun x hx => (h.nm x hx).1, ⟨?_, ?_, ?_, ?_⟩, hk, ?_, by have := h.us; omega, ?_⟩
  · show k ≤ 1000
    omega
  · show wAt k n ≤ 100000
    unfold wAt
    omega
  · show wAt k n + 2 * k ≤ s.nr
    rw [h.nr]
    exact Nat.le_refl _
  · show 4 * k + grs (8 * n) + grs (8 * n) < wAt k n
    exact Nat.lt_succ_self _
  · show 3 * n + (2 * k + 3 * l.length) ≤ 900000
    omega
  · show 2 * k + 3 * l.length ≤ 2000
    omega
theorem Rt.st (h : Rt k n s l N) (hk : 1 ≤ k) (hx : x ∈ l) : s.st x = 2 := (h.W 0 rfl (by omega)).waits hx
theorem Rt.nd (h : Rt k n s l N) (hk : 1 ≤ k) : l.Nodup := (h.W 0 rfl (by omega)).nd
/-- which are named, by words -/
theorem nmd_iff (k n wk : Nat) (s : Ar) (x : Int) : nmd s (tbl k n wk) x = true ↔ ∃ j, j < 2 * k ∧ x = s.raw (wAt k n + j) := by
  unfold nmd
  rw [decide_eq_true_iff]
  rfl
end
/-- a statement under way: an arena, the boxes of its places, the row of its names -/
structure Lw (B : Ab) (W w : World) (s : Ar) (p : Pl5) (k X : Nat) (b2 b3 : Nat) (v : Value) (l : List Int) : Prop where
  ar : ArAt B w s
  low : Below W.heap.size W w
  own : ∀ x, B.has x → W.heap.size ≤ x
  g2 : w.heap[b2]? = some (plBox p)
  g3 : w.heap[b3]? = some (.cells #[.int .i64 (k : Int), .int .i64 (X : Int)] 28 (0, 0))
  n2 : ¬ B.has b2
  n3 : ¬ B.has b3
  row : RowO w W.heap.size v l
  nv : ∀ g, v.ownBlock = some g → ¬ B.has g
section
variable {B : Ab} {W w w' : World} {s s' : Ar} {p : Pl5} {k X b2 b3 : Nat} {v : Value} {l : List Int}
theorem Lw.arena (h : Lw B W w s p k X b2 b3 v l) (hA : ArAt B w' s') (hF : FrA B w w') : Lw B W w' s' p k X b2 b3 v l :=
  ⟨hA, h.low.trans (hF.below h.low.size h.own), h.own, (hF.block _ (lt_of_block h.g2) h.n2).trans h.g2, (hF.block _ (lt_of_block h.g3) h.n3).trans h.g3, h.n2, h.n3, h.row.kept fun g hg => hF.block g (h.row.lt g hg).2 (h.nv g hg), h.nv⟩
theorem Lw.below (h : Lw B W w s p k X b2 b3 v l) (hb : Below w.heap.size w w') : Lw B W w' s p k X b2 b3 v l := h.arena (h.ar.below hb) (FrA.of_below hb)
theorem Lw.begin (hA : ArAt B w s) (hr : RowO w W.heap.size v l) (hb : Below W.heap.size W w) (ho : ∀ x, B.has x → W.heap.size ≤ x) (hv : ∀ g, v.ownBlock = some g → ¬ B.has g) (p : Pl5) (k X : Nat) :
    Lw B W ((w.alloc (plBox p)).alloc (.cells #[.int .i64 (k : Int), .int .i64 (X : Int)] 28 (0, 0))) s p k X w.heap.size (w.heap.size + 1) v l := by
  have e1 : (w.alloc (plBox p)).heap.size = w.heap.size + 1 := by simp
  have hb2 : Below w.heap.size w ((w.alloc (plBox p)).alloc (.cells #[.int .i64 (k : Int), .int .i64 (X : Int)] 28 (0, 0))) := ((Below.refl _ _).alloc (Nat.le_refl _) _).alloc (by rw [e1]; omega) _
  refine ⟨hA.below hb2, below_then hb hb2, ho, (Below.heap_alloc _ _ _ (by rw [e1]; omega)).trans (Go.MapKept.heap_alloc w _).1, ?_, fun hh => by have := hA.lt hh; omega, fun hh => by have := hA.lt hh; omega, hr.kept fun g hg => hb2.block g (hr.lt g hg).2, hv⟩
  have := (Go.MapKept.heap_alloc (w.alloc (plBox p)) (.cells #[.int .i64 (k : Int), .int .i64 (X : Int)] 28 (0, 0))).1
  rw [e1] at this
  exact this
theorem Lw.c2 (h : Lw B W w s p k X b2 b3 v l) : plS b2 p w := plS_of h.g2
theorem Lw.c30 (h : Lw B W w s p k X b2 b3 v l) : w.cell? ⟨b3, 0, none⟩ = some (.int .i64 (k : Int)) := cell_of_row _ _ 0 _ _ _ h.g3
theorem Lw.c31 (h : Lw B W w s p k X b2 b3 v l) : w.cell? ⟨b3, 1, none⟩ = some (.int .i64 (X : Int)) := cell_of_row _ _ 1 _ _ _ h.g3
theorem row_cell {r off n cap : Nat} {bs : Nat} (h : RowO w bs (.slice (some ⟨r, off, none⟩) n cap) l) {j : Nat} {x : Int} (hx : l[j]? = some x) : w.cell? ⟨r, off + j, none⟩ = some (.int .i64 x) := by
  obtain ⟨r', off', cap', e, c, -, -⟩ := row_at h hx
  cases e
  exact c
end
end Go.Proofs.YtopnkfbcphbbiaaDoor
namespace Go.Proofs.YtopnkfbcphbbiaaDoor
open Go.RowKit
open H8 (okP sizeF HTab below_then placeI placeI_bd place_any)
open A9 (Ab ArAt)

theorem wd_at (a x i : Nat) (h1 : a ≤ 1000000) (h2 : x ≤ 1000000) (h3 : i ≤ 1000000) : wrap64 (wrap64 ((a : Int) + wrap64 (2 * (x : Int))) + (i : Int)) = ((a + 2 * x + i : Nat) : Int) := by
  rw [A9.wr64_id (x := 2 * (x : Int)) (by omega) (by omega), A9.wr64_id (x := (a : Int) + 2 * (x : Int)) (by omega) (by omega), A9.wr64_id (by omega) (by omega)]
  omega
/-- a worker's word, by numbers -/
theorem Word_nat (tw : Int) (a x i : Nat) (h1 : a ≤ 1000000) (h2 : x ≤ 1000000) (h3 : i ≤ 1000000) (w : World) : Calls Tryd.prog 12 #[.agg #[.int .i64 tw, .int .i64 (a : Int)], .int .i64 (x : Int), .int .i64 (i : Int)] w fun e w' => e = .returned (.int .i64 ((a + 2 * x + i : Nat) : Int)) ∧ Below w.heap.size w w' := Word_any tw a x i _ (wd_at a x i h1 h2 h3) w
/-- what awake is asked for -/
def AwkP (w : World) : Prop := Calls Tryd.prog 10 #[] w fun e w' => e = .returned (.bool true) ∧ Below w.heap.size w w'
theorem place_nat (a : Int) (n : Nat) (h : 1 ≤ n) : ∃ y : Nat, placeI a n = y ∧ y < n := ⟨(placeI a n).toNat, by have := placeI_bd a n (by omega); omega, by have := placeI_bd a n (by omega); omega⟩
set_option maxHeartbeats 4000000 in
set_option maxRecDepth 4000 in
theorem words_walk (a0 a1 a2 a3 : Int) (w : World) (ka : ∀ wx, HTab wx → AwkP wx) (hT : HTab w) : Calls Tryd.prog 5 #[.int .i64 a0, .int .i64 a1, .int .i64 a2, .int .i64 a3] w fun e w' => e = .returned (.bool true) ∧ Below w.heap.size w w' := by
  have P0 := fun wx => place_any a0 64 wx (by omega) (by omega)
  have P1 := fun wx => place_any a1 1000 wx (by omega) (by omega)
  have P3 := fun wx => place_any a3 2 wx (by omega) (by omega)
  obtain ⟨y, hy, hy4⟩ := place_nat a0 64 (by omega)
  obtain ⟨t, ht, ht4⟩ := place_nat a1 1000 (by omega)
  obtain ⟨s, hs, hs4⟩ := place_nat a3 2 (by omega)
  rw [show ((64 : Nat) : Int) = 64 from rfl] at hy
  rw [show ((1000 : Nat) : Int) = 1000 from rfl] at ht
  rw [show ((2 : Nat) : Int) = 2 from rfl] at hs
  rw [hy] at P0
  rw [ht] at P1
  rw [hs] at P3
  clear hy ht hs
  obtain ⟨k, hk⟩ : ∃ n, n = 1 + y := ⟨_, rfl⟩
  have hnI : (1 : Int) + (y : Int) = (k : Int) := by omega
  have hnW : wrap64 (k : Int) = (k : Int) := A9.wr64_id (by omega) (by omega)
  obtain ⟨x, hx, hx4⟩ := place_nat a2 k (by omega)
  have P2 := fun wx => place_any a2 (k : Int) wx (by omega) (by omega)
  rw [hx] at P2
  have kR := fun wx => HRaw_any k t (by omega) wx
  have kW := fun wx => Word_nat (k : Int) t x s (by omega) (by omega) (by omega) wx
  have kV := fun wx => Word_nat (k : Int) t (k - 1) 1 (by omega) (by omega) (by omega) wx
  have e1 : (k : Int) * 2 = ((2 * k : Nat) : Int) := by omega
  have e2 : (t : Int) + (x : Int) * 2 + (s : Int) = ((t + 2 * x + s : Nat) : Int) := by omega
  have e3 : (k : Int) - 1 = ((k - 1 : Nat) : Int) := by omega
  have e4 : (t : Int) + ((2 * k : Nat) : Int) - 1 = ((t + 2 * (k - 1) + 1 : Nat) : Int) := by omega
  have b1 : 0 ≤ ((2 * k : Nat) : Int) ∧ ((2 * k : Nat) : Int) ≤ 128 := by omega
  unfold AwkP at ka
  have HT : Hid (HTab w) := hT
  have HK : Hid (1 ≤ k ∧ k ≤ 64) := ⟨by omega, by omega⟩
  clear hT hx hk
  generalize ((2 * k : Nat) : Int) = n2 at *
  generalize ((t + 2 * x + s : Nat) : Int) = n3 at *
  generalize ((t + 2 * (k - 1) + 1 : Nat) : Int) = n4 at *
  generalize ((k - 1 : Nat) : Int) = n5 at *
  go_enter Tryd.func5, Tryd.ntmps5
  go_wp2_with fail
  refine (P0 _).mono ?_
  rintro e w ⟨rfl, rfl⟩
  go_wp2_with fail
  refine (P1 _).mono ?_
  rintro e w ⟨rfl, rfl⟩
  go_wp2_with fail
  refine (kR _).mono ?_
  rintro e w1 ⟨rfl, hb1⟩
  go_wp2_with fail
  refine (P2 _).mono ?_
  rintro e w ⟨rfl, rfl⟩
  go_wp2_with fail
  refine (P3 _).mono ?_
  rintro e w ⟨rfl, rfl⟩
  go_wp2_with fail
  have hG : (w1.alloc (.cells #[.int .i64 (k : Int), .int .i64 (t : Int)] 28 (0, 0))).heap[w1.heap.size]? = some (.cells #[.int .i64 (k : Int), .int .i64 (t : Int)] 28 (0, 0)) := (Go.MapKept.heap_alloc w1 _).1
  have hbW : Below w.heap.size w (w1.alloc (.cells #[.int .i64 (k : Int), .int .i64 (t : Int)] 28 (0, 0))) := hb1.alloc hb1.size _
  refine (kW _).mono ?_
  rintro e w3 ⟨rfl, hb3⟩
  have hG3 := (hb3.block _ (lt_of_block hG)).trans hG
  have c0 : w3.cell? ⟨w1.heap.size, 0, none⟩ = some (.int .i64 (k : Int)) := cell_of_row _ _ 0 _ _ _ hG3
  have c1 : w3.cell? ⟨w1.heap.size, 1, none⟩ = some (.int .i64 (t : Int)) := cell_of_row _ _ 1 _ _ _ hG3
  have HB3 : Hid (Below w.heap.size w w3) := below_then hbW hb3
  clear hG hG3 hbW hb3 hb1
  go_wp2_with fail
  refine (kV _).mono ?_
  rintro e w4 ⟨rfl, hb4⟩
  have HB4 : Hid (Below w.heap.size w w4) := below_then HB3.out hb4
  clear hb4 c0 c1
  go_wp2_with fail
  refine (ka _ (HT.out.below HB4.out)).mono ?_
  rintro e w5 ⟨rfl, hb5⟩
  go_wp2_with fail
  go_ret
  exact ⟨rfl, below_then HB4.out hb5⟩
end Go.Proofs.YtopnkfbcphbbiaaDoor
namespace Go.Proofs.YtopnkfbcphbbiaaDoor
open Go.RowKit
open H8 (okP sizeF HTab below_then placeI placeI_bd place_any)
open A9 (Ab ArAt FrA Ar setRawA ptrA NAt)
open F0 (Pl5 plBox)
open S1 (RowO PlS plK plK_ok grs)

theorem make2_any {w : World} {k n : Nat} (hT : HTab w) (hk : 1 ≤ k) (hk2 : k ≤ 50) (hn1 : 1 ≤ n) (hn : n ≤ 50) : Calls Tryd.prog 9 #[.int .i64 (k : Int), .int .i64 (n : Int)] w fun e w1 => ∃ (B : Ab) (s : Ar) (l : List Int) (r off cap X : Nat) (p : Pl5),
    e = .returned (.tuple #[ptrA B, .agg #[.int .i64 p.wk, .int .i64 p.hd, .int .i64 p.ln, .int .i64 p.gn, .int .i64 p.cv], .agg #[.int .i64 (k : Int), .int .i64 (X : Int)], .slice (some ⟨r, off, none⟩) n cap]) ∧ X = wAt k n ∧ n ≤ cap ∧ cap ≤ maxLen ∧ PlS (4 * k) (grs (8 * n)) p ∧ Rt k n s l (200 * n) ∧ (∀ j, wAt k n ≤ j → s.raw j = 0) ∧
    Lw B w ((w1.alloc (.cells #[.int .i64 p.wk, .int .i64 p.hd, .int .i64 p.ln, .int .i64 p.gn, .int .i64 p.cv] 26 (0, 0))).alloc (.cells #[.int .i64 (k : Int), .int .i64 (X : Int)] 28 (0, 0))) s p k X w1.heap.size (w1.heap.size + 1) (.slice (some ⟨r, off, none⟩) n cap) l := by
  refine (make1_any (k := k) (n := n) hT hk hk2 hn).mono ?_
  rintro e w1 ⟨B, s, v, l, rfl, hA, hI, hnr, hrow, hb, hBo, hv⟩
  have hlen := hI.len
  obtain ⟨x, hx⟩ : ∃ x, l[0]? = some x := ⟨_, List.getElem?_eq_getElem (by omega)⟩
  obtain ⟨r, off, cap, rfl, -, hc1, hc2⟩ := row_at hrow hx
  rw [hlen] at hc1 hrow hv ⊢
  exact ⟨B, s, l, r, off, cap, _, plK k (8 * n), rfl, rfl, hc1, hc2, plK_ok (a := k) (m := 8 * n) hk (by omega), Rt.of hI hnr, fun j hj => hI.far j hj, Lw.begin hA hrow hb hBo hv _ _ _⟩
section
variable {B : Ab} {W w : World} {s : Ar} {p : Pl5} {k X b2 b3 n j N : Nat} {v : Value} {l : List Int}
theorem wAt_le (hk : k ≤ 50) : wAt k 4 ≤ 100000 := by
  have := S1.grs 32
  unfold wAt
  have : grs (8 * 4) = 4 := rfl
  omega
theorem set_word (h : Lw B W w s p k X b2 b3 v l) (hX : X = wAt k n) (hR : Rt k n s l N) (hj : j < 2 * k) (hN : N ≤ 1000000) (x : Int) : Calls Tryd.prog 11 #[ptrA B, .int .i64 ((X + j : Nat) : Int), .int .i64 x] w fun e w' => e = .returned (.tuple #[]) ∧ ∃ s', Lw B W w' s' p k X b2 b3 v l ∧ Rt k n s' l (N + 1) ∧ (∀ i, s'.raw (X + i) = if i = j then x else s.raw (X + i)) ∧ s'.st = s.st := by
  subst hX
  refine (A9.SetRaw_any h.ar _ x).mono ?_
  rintro e w' ⟨rfl, hA, hF⟩
  exact ⟨rfl, _, h.arena hA hF, hR.word hj (by omega) x, set_raw hR hj x, by rw [set_in hR hj]; rfl⟩
end
/-- the i-th word of all -/
theorem Word_ith (tw : Int) (a i : Nat) (h1 : a ≤ 100000) (h2 : i ≤ 100000) (w : World) : Calls Tryd.prog 12 #[.agg #[.int .i64 tw, .int .i64 (a : Int)], .int .i64 ((i : Int) / 2), .int .i64 ((i : Int) % 2)] w fun e w' => e = .returned (.int .i64 ((a + i : Nat) : Int)) ∧ Below w.heap.size w w' := by
  have h := Word_nat tw a (i / 2) (i % 2) (by omega) (by omega) (by omega) w
  rw [show a + 2 * (i / 2) + i % 2 = a + i by omega, show ((i / 2 : Nat) : Int) = (i : Int) / 2 by omega, show ((i % 2 : Nat) : Int) = (i : Int) % 2 by omega] at h
  exact h
theorem filter_none {f : Int → Bool} {l : List Int} (h : ∀ x, x ∈ l → f x = false) : l.filter f = [] := List.filter_eq_nil_iff.2 fun x hx => by rw [h x hx]; decide
theorem nmd_no {s : Ar} {t : Tb} {x : Int} (h : ∀ j, j < 2 * t.tw → s.raw (t.a + j) ≠ x) : nmd s t x = false := decide_eq_false fun ⟨j, hj, e⟩ => h j hj e.symm
/-- words that name none of them -/
def OtR (B : Ab) (W : World) (p : Pl5) (k X b2 b3 n : Nat) (v : Value) (l : List Int) (i : Nat) (w : World) : Prop := ∃ s, Lw B W w s p k X b2 b3 v l ∧ Rt k n s l (200 * n + i) ∧ ∀ j, j < 2 * k → s.raw (X + j) ∉ l
set_option maxHeartbeats 4000000 in
set_option maxRecDepth 4000 in
theorem others_walk (a0 : Int) (ad : Option Addr) (len cap0 : Nat) (hl : len ≤ 9223372036854775807) (w : World) (hN : NAt w ad len) (ka : ∀ wx, HTab wx → AwkP wx) (hT : HTab w) : Calls Tryd.prog 7 #[.int .i64 a0, .slice ad len cap0] w fun e w' => e = .returned (.bool true) ∧ Below w.heap.size w w' := by
  have P0 := fun wx => place_any a0 6 wx (by omega) (by omega)
  obtain ⟨y, hy, hy4⟩ := place_nat a0 6 (by omega)
  rw [show ((6 : Nat) : Int) = 6 from rfl] at hy
  rw [hy] at P0
  clear hy
  obtain ⟨k, hk⟩ : ∃ n, n = 1 + y := ⟨_, rfl⟩
  have hnI : (1 : Int) + (y : Int) = (k : Int) := by omega
  have hnW : wrap64 (k : Int) = (k : Int) := A9.wr64_id (by omega) (by omega)
  have hk6 : k ≤ 6 := by omega
  have HK : Hid (1 ≤ k ∧ k ≤ 6) := ⟨by omega, by omega⟩
  have kM := fun wx (hx : HTab wx) => make2_any (w := wx) (k := k) (n := 4) hx (by omega) (by omega) (by omega) (by omega)
  have HT : Hid (HTab w) := hT
  unfold AwkP at ka
  clear hT hk hy4
  go_enter Tryd.func7, Tryd.ntmps7
  go_wp2_with fail
  refine (P0 _).mono ?_
  rintro e w ⟨rfl, rfl⟩
  go_wp2_with fail
  refine (kM _ HT.out).mono ?_
  rintro e w1 ⟨B, s, l, r, off, cap, X, p, rfl, hX, hc1, hc2, hp, hR, hfar, hL⟩
  obtain ⟨w2, hw2⟩ : ∃ w2, w2 = (w1.alloc (.cells #[.int .i64 p.wk, .int .i64 p.hd, .int .i64 p.ln, .int .i64 p.gn, .int .i64 p.cv] 26 (0, 0))).alloc (.cells #[.int .i64 (k : Int), .int .i64 (X : Int)] 28 (0, 0)) := ⟨_, rfl⟩
  have HX : Hid (X = wAt k 4 ∧ PlS (4 * k) (grs (8 * 4)) p) := ⟨hX, hp⟩
  have HR : Hid (OtR B w p k X w1.heap.size (w1.heap.size + 1) 4 (.slice (some ⟨r, off, none⟩) 4 cap) l 0 ((w1.alloc (.cells #[.int .i64 p.wk, .int .i64 p.hd, .int .i64 p.ln, .int .i64 p.gn, .int .i64 p.cv] 26 (0, 0))).alloc (.cells #[.int .i64 (k : Int), .int .i64 (X : Int)] 28 (0, 0)))) := ⟨s, hL, hR, fun j hj hm => (hR.nm _ hm).2 (hfar _ (by omega))⟩
  clear hX hp hR hfar hL kM P0
  go_wp2_with fail
  rw [← hw2] at HR ⊢
  clear hw2
  generalize w1.heap.size + 1 = b3 at *
  generalize w1.heap.size = b2 at *
  go_loopw [10] (fun iv wr => ∃ i : Nat, i ≤ 12 ∧ i ≤ 2 * k ∧ i ≤ len ∧ iv = .int .i64 i ∧ OtR B w p k X b2 b3 4 (.slice (some ⟨r, off, none⟩) 4 cap) l i wr) (fun iv _ => 12 - (intOf iv).toNat)
  case atStart => exact ⟨0, by omega, by omega, by omega, rfl, HR.out⟩
  case round =>
    obtain ⟨i, hi12, hi, hil, rfl, hR⟩ := hrel
    clear HR
    obtain ⟨wq, rfl⟩ : ∃ W, W = wr := ⟨wr, rfl⟩
    have e2k : (k : Int) * 2 = ((2 * k : Nat) : Int) := by omega
    by_cases hlt : i < len ∧ i < 2 * k
    · obtain ⟨hlt, hlt5⟩ := hlt
      obtain ⟨s, hL, hRt, hw⟩ := hR
      obtain ⟨b, o, z, rfl, hcz⟩ := hN.low hL.low i hlt
      have HN0 : Hid (NAt w (some ⟨b, o, none⟩) len) := hN
      have hli : (i : Int) < (len : Int) := by omega
      have hlk : (i : Int) < (k : Int) * 2 := by omega
      have HR : Hid (Lw B w wq s p k X b2 b3 (.slice (some ⟨r, off, none⟩) 4 cap) l ∧ Rt k 4 s l (200 * 4 + i) ∧ ∀ j, j < 2 * k → s.raw (X + j) ∉ l) := ⟨hL, hRt, hw⟩
      clear hN hL hRt hw
      go_wp2_with fail
      go_loopw [11, 12] (fun vv kv wr => ∃ (q : Nat) (v : Int), q ≤ 4 ∧ vv = .int .i64 v ∧ kv = .int .i64 q ∧ (∀ j x, j < q → l[j]? = some x → v ≠ x) ∧ wr = wq) (fun _ kv _ => 4 - (intOf kv).toNat)
      case atStart => exact ⟨0, z, by omega, rfl, rfl, fun j x hj => absurd hj (by omega), rfl⟩
      case round =>
        obtain ⟨q, v, hq, rfl, rfl, hv, rfl⟩ := hrel
        by_cases hq4 : q < 4
        · have hqi : (q : Int) < 4 := by omega
          obtain ⟨x, hx⟩ : ∃ x, l[q]? = some x := ⟨_, List.getElem?_eq_getElem (by rw [HR.out.2.1.len]; exact hq4)⟩
          have cq := row_cell HR.out.1.row hx
          have hx0 : ∀ y, y ∈ l → (0 : Int) ≠ y := fun y hy e => (HR.out.2.1.nm y hy).2 e.symm
          have HV : Hid ((∀ j x, j < q → l[j]? = some x → v ≠ x) ∧ l[q]? = some x ∧ (∀ y, y ∈ l → (0 : Int) ≠ y)) := ⟨hv, hx, hx0⟩
          clear hv hx hx0
          by_cases hvx : v = x
          · subst hvx
            go_wp2_with fail
            go_roundw
            case rel => exact ⟨q + 1, 0, by omega, rfl, by go_num, fun j y hj hy => HV.out.2.2 y (List.mem_of_getElem? hy), trivial⟩
            case measure => simp [intOf]; omega
          · go_wp2_with fail
            go_roundw
            case rel => exact ⟨q + 1, v, by omega, rfl, by go_num, fun j y hj hy e => by
              by_cases hjq : j < q
              · exact HV.out.1 j y hjq hy e
              · obtain rfl : j = q := by omega
                rw [HV.out.2.1] at hy
                cases hy
                exact hvx e, trivial⟩
            case measure => simp [intOf]; omega
        · have hqi : ¬ (q : Int) < 4 := by omega
          have hvl : v ∉ l := fun hm => by
            obtain ⟨j, hj, e⟩ := List.mem_iff_getElem.1 hm
            have hj4 : j < 4 := by have := HR.out.2.1.len; omega
            exact hv j v (by omega) (by rw [List.getElem?_eq_getElem hj, e]) rfl
          have kW := fun wx => Word_ith (k : Int) X i (by rw [HX.out.1]; exact wAt_le (by have := HK.out; omega)) (by omega) wx
          have HL2 : Hid (v ∉ l ∧ i < 2 * k) := ⟨hvl, hlt5⟩
          have c6 := HR.out.1.c30
          have c7 := HR.out.1.c31
          clear hv hvl hq hil hlt
          have kS := fun wx (hx : Lw B w wx s p k X b2 b3 (.slice (some ⟨r, off, none⟩) 4 cap) l) => set_word hx HX.out.1 HR.out.2.1 HL2.out.2 (by have := HL2.out; have := HK.out; omega) v
          generalize ((X + i : Nat) : Int) = xi at *
          go_wp2_with fail
          refine (kW _).mono ?_
          rintro e w3 ⟨rfl, hb3⟩
          have HL3 : Hid _ := HR.out.1.below hb3
          clear kW hb3 c6 c7
          go_wp2_with fail
          refine (kS _ HL3.out).mono ?_
          rintro e w4 ⟨rfl, s4, hL4, hR4, hw4, -⟩
          have HE : Hid (OtR B w p k X b2 b3 4 (.slice (some ⟨r, off, none⟩) 4 cap) l (i + 1) w4) := ⟨s4, hL4, hR4, fun j hj => by
            rw [hw4 j]
            split
            · exact HL2.out.1
            · exact HR.out.2.2 j hj⟩
          clear kS hL4 hR4 hw4
          go_wp2_with fail
          go_roundw
          case rel => exact ⟨i + 1, by have := HL2.out; omega, by have := HL2.out; omega, by omega, by go_num, HE.out⟩
          case measure => simp [intOf]; omega
    · obtain ⟨s, hL, hRt, hw⟩ := hR
      have hX := HX.out.1
      have hfl : l.filter (nmd s ⟨X, k, 0⟩) = [] := filter_none fun x hx => nmd_no fun j hj e => hw j hj (e ▸ hx)
      have hnm : ∀ x, x ∈ l → nmd s ⟨X, k, 0⟩ x = false := fun x hx => nmd_no fun j hj e => hw j hj (e ▸ hx)
      have kN := scan_any (t := ⟨X, k, 0⟩) hL.ar HX.out.2 (by rw [hX]; exact hRt.ok (wk := 0) HK.out.1 (by have := HK.out; omega) (by omega) HK.out.1 (by have := HK.out; omega)) hL.row
      unfold Pl5.v at kN
      have c6 := hL.c30
      have c7 := hL.c31
      obtain ⟨d0, d1, d2, d3, d4⟩ := hL.c2
      have HS : Hid (Lw B w wq s p k X b2 b3 (.slice (some ⟨r, off, none⟩) 4 cap) l ∧ Rt k 4 s l (200 * 4 + i) ∧ l.filter (nmd s ⟨X, k, 0⟩) = [] ∧ ∀ x, x ∈ l → nmd s ⟨X, k, 0⟩ x = false) := ⟨hL, hRt, hfl, hnm⟩
      have hor : ¬ (i : Int) < (len : Int) ∨ (i : Int) < (len : Int) ∧ ¬ (i : Int) < (k : Int) * 2 := by omega
      clear hL hRt hw hX hfl hnm hlt hi hil hi12 e2k
      rcases hor with h1 | ⟨h1, h2⟩
      all_goals
        go_wp2_with fail
        refine kN.mono ?_
        rintro e w5 ⟨q, rfl, hb5, kR⟩
        have HL5 : Hid (Lw B w w5 s p k X b2 b3 (.slice (some ⟨r, off, none⟩) 4 cap) l) := HS.out.1.below hb5
        unfold ScanP at kR
        rw [HS.out.2.2.1] at kR
        have kR5 := kR w5 (Below.refl _ _)
        unfold ifSc at kR5
        clear kN hb5 kR c6 c7 d0 d1 d2 d3 d4
        go_wp2_with fail
        refine kR5.mono ?_
        rintro e w6 ⟨rfl, s6, hD, hE, hF⟩
        have HL6 : Hid (Lw B w w6 s6 p k X b2 b3 (.slice (some ⟨r, off, none⟩) 4 cap) l ∧ s6.bad = false ∧ ∀ x, x ∈ l → s6.st x = 0) := ⟨HS.out.1.arena hD.ar hF, hE.bad.trans HS.out.2.1.bad, fun x hx => by rw [hE.dead x hx, HS.out.2.2.2 x hx]; rfl⟩
        have kL := hD.left (by simp)
        clear kR5 hD hE hF
        go_wp2_with fail
        refine kL.mono ?_
        rintro e w7 ⟨v7, rfl, hr7, hb7⟩
        obtain ⟨a7, c7, rfl⟩ := hr7.len
        have HL7 : Hid (Lw B w w7 s6 p k X b2 b3 (.slice (some ⟨r, off, none⟩) 4 cap) l) := HL6.out.1.below hb7
        clear kL hb7 hr7
        simp only [List.length_nil]
        go_wp2_with fail
        go_loopw [14] (fun kv wr => ∃ m : Nat, m ≤ 4 ∧ kv = .int .i64 m ∧ wr = w7) (fun kv _ => 4 - (intOf kv).toNat)
        case atStart => exact ⟨0, by omega, rfl, rfl⟩
        case round =>
          obtain ⟨m, hm, rfl, rfl⟩ := hrel
          by_cases hm4 : m < 4
          · have hmi : (m : Int) < 4 := by omega
            obtain ⟨x, hx⟩ : ∃ x, l[m]? = some x := ⟨_, List.getElem?_eq_getElem (by rw [HS.out.2.1.len]; exact hm4)⟩
            have cq := row_cell HL7.out.row hx
            have kS := A9.State_any HL7.out.ar x
            rw [HL6.out.2.2 x (List.mem_of_getElem? hx)] at kS
            clear hx
            go_wp2_with fail
            refine kS.mono ?_
            rintro e w8 ⟨rfl, rfl⟩
            clear kS cq
            go_wp2_with fail
            go_roundw
            case rel => exact ⟨m + 1, by omega, by go_num, trivial⟩
            case measure => simp [intOf]; omega
          · have hmi : ¬ (m : Int) < 4 := by omega
            have kF := A9.Fault_any HL7.out.ar
            rw [HL6.out.2.1] at kF
            go_wp2_with fail
            refine kF.mono ?_
            rintro e w8 ⟨rfl, rfl⟩
            go_wp2_with fail
            refine (ka _ (HT.out.below HL7.out.low)).mono ?_
            rintro e w9 ⟨rfl, hb9⟩
            go_wp2_with fail
            go_ret
            exact ⟨rfl, below_then HL7.out.low hb9⟩
end Go.Proofs.YtopnkfbcphbbiaaDoor
