/-
  Helpers: Zt, Zv, Zu.
-/
import Derived.Test.YtopnkfbcphbbiaaDoorBuneb4fd8039d96
namespace Go.Proofs.YtopnkfbcphbbiaaDoor
open Go.RowKit
open H8 (okP sizeF HTab below_then packV packF isH)
open A9 (Ab ArAt ArMem FrA Ar rawA setRawA useA ptrA Ok9 MapI But SrcN Left9 isTab htab_keep upF src_one bN retireS New9 new9 upN upN_other inR)
open F0 (Pl5 Tn PuAt PoAt FrS noT noT_new plBox plS plS_of below_next Wk Pu Po upO headF headF_eq)
open S1 (RowO MAt Mc Out FeM FeR stepF grN clN clN_lt PlS AlM AlR AlN plK plK_ok plK_wk grs newAlW ifAl Run Inv)

/-- a scan that has ended -/
def ScD (B : Ab) (p : Pl5) (t : Tb) (q : Nat) (lf : List Int) (s : Ar) (w : World) : Prop := ∃ base sc b, b.q = q ∧ ScM B base w p t sc b ∧ sc.lf = lf ∧ endS t sc = true ∧ sc.lk ≤ 1000000 ∧ ArAt B w s
section
variable {B : Ab} {w w' w0 w1 : World} {p : Pl5} {t : Tb} {s s' : Ar} {K M T0 cg q b0 : Nat} {ls : Nat → List Nat} {l lf live : List Int} {v : Value}
theorem ScD.below (h : ScD B p t q lf s w) (hb : Below w.heap.size w w') : ScD B p t q lf s w' := by
  obtain ⟨base, sc, b, h1, h2, h3, h4, h5, h6⟩ := h
  exact ⟨base, sc, b, h1, h2.below hb, h3, h4, h5, h6.below hb⟩
theorem ScD.ar (h : ScD B p t q lf s w) : ArAt B w s := by
  obtain ⟨base, sc, b, h1, h2, h3, h4, h5, h6⟩ := h
  exact h6
theorem ScD.left (h : ScD B p t q lf s w) (hn : lf.length ≤ 100000) : Calls Tryd.prog 17 #[.pointer (some ⟨q, 0, none⟩)] w fun e w' => ∃ v', e = .returned v' ∧ RowO w' w.heap.size v' lf ∧ Below w.heap.size w w' := by
  obtain ⟨base, sc, b, h1, h2, h3, h4, h5, h6⟩ := h
  subst h1 h3
  exact Left_any h2 h5 h4 hn
theorem FrA.of_B {base : Nat} (hb : Below w.heap.size w w1) (h : FrB B base w1 w') (h0 : w.heap.size ≤ base) : FrA B w w' :=
  ⟨h.os.trans hb.os, h.tape.trans hb.tape, h.output.trans hb.output, Nat.le_trans hb.size h.size, fun k hk hn => (h.block k (Nat.lt_of_lt_of_le hk hb.size) fun hh => hh.elim hn (fun e => by omega)).trans (hb.block k hk)⟩
/-- what a scan from its beginning to its end leaves -/
def ScanP (B : Ab) (p : Pl5) (K M : Nat) (t : Tb) (cg : Nat) (ls : Nat → List Nat) (live l : List Int) (T0 : Nat) (s : Ar) (w : World) (q : Nat) (e : Ending) (w' : World) : Prop :=
  e = .returned (.bool true) ∧ ∃ s', ScD B p t q (l.filter (nmd s t)) s' w' ∧ ScE K M t s l cg ls live T0 s' ∧ FrA B w w'
/-- what is asked of memory where a scan begins -/
structure ScOk (K M : Nat) (t : Tb) (s : Ar) (cg : Nat) (ls : Nat → List Nat) (live l : List Int) (T0 : Nat) : Prop where
  W : Wx K M s (4 * t.wk) cg ls live l none none T0
  len : l.length ≤ 10000
  cl : ∀ x, x ∈ l → clN x = 0
  T : TbOk K M t s
  tw : 1 ≤ t.tw
  T0 : T0 + (2 * t.tw + 3 * l.length) ≤ 900000
  us : 0 ≤ s.uses ∧ s.uses ≤ 1000000000000
  few : 2 * t.tw + 3 * l.length ≤ 2000
theorem scan_old (hA : ArAt B w s) : Old B w.heap.size := ⟨fun _ hk => hA.lt hk, fun _ hk => A9.tab_lt hA.tab _ hk⟩
theorem scan_any (hA : ArAt B w s) (hp : PlS K M p) (hS : ScOk K M t s cg ls live l T0) (hl : RowO w b0 v l) :
    Calls Tryd.prog 13 #[.agg #[.int .i64 (t.tw : Int), .int .i64 (t.a : Int)], p.v, .int .i64 (t.wk : Int), v] w fun e w1 => ∃ q, e = .returned (.pointer (some ⟨q, 0, none⟩)) ∧ Below w.heap.size w w1 ∧
      ∀ w2, Below w1.heap.size w1 w2 → Calls Tryd.prog 16 #[ptrA B, ifSc q] w2 (ScanP B p K M t cg ls live l T0 s w q) := by
  refine (NewScan_any p t hl (by have := hS.len; omega) (fun k hk => hA.lt hk) hA.tab).mono fun e w1 hh => ?_
  obtain ⟨b, e1, hb, hM⟩ := hh
  have hne : endS t ⟨0, [], l, [], none⟩ = false := by
    unfold endS
    have := hS.tw
    rw [decide_eq_true (show (⟨0, [], l, [], none⟩ : Sc).lk < 2 * t.tw by show 0 < 2 * t.tw; omega)]
    rfl
  have hrem : rem t ⟨0, [], l, [], none⟩ ≤ 2000 := by
    have := hS.few
    unfold rem
    rw [phO_none rfl]
    simp only
    omega
  refine ⟨b.q, e1, hb, fun w2 hb2 => ?_⟩
  have hb := below_then hb hb2
  have hM := hM.below hb2
  refine (runSc (hA.below hb) hM (ScR.goes (live := live) (cg := cg) (ls0 := ls) (s0 := s) hS.cl hS.T hS.T0 hS.us.1 hS.us.2 hS.len) hp (scan_old hA) hb.size ⟨rfl, ScR.begin hS.W, hne⟩ hrem).mono fun e w3 hh => ?_
  obtain ⟨e2, s', sc, b', hR, he, hA2, hM2, hq, hF⟩ := hh
  obtain ⟨x1, x2⟩ := hR.end_ (fun x hx => hS.W.waits hx) (fun x hx => hS.W.lives hx) he
  obtain ⟨ls', T', hI, -⟩ := hR.I
  have := hI.lk
  have := hS.T.tw
  exact ⟨e2, s', ⟨_, sc, b', hq, hM2, x1, he, by omega, hA2⟩, x2, FrA.of_B hb hF (Nat.le_refl _)⟩
end
/-- names that wait, and words of any kind -/
structure Rt (k n : Nat) (s : Ar) (l : List Int) (N : Nat) : Prop where
  W : ∀ i0, i0 % 4 = 0 → i0 + 4 ≤ 4 * k → Wx (4 * k) (grs (8 * n)) s i0 n (fun _ => []) [] l none none (3 * n)
  nw : s.nw = 8 * n
  nr : s.nr = 4 * k + grs (8 * n) + grs (8 * n) + 1 + 2 * k
  len : l.length = n
  nm : ∀ x, x ∈ l → clN x = 0 ∧ x ≠ 0
  bad : s.bad = false
  fresh : s.fresh = false
  us : 0 ≤ s.uses ∧ s.uses ≤ N
  cC : s.cC = 8 * n
/-- where words stand -/
def wAt (k n : Nat) : Nat := 4 * k + grs (8 * n) + grs (8 * n) + 1
def tbl (k n wk : Nat) : Tb := ⟨wAt k n, k, wk⟩
section
variable {B : Ab} {w w' : World} {k n N wk j b0 : Nat} {s s' : Ar} {l : List Int} {v : Value} {x : Int}
theorem Rt.of (h : MkI (4 * k) (grs (8 * n)) n s n l) (hr : s.nr = 4 * k + grs (8 * n) + grs (8 * n) + 1 + 2 * k) : Rt k n s l (200 * n) :=
  ⟨h.W, h.nw, hr, h.len, h.nm, h.bad, h.fresh, by have := h.us; omega, h.cC⟩
theorem set_in (h : Rt k n s l N) (hj : j < 2 * k) (x : Int) : setRawA s ((wAt k n + j : Nat) : Int) x = { useA s with raw := upN s.raw (wAt k n + j) x } := by
  have e : inR s ((wAt k n + j : Nat) : Int) := by
    have := h.nr
    unfold inR wAt
    omega
  unfold setRawA
  rw [if_pos e]
  rfl
theorem Rt.word (h : Rt k n s l N) (hj : j < 2 * k) (hN : N ≤ 100000000) (x : Int) : Rt k n (setRawA s ((wAt k n + j : Nat) : Int) x) l (N + 1) := by
  have hnr := h.nr
  have e := set_in h hj x
  obtain ⟨u1, u2⟩ := h.us
  refine ⟨fun i0 e1 e2 => (h.W i0 e1 e2).word (by unfold wAt; omega) (by unfold wAt; omega) x, ?_, ?_, h.len, h.nm, ?_, ?_, ?_, ?_⟩
  · rw [e]; exact h.nw
  · rw [e]; exact h.nr
  · rw [e]; exact h.bad
  · rw [e]; exact h.fresh
  · rw [e]
    show 0 ≤ wrap64 (s.uses + 1) ∧ wrap64 (s.uses + 1) ≤ _
    rw [A9.wr64_id (by omega) (by omega)]
    omega
  · rw [e]; exact h.cC
theorem set_raw (h : Rt k n s l N) (hj : j < 2 * k) (x : Int) (i : Nat) : (setRawA s ((wAt k n + j : Nat) : Int) x).raw (wAt k n + i) = if i = j then x else s.raw (wAt k n + i) := by
  rw [set_in h hj x]
  show upN s.raw (wAt k n + j) x (wAt k n + i) = _
  unfold upN
  by_cases e : i = j
  · rw [if_pos (by omega), if_pos e]
  · rw [if_neg (by omega), if_neg e]
theorem Rt.ok (h : Rt k n s l N) (hk : 1 ≤ k) (hk2 : k ≤ 50) (hn : n ≤ 50) (hw : wk < k) (hN : N ≤ 100000000) : ScOk (4 * k) (grs (8 * n)) (tbl k n wk) s n (fun _ => []) [] l (3 * n) := by
  have hl := h.len
  have hg := grs_8 n
  refine ⟨h.W (4 * wk) (by omega) (by omega), by omega, fun x hx => (h.nm x hx).1, ⟨?_, ?_, ?_, ?_⟩, hk, ?_, by have := h.us; omega, ?_⟩
  · show k ≤ 1000
    omega
  · show wAt k n ≤ 100000
    unfold wAt
    omega
  · show wAt k n + 2 * k ≤ s.nr
    rw [h.nr]
    exact Nat.le_refl _
  · show 4 * k + grs (8 * n) + grs (8 * n) < wAt k n
    exact Nat.lt_succ_self _
  · show 3 * n + (2 * k + 3 * l.length) ≤ 900000
    omega
  · show 2 * k + 3 * l.length ≤ 2000
    omega
theorem Rt.st (h : Rt k n s l N) (hk : 1 ≤ k) (hx : x ∈ l) : s.st x = 2 := (h.W 0 rfl (by omega)).waits hx
theorem Rt.nd (h : Rt k n s l N) (hk : 1 ≤ k) : l.Nodup := (h.W 0 rfl (by omega)).nd
/-- which are named, by words -/
theorem nmd_iff (k n wk : Nat) (s : Ar) (x : Int) : nmd s (tbl k n wk) x = true ↔ ∃ j, j < 2 * k ∧ x = s.raw (wAt k n + j) := by
  unfold nmd
  rw [decide_eq_true_iff]
  rfl
end
/-- a statement under way: an arena, the boxes of its places, the row of its names -/
structure Lw (B : Ab) (W w : World) (s : Ar) (p : Pl5) (k X : Nat) (b2 b3 : Nat) (v : Value) (l : List Int) : Prop where
  ar : ArAt B w s
  low : Below W.heap.size W w
  own : ∀ x, B.has x → W.heap.size ≤ x
  g2 : w.heap[b2]? = some (plBox p)
  g3 : w.heap[b3]? = some (.cells #[.int .i64 (k : Int), .int .i64 (X : Int)] 28 (0, 0))
  n2 : ¬ B.has b2
  n3 : ¬ B.has b3
  row : RowO w W.heap.size v l
  nv : ∀ g, v.ownBlock = some g → ¬ B.has g
section
variable {B : Ab} {W w w' : World} {s s' : Ar} {p : Pl5} {k X b2 b3 : Nat} {v : Value} {l : List Int}
theorem Lw.arena (h : Lw B W w s p k X b2 b3 v l) (hA : ArAt B w' s') (hF : FrA B w w') : Lw B W w' s' p k X b2 b3 v l :=
  ⟨hA, h.low.trans (hF.below h.low.size h.own), h.own, (hF.block _ (lt_of_block h.g2) h.n2).trans h.g2, (hF.block _ (lt_of_block h.g3) h.n3).trans h.g3, h.n2, h.n3, h.row.kept fun g hg => hF.block g (h.row.lt g hg).2 (h.nv g hg), h.nv⟩
theorem Lw.below (h : Lw B W w s p k X b2 b3 v l) (hb : Below w.heap.size w w') : Lw B W w' s p k X b2 b3 v l := h.arena (h.ar.below hb) (FrA.of_below hb)
theorem Lw.begin (hA : ArAt B w s) (hr : RowO w W.heap.size v l) (hb : Below W.heap.size W w) (ho : ∀ x, B.has x → W.heap.size ≤ x) (hv : ∀ g, v.ownBlock = some g → ¬ B.has g) (p : Pl5) (k X : Nat) :
    Lw B W ((w.alloc (plBox p)).alloc (.cells #[.int .i64 (k : Int), .int .i64 (X : Int)] 28 (0, 0))) s p k X w.heap.size (w.heap.size + 1) v l := by
  have e1 : (w.alloc (plBox p)).heap.size = w.heap.size + 1 := by simp
  have hb2 : Below w.heap.size w ((w.alloc (plBox p)).alloc (.cells #[.int .i64 (k : Int), .int .i64 (X : Int)] 28 (0, 0))) := ((Below.refl _ _).alloc (Nat.le_refl _) _).alloc (by rw [e1]; omega) _
  refine ⟨hA.below hb2, below_then hb hb2, ho, (Below.heap_alloc _ _ _ (by rw [e1]; omega)).trans (Go.MapKept.heap_alloc w _).1, ?_, fun hh => by have := hA.lt hh; omega, fun hh => by have := hA.lt hh; omega, hr.kept fun g hg => hb2.block g (hr.lt g hg).2, hv⟩
  have := (Go.MapKept.heap_alloc (w.alloc (plBox p)) (.cells #[.int .i64 (k : Int), .int .i64 (X : Int)] 28 (0, 0))).1
  rw [e1] at this
  exact this
theorem Lw.c2 (h : Lw B W w s p k X b2 b3 v l) : plS b2 p w := plS_of h.g2
theorem Lw.c30 (h : Lw B W w s p k X b2 b3 v l) : w.cell? ⟨b3, 0, none⟩ = some (.int .i64 (k : Int)) := cell_of_row _ _ 0 _ _ _ h.g3
theorem Lw.c31 (h : Lw B W w s p k X b2 b3 v l) : w.cell? ⟨b3, 1, none⟩ = some (.int .i64 (X : Int)) := cell_of_row _ _ 1 _ _ _ h.g3
theorem row_cell {r off n cap : Nat} {bs : Nat} (h : RowO w bs (.slice (some ⟨r, off, none⟩) n cap) l) {j : Nat} {x : Int} (hx : l[j]? = some x) : w.cell? ⟨r, off + j, none⟩ = some (.int .i64 x) := by
  obtain ⟨r', off', cap', e, c, -, -⟩ := row_at h hx
  cases e
  exact c
end
end Go.Proofs.YtopnkfbcphbbiaaDoor
namespace Go.Proofs.YtopnkfbcphbbiaaDoor
open Go.RowKit
open H8 (okP sizeF HTab below_then placeI placeI_bd place_any)
open A9 (Ab ArAt)

theorem wd_at (a x i : Nat) (h1 : a ≤ 1000000) (h2 : x ≤ 1000000) (h3 : i ≤ 1000000) : wrap64 (wrap64 ((a : Int) + wrap64 (2 * (x : Int))) + (i : Int)) = ((a + 2 * x + i : Nat) : Int) := by
  rw [A9.wr64_id (x := 2 * (x : Int)) (by omega) (by omega), A9.wr64_id (x := (a : Int) + 2 * (x : Int)) (by omega) (by omega), A9.wr64_id (by omega) (by omega)]
  omega
/-- a worker's word, by numbers -/
theorem Word_nat (tw : Int) (a x i : Nat) (h1 : a ≤ 1000000) (h2 : x ≤ 1000000) (h3 : i ≤ 1000000) (w : World) : Calls Tryd.prog 12 #[.agg #[.int .i64 tw, .int .i64 (a : Int)], .int .i64 (x : Int), .int .i64 (i : Int)] w fun e w' => e = .returned (.int .i64 ((a + 2 * x + i : Nat) : Int)) ∧ Below w.heap.size w w' := Word_any tw a x i _ (wd_at a x i h1 h2 h3) w
/-- what awake is asked for -/
def AwkP (w : World) : Prop := Calls Tryd.prog 10 #[] w fun e w' => e = .returned (.bool true) ∧ Below w.heap.size w w'
theorem place_nat (a : Int) (n : Nat) (h : 1 ≤ n) : ∃ y : Nat, placeI a n = y ∧ y < n := ⟨(placeI a n).toNat, by have := placeI_bd a n (by omega); omega, by have := placeI_bd a n (by omega); omega⟩
set_option maxHeartbeats 4000000 in
set_option maxRecDepth 4000 in
theorem words_walk (a0 a1 a2 a3 : Int) (w : World) (ka : ∀ wx, HTab wx → AwkP wx) (hT : HTab w) : Calls Tryd.prog 5 #[.int .i64 a0, .int .i64 a1, .int .i64 a2, .int .i64 a3] w fun e w' => e = .returned (.bool true) ∧ Below w.heap.size w w' := by
  have P0 := fun wx => place_any a0 64 wx (by omega) (by omega)
  have P1 := fun wx => place_any a1 1000 wx (by omega) (by omega)
  have P3 := fun wx => place_any a3 2 wx (by omega) (by omega)
  obtain ⟨y, hy, hy4⟩ := place_nat a0 64 (by omega)
  obtain ⟨t, ht, ht4⟩ := place_nat a1 1000 (by omega)
  obtain ⟨s, hs, hs4⟩ := place_nat a3 2 (by omega)
  rw [show ((64 : Nat) : Int) = 64 from rfl] at hy
  rw [show ((1000 : Nat) : Int) = 1000 from rfl] at ht
  rw [show ((2 : Nat) : Int) = 2 from rfl] at hs
  rw [hy] at P0
  rw [ht] at P1
  rw [hs] at P3
  clear hy ht hs
  obtain ⟨k, hk⟩ : ∃ n, n = 1 + y := ⟨_, rfl⟩
  have hnI : (1 : Int) + (y : Int) = (k : Int) := by omega
  have hnW : wrap64 (k : Int) = (k : Int) := A9.wr64_id (by omega) (by omega)
  obtain ⟨x, hx, hx4⟩ := place_nat a2 k (by omega)
  have P2 := fun wx => place_any a2 (k : Int) wx (by omega) (by omega)
  rw [hx] at P2
  have kR := fun wx => HRaw_any k t (by omega) wx
  have kW := fun wx => Word_nat (k : Int) t x s (by omega) (by omega) (by omega) wx
  have kV := fun wx => Word_nat (k : Int) t (k - 1) 1 (by omega) (by omega) (by omega) wx
  have e1 : (k : Int) * 2 = ((2 * k : Nat) : Int) := by omega
  have e2 : (t : Int) + (x : Int) * 2 + (s : Int) = ((t + 2 * x + s : Nat) : Int) := by omega
  have e3 : (k : Int) - 1 = ((k - 1 : Nat) : Int) := by omega
  have e4 : (t : Int) + ((2 * k : Nat) : Int) - 1 = ((t + 2 * (k - 1) + 1 : Nat) : Int) := by omega
  have b1 : 0 ≤ ((2 * k : Nat) : Int) ∧ ((2 * k : Nat) : Int) ≤ 128 := by omega
  unfold AwkP at ka
  have HT : Hid (HTab w) := hT
  have HK : Hid (1 ≤ k ∧ k ≤ 64) := ⟨by omega, by omega⟩
  clear hT hx hk
  generalize ((2 * k : Nat) : Int) = n2 at *
  generalize ((t + 2 * x + s : Nat) : Int) = n3 at *
  generalize ((t + 2 * (k - 1) + 1 : Nat) : Int) = n4 at *
  generalize ((k - 1 : Nat) : Int) = n5 at *
  go_enter Tryd.func5, Tryd.ntmps5
  go_wp2_with fail
  refine (P0 _).mono ?_
  rintro e w ⟨rfl, rfl⟩
  go_wp2_with fail
  refine (P1 _).mono ?_
  rintro e w ⟨rfl, rfl⟩
  go_wp2_with fail
  refine (kR _).mono ?_
  rintro e w1 ⟨rfl, hb1⟩
  go_wp2_with fail
  refine (P2 _).mono ?_
  rintro e w ⟨rfl, rfl⟩
  go_wp2_with fail
  refine (P3 _).mono ?_
  rintro e w ⟨rfl, rfl⟩
  go_wp2_with fail
  have hG : (w1.alloc (.cells #[.int .i64 (k : Int), .int .i64 (t : Int)] 28 (0, 0))).heap[w1.heap.size]? = some (.cells #[.int .i64 (k : Int), .int .i64 (t : Int)] 28 (0, 0)) := (Go.MapKept.heap_alloc w1 _).1
  have hbW : Below w.heap.size w (w1.alloc (.cells #[.int .i64 (k : Int), .int .i64 (t : Int)] 28 (0, 0))) := hb1.alloc hb1.size _
  refine (kW _).mono ?_
  rintro e w3 ⟨rfl, hb3⟩
  have hG3 := (hb3.block _ (lt_of_block hG)).trans hG
  have c0 : w3.cell? ⟨w1.heap.size, 0, none⟩ = some (.int .i64 (k : Int)) := cell_of_row _ _ 0 _ _ _ hG3
  have c1 : w3.cell? ⟨w1.heap.size, 1, none⟩ = some (.int .i64 (t : Int)) := cell_of_row _ _ 1 _ _ _ hG3
  have HB3 : Hid (Below w.heap.size w w3) := below_then hbW hb3
  clear hG hG3 hbW hb3 hb1
  go_wp2_with fail
  refine (kV _).mono ?_
  rintro e w4 ⟨rfl, hb4⟩
  have HB4 : Hid (Below w.heap.size w w4) := below_then HB3.out hb4
  clear hb4 c0 c1
  go_wp2_with fail
  refine (ka _ (HT.out.below HB4.out)).mono ?_
  rintro e w5 ⟨rfl, hb5⟩
  go_wp2_with fail
  go_ret
  exact ⟨rfl, below_then HB4.out hb5⟩
end Go.Proofs.YtopnkfbcphbbiaaDoor
namespace Go.Proofs.YtopnkfbcphbbiaaDoor
open Go.RowKit
open H8 (okP sizeF HTab below_then packV packF isH)
open A9 (Ab ArAt ArMem FrA Ar rawA setRawA useA ptrA Ok9 MapI But SrcN Left9 isTab htab_keep upF src_one bN retireS New9 new9 upN upN_other inR)
open F0 (Pl5 Tn PuAt PoAt FrS noT noT_new plBox plS plS_of below_next Wk Pu Po upO headF headF_eq)
open S1 (RowO MAt Mc Out FeM FeR stepF grN clN clN_lt PlS AlM AlR AlN plK plK_ok plK_wk grs newAlW ifAl Run Inv)

theorem wpOp_yes {P : Program} {ops : Array Oper} {Q : Exit → Act → World → Prop} {i : Nat} {K : Act → World → Prop} {a : Act} {w : World} {o : Oper} (h : ops[i]? = some o) (hw : Region.wanted o (yielded ops a.tmps) = true) (h2 : Oper.wp P o a w K Q) : wpOp P ops Q i K a w := by
  unfold wpOp
  rw [h]
  simp only
  rw [if_pos hw]
  exact .inl h2
theorem wpAnyH_one {P : Program} {md : Region.Mode} {ops : Array Oper} {Q : Exit → Act → World → Prop} {S : World → Prop} {i fuel : Nat} {listed : Array Bool} {a : Act} {w : World} {o : Oper} (h : ops[i]? = some o) (hr : Region.ready md ops listed = [i]) (hw : Region.wanted o (yielded ops a.tmps) = true) (h2 : Oper.wp P o a w (fun a' w' => S w' ∧ wpAnyH P md ops Q S fuel (listed.setIfInBounds i true) a' w') Q) : wpAnyH P md ops Q S (fuel + 1) listed a w :=
  wpAnyH_ready hr (by simp) fun j hj => by
    obtain rfl : j = i := by simpa using hj
    exact wpOp_yes h hw h2
section
variable {B : Ab} {w w' : World} {s : Ar}
set_option maxHeartbeats 4000000 in
set_option maxRecDepth 4000 in
theorem awake_any (w : World) (hT : HTab w) : Calls Tryd.prog 10 #[] w fun e w' => e = .returned (.bool true) ∧ Below w.heap.size w w' := by
  have kM : Calls Tryd.prog 9 #[.int .i64 2, .int .i64 2] w (MadeP w 2 2) := make1_any (k := 2) (n := 2) hT (by omega) (by omega) (by omega)
  go_enter Tryd.func10, Tryd.ntmps10
  go_wp2_with fail
  refine kM.mono ?_
  rintro e w1 ⟨B, s, v, l, rfl, hA, hI, hnr, hrow, hb, hBo, hv⟩
  have hR := Rt.of hI hnr
  have hfar := hI.far
  obtain ⟨h0, h1, rfl⟩ : ∃ h0 h1, l = [h0, h1] := by
    have := hI.len
    match l, this with
    | [a, b], _ => exact ⟨a, b, rfl⟩
  obtain ⟨r, off, cap, rfl, c0, hc1, hc2⟩ := row_at hrow (j := 0) (x := h0) rfl
  obtain ⟨r', off', cap', e', c1, -, -⟩ := row_at hrow (j := 1) (x := h1) rfl
  cases e'
  obtain ⟨p, hp⟩ : ∃ p, p = plK 2 (8 * 2) := ⟨_, rfl⟩
  rw [← hp]
  unfold Pl5.v
  rw [show ((4 * 2 + grs (8 * 2) + grs (8 * 2) + 1 : Nat) : Int) = 13 from rfl]
  have hL := Lw.begin (w := w1) hA hrow hb hBo hv p 2 13
  have HR : Hid ((Rt 2 2 s [h0, h1] 400 ∧ ∀ j, wAt 2 2 ≤ j → s.raw j = 0) ∧ Lw B w ((w1.alloc (plBox p)).alloc (.cells #[.int .i64 ((2 : Nat) : Int), .int .i64 ((13 : Nat) : Int)] 28 (0, 0))) s p 2 13 w1.heap.size (w1.heap.size + 1) (.slice (some ⟨r, off, none⟩) [h0, h1].length cap) [h0, h1] ∧ PlS (4 * 2) (grs (8 * 2)) p) := ⟨⟨hR, hfar⟩, hL, by rw [hp]; exact plK_ok (a := 2) (m := 8 * 2) (by omega) (by omega)⟩
  clear hfar hA hI hnr hrow hb hBo hv hR kM hp hL
  simp only [List.length_cons, List.length_nil] at hc1
  go_wp2_with fail
  obtain ⟨w2, hw2⟩ : ∃ w2, w2 = (w1.alloc (.cells #[.int .i64 p.wk, .int .i64 p.hd, .int .i64 p.ln, .int .i64 p.gn, .int .i64 p.cv] 26 (0, 0))).alloc (.cells #[.int .i64 2, .int .i64 13] 28 (0, 0)) := ⟨_, rfl⟩
  have HL : Lw B w w2 s p 2 13 w1.heap.size (w1.heap.size + 1) (.slice (some ⟨r, off, none⟩) [h0, h1].length cap) [h0, h1] := by rw [hw2]; exact HR.out.2.1
  have HR' : Hid ((Rt 2 2 s [h0, h1] 400 ∧ ∀ j, wAt 2 2 ≤ j → s.raw j = 0) ∧ PlS (4 * 2) (grs (8 * 2)) p) := ⟨HR.out.1, HR.out.2.2⟩
  rw [← hw2]
  clear HR hw2
  have HL : Hid _ := HL
  have c2 := HL.out.c30
  have c3 := HL.out.c31
  have c4 := row_cell HL.out.row (j := 0) (x := h0) rfl
  go_region_held3 (fun w' => w'.cell? ⟨w1.heap.size + 1, 0, none⟩ = some (.int .i64 2) ∧ w'.cell? ⟨w1.heap.size + 1, 1, none⟩ = some (.int .i64 13) ∧ w'.cell? ⟨r, off, none⟩ = some (.int .i64 h0)) (first | exact ⟨c2, c3, c4⟩ | exact hS1 | exact hS2) (first
    | (go_at_call 12; refine (Word_nat 2 13 1 0 (by omega) (by omega) (by omega) _).mono ?_; rintro e w3 ⟨rfl, hb3⟩; have HL3 : Hid (Lw B w w3 s p 2 13 w1.heap.size (w1.heap.size + 1) (.slice (some ⟨r, off, none⟩) [h0, h1].length cap) [h0, h1]) := (by first | exact HL.out.below hb3 | exact (HL.out.below (Below.refl _ _).drew).below hb3); have hS1 := (show _ ∧ _ ∧ _ from ⟨HL3.out.c30, HL3.out.c31, row_cell HL3.out.row (j := 0) (x := h0) rfl⟩); clear hb3)
    | (go_at_call 11; refine (A9.SetRaw_any (by first | exact HL3.out.ar | exact HL3.out.ar.below (Below.refl _ _).drew) 15 h0).mono ?_; rintro e w4 ⟨rfl, hA4, hF4⟩; have HL4 : Hid (Lw B w w4 (setRawA s 15 h0) p 2 13 w1.heap.size (w1.heap.size + 1) (.slice (some ⟨r, off, none⟩) [h0, h1].length cap) [h0, h1]) := (by first | exact HL3.out.arena hA4 hF4 | exact (HL3.out.below (Below.refl _ _).drew).arena hA4 hF4); have hS2 := (show _ ∧ _ ∧ _ from ⟨HL4.out.c30, HL4.out.c31, row_cell HL4.out.row (j := 0) (x := h0) rfl⟩); clear hA4 hF4))
  have hR4 : Rt 2 2 (setRawA s 15 h0) [h0, h1] 401 := HR'.out.1.1.word (j := 2) (by omega) (by omega) h0
  have hraw : ∀ j, (setRawA s 15 h0).raw (wAt 2 2 + j) = if j = 2 then h0 else 0 := fun j => by
    rw [show (setRawA s 15 h0) = setRawA s ((wAt 2 2 + 2 : Nat) : Int) h0 from rfl, set_raw HR'.out.1.1 (by omega) h0 j, HR'.out.1.2 _ (by omega)]
  have h1n := (hR4.nm h1 (by simp)).2
  have h01 : h1 ≠ h0 := fun e => by
    have := hR4.nd (by omega)
    rw [e] at this
    simp at this
  have n0 : nmd (setRawA s 15 h0) (tbl 2 2 0) h0 = true := (nmd_iff 2 2 0 _ _).2 ⟨2, by omega, by rw [hraw]; rfl⟩
  have n1 : nmd (setRawA s 15 h0) (tbl 2 2 0) h1 = false := Bool.eq_false_iff.2 fun hh => by
    obtain ⟨j, -, e⟩ := (nmd_iff 2 2 0 _ _).1 hh
    rw [hraw] at e
    split at e
    · exact h01 e
    · exact h1n e
  have hfl : [h0, h1].filter (nmd (setRawA s 15 h0) (tbl 2 2 0)) = [h0] := by simp [n0, n1]
  have kN := scan_any (t := tbl 2 2 0) HL4.out.ar HR'.out.2 (hR4.ok (wk := 0) (by omega) (by omega) (by omega) (by omega) (by omega)) HL4.out.row
  have HQ : Hid (PlS (4 * 2) (grs (8 * 2)) p ∧ [h0, h1].filter (nmd (setRawA s 15 h0) (tbl 2 2 0)) = [h0] ∧ nmd (setRawA s 15 h0) (tbl 2 2 0) h0 = true ∧ nmd (setRawA s 15 h0) (tbl 2 2 0) h1 = false) := ⟨HR'.out.2, hfl, n0, n1⟩
  have c6 := HL4.out.c30
  have c7 := HL4.out.c31
  obtain ⟨d0, d1, d2, d3, d4⟩ := HL4.out.c2
  clear hR4 hraw h1n n0 n1 hfl HR' hS1 hS2 HL3 HL c0 c1 c2 c3 c4 h01
  unfold Pl5.v at kN
  go_wp2_with fail
  refine kN.mono ?_
  rintro e w5 ⟨q, rfl, hb5, kR⟩
  have HL5 : Hid (Lw B w w5 (setRawA s 15 h0) p 2 13 w1.heap.size (w1.heap.size + 1) (.slice (some ⟨r, off, none⟩) [h0, h1].length cap) [h0, h1] ∧ Below w4.heap.size w4 w5) := ⟨HL4.out.below hb5, hb5⟩
  clear kN hb5 c6 c7 d0 d1 d2 d3 d4
  obtain ⟨s4, hs4⟩ : ∃ s4, s4 = setRawA s 15 h0 := ⟨_, rfl⟩
  obtain ⟨HP, HFl, Hn0, Hn1⟩ := HQ.out
  rw [← hs4] at HFl Hn0 Hn1 kR HL5 HL4
  have HN : Hid (nmd s4 (tbl 2 2 0) h0 = true ∧ nmd s4 (tbl 2 2 0) h1 = false) := ⟨Hn0, Hn1⟩
  unfold ScanP at kR
  rw [HFl] at kR
  have KR : Hid _ := kR
  clear hs4 HQ HP HFl Hn0 Hn1 kR
  have c4 := row_cell HL5.out.1.row (j := 0) (x := h0) rfl
  have c5 := row_cell HL5.out.1.row (j := 1) (x := h1) rfl
  unfold ifSc at KR
  go_wp2_with fail
  have c4 : w5.cell? ⟨r, off, none⟩ = some (.int .i64 h0) := c4
  refine wp_region_held_drew (S := fun w' => w'.cell? ⟨r, off, none⟩ = some (.int .i64 h0)) (by kernel_rfl) c4 (fun _ => ?_)
  refine wpAnyH_one (i := 0) (o := { dst := some 30, op := Op.move (Operand.tmp 5), type := 34, pos := "law.go:59", after := #[], guard := none }) (by kernel_rfl) (by kernel_rfl) (by kernel_rfl) ?_
  go_wp2_with fail
  refine wpAnyH_one (i := 1) (o := { dst := some 31, op := Op.binOp BinOp.neq 34 (Operand.tmp 30) (Operand.const (Value.pointer none)) 34, type := 4, pos := "law.go:59", after := #[{ on := 0, ground := Ground.data }], guard := none }) (by kernel_rfl) (by kernel_rfl) (by kernel_rfl) ?_
  go_wp2_with fail
  refine wpAnyH_one (i := 2) (o := { dst := some 32, op := Op.move (Operand.tmp 31), type := 4, pos := "law.go:59", after := #[{ on := 1, ground := Ground.data }], guard := none }) (by kernel_rfl) (by kernel_rfl) (by kernel_rfl) ?_
  go_wp2_with fail
  refine wpAnyH_take (i := 3) (oi := { dst := some 33, op := Op.move (Operand.tmp 1), type := 24, pos := "law.go:59", after := #[{ on := 2, ground := Ground.guard }], guard := some (2, true) }) (v := ptrA B) (by kernel_rfl) (by kernel_rfl) (by kernel_rfl) (by kernel_rfl) (fun _ _ _ h => h) (.inl ⟨by kernel_rfl, fun w hw => by kernel_rfl⟩) (by first | exact c4 | exact c64) ?_
  refine wpAnyH_one (i := 4) (o := { dst := some 34, op := Op.move (Operand.tmp 5), type := 34, pos := "law.go:59", after := #[{ on := 2, ground := Ground.guard }], guard := some (2, true) }) (by kernel_rfl) (by kernel_rfl) (by kernel_rfl) ?_
  go_wp2_with fail
  refine wpAnyH_one (i := 5) (o := { dst := some 35, op := Op.makeInterface 34 (Operand.tmp 34), type := 75, pos := "law.go:59", after := #[{ on := 4, ground := Ground.data }, { on := 2, ground := Ground.guard }], guard := some (2, true) }) (by kernel_rfl) (by kernel_rfl) (by kernel_rfl) ?_
  go_wp2_with fail
  refine wpAnyH_one (i := 6) (o := { dst := some 36, op := Op.call { callee := Callee.value (Operand.func 16), args := #[Operand.tmp 33, Operand.tmp 35], argTypes := #[24, 75] }, type := 4, pos := "law.go:59", after := #[{ on := 3, ground := Ground.data }, { on := 5, ground := Ground.data }, { on := 2, ground := Ground.chain }, { on := 2, ground := Ground.guard }], guard := some (2, true) }) (by kernel_rfl) (by kernel_rfl) (by kernel_rfl) ?_
  go_wp2_with fail
  refine (KR.out _ (Below.refl _ _).drew).mono ?_
  rintro e w6 ⟨rfl, s6, hD, hE, hF⟩
  have HL6 : Hid (Lw B w w6 s6 p 2 13 w1.heap.size (w1.heap.size + 1) (.slice (some ⟨r, off, none⟩) [h0, h1].length cap) [h0, h1] ∧ ScD B p (tbl 2 2 0) q [h0] s6 w6 ∧ s6.st h0 = 2 ∧ s6.st h1 = 0) := ⟨HL4.out.arena hD.ar hF, hD, by rw [hE.dead h0 (by simp), HN.out.1]; rfl, by rw [hE.dead h1 (by simp), HN.out.2]; rfl⟩
  have c64 : w6.cell? ⟨r, off, none⟩ = some (.int .i64 h0) := row_cell HL6.out.1.row (j := 0) (x := h0) rfl
  clear hD hE hF c4 c5
  go_wp2_with fail
  refine wpAnyH_one (i := 7) (o := { dst := some 37, op := Op.pick (Operand.tmp 32) (Operand.tmp 36) (Operand.const (Value.bool false)), type := 4, pos := "law.go:59", after := #[{ on := 2, ground := Ground.data }, { on := 6, ground := Ground.data }], guard := none }) (by kernel_rfl) (by kernel_rfl) (by kernel_rfl) ?_
  go_wp2_with fail
  refine wpAnyH_one (i := 8) (o := { dst := some 38, op := Op.move (Operand.tmp 37), type := 4, pos := "law.go:59", after := #[{ on := 7, ground := Ground.data }, { on := 6, ground := Ground.chain }], guard := none }) (by kernel_rfl) (by kernel_rfl) (by kernel_rfl) ?_
  go_wp2_with fail
  refine wpAnyH_one (i := 9) (o := { dst := some 39, op := Op.move (Operand.tmp 5), type := 34, pos := "law.go:59", after := #[{ on := 8, ground := Ground.guard }], guard := some (8, true) }) (by kernel_rfl) (by kernel_rfl) (by kernel_rfl) ?_
  go_wp2_with fail
  refine wpAnyH_one (i := 10) (o := { dst := some 40, op := Op.call { callee := Callee.value (Operand.func 17), args := #[Operand.tmp 39], argTypes := #[34] }, type := 22, pos := "law.go:59", after := #[{ on := 9, ground := Ground.data }, { on := 8, ground := Ground.chain }, { on := 8, ground := Ground.guard }], guard := some (8, true) }) (by kernel_rfl) (by kernel_rfl) (by kernel_rfl) ?_
  go_wp2_with fail
  refine (HL6.out.2.1.left (by simp)).mono ?_
  rintro e w7 ⟨v7, rfl, hr7, hb7⟩
  have HL7 : Hid (Lw B w w7 s6 p 2 13 w1.heap.size (w1.heap.size + 1) (.slice (some ⟨r, off, none⟩) [h0, h1].length cap) [h0, h1] ∧ ScD B p (tbl 2 2 0) q [h0] s6 w7 ∧ s6.st h0 = 2 ∧ s6.st h1 = 0) := ⟨HL6.out.1.below hb7, HL6.out.2.1.below hb7, HL6.out.2.2⟩
  clear c64
  have c64 : w7.cell? ⟨r, off, none⟩ = some (.int .i64 h0) := row_cell HL7.out.1.row (j := 0) (x := h0) rfl
  obtain ⟨a7, cap7, rfl⟩ := hr7.len
  clear hr7 hb7
  go_wp2_with fail
  refine wpAnyH_one (i := 11) (o := { dst := some 41, op := Op.call { callee := Callee.builtin Builtin.len, args := #[Operand.tmp 40], argTypes := #[22] }, type := 3, pos := "law.go:59", after := #[{ on := 10, ground := Ground.data }, { on := 8, ground := Ground.guard }], guard := some (8, true) }) (by kernel_rfl) (by kernel_rfl) (by kernel_rfl) ?_
  go_wp2_with fail
  refine wpAnyH_one (i := 12) (o := { dst := some 42, op := Op.binOp BinOp.eql 3 (Operand.tmp 41) (Operand.const (Value.int IntKind.i64 1)) 3, type := 4, pos := "law.go:59", after := #[{ on := 11, ground := Ground.data }, { on := 8, ground := Ground.guard }], guard := some (8, true) }) (by kernel_rfl) (by kernel_rfl) (by kernel_rfl) ?_
  go_wp2_with fail
  refine wpAnyH_one (i := 13) (o := { dst := some 43, op := Op.pick (Operand.tmp 38) (Operand.tmp 42) (Operand.const (Value.bool false)), type := 4, pos := "law.go:59", after := #[{ on := 8, ground := Ground.data }, { on := 12, ground := Ground.data }], guard := none }) (by kernel_rfl) (by kernel_rfl) (by kernel_rfl) ?_
  go_wp2_with fail
  refine wpAnyH_one (i := 14) (o := { dst := some 44, op := Op.move (Operand.tmp 43), type := 4, pos := "law.go:59", after := #[{ on := 13, ground := Ground.data }, { on := 10, ground := Ground.chain }], guard := none }) (by kernel_rfl) (by kernel_rfl) (by kernel_rfl) ?_
  go_wp2_with fail
  refine wpAnyH_take (i := 15) (oi := { dst := some 45, op := Op.move (Operand.tmp 5), type := 34, pos := "law.go:59", after := #[{ on := 14, ground := Ground.guard }], guard := some (14, true) }) (v := .pointer (some ⟨q, 0, none⟩)) (by kernel_rfl) (by kernel_rfl) (by kernel_rfl) (by kernel_rfl) (fun _ _ _ h => h) (.inl ⟨by kernel_rfl, fun w hw => by kernel_rfl⟩) (by first | exact c4 | exact c64) ?_
  refine wpAnyH_take (i := 19) (oi := { dst := some 49, op := Op.move (Operand.tmp 4), type := 22, pos := "law.go:59", after := #[{ on := 14, ground := Ground.guard }], guard := some (14, true) }) (v := .slice (some ⟨r, off, none⟩) 2 cap) (by kernel_rfl) (by kernel_rfl) (by kernel_rfl) (by kernel_rfl) (fun _ _ _ h => h) (.inl ⟨by kernel_rfl, fun w hw => by kernel_rfl⟩) (by first | exact c4 | exact c64) ?_
  refine wpAnyH_take (i := 20) (oi := { dst := some 50, op := Op.indexAddr 22 (Operand.tmp 49) (Operand.const (Value.int IntKind.i64 0)), type := 0, pos := "law.go:59", after := #[{ on := 19, ground := Ground.data }, { on := 14, ground := Ground.guard }], guard := some (14, true) }) (v := .pointer (some ⟨r, off, none⟩)) (by kernel_rfl) (by kernel_rfl) (by kernel_rfl) (by kernel_rfl) (fun _ _ _ h => h) (.inl ⟨by kernel_rfl, fun w hw => by kernel_rfl⟩) (by first | exact c4 | exact c64) ?_
  refine wpAnyH_take (i := 21) (oi := { dst := some 51, op := Op.load 3 (Operand.tmp 50), type := 3, pos := "law.go:59", after := #[{ on := 20, ground := Ground.data }, { on := 14, ground := Ground.guard }], guard := some (14, true) }) (v := .int .i64 h0) (by kernel_rfl) (by kernel_rfl) (by kernel_rfl) (by kernel_rfl) (fun _ _ _ h => h) (.inl ⟨by kernel_rfl, fun w hw => by go_simp⟩) (by first | exact c4 | exact c64) ?_
  refine wpAnyH_one (i := 16) (o := { dst := some 46, op := Op.call { callee := Callee.value (Operand.func 17), args := #[Operand.tmp 45], argTypes := #[34] }, type := 22, pos := "law.go:59", after := #[{ on := 15, ground := Ground.data }, { on := 14, ground := Ground.chain }, { on := 14, ground := Ground.guard }], guard := some (14, true) }) (by kernel_rfl) (by kernel_rfl) (by kernel_rfl) ?_
  go_wp2_with fail
  refine (HL7.out.2.1.left (by simp)).mono ?_
  rintro e w8 ⟨v8, rfl, hr8, hb8⟩
  have HL8 : Hid (Lw B w w8 s6 p 2 13 w1.heap.size (w1.heap.size + 1) (.slice (some ⟨r, off, none⟩) [h0, h1].length cap) [h0, h1] ∧ ScD B p (tbl 2 2 0) q [h0] s6 w8 ∧ s6.st h0 = 2 ∧ s6.st h1 = 0) := ⟨HL7.out.1.below hb8, HL7.out.2.1.below hb8, HL7.out.2.2⟩
  clear c64
  have c64 : w8.cell? ⟨r, off, none⟩ = some (.int .i64 h0) := row_cell HL8.out.1.row (j := 0) (x := h0) rfl
  obtain ⟨r8, off8, cap8, rfl, c8', hc8, hd8⟩ := row_at hr8 (j := 0) (x := h0) rfl
  have c8 : w8.cell? ⟨r8, off8, none⟩ = some (.int .i64 h0) := c8'
  simp only [List.length_cons, List.length_nil] at hc8
  have c65 := row_cell HL8.out.1.row (j := 1) (x := h1) rfl
  clear hr8 hb8 c8'
  go_wp2_with fail
  refine wpAnyH_one (i := 17) (o := { dst := some 47, op := Op.indexAddr 22 (Operand.tmp 46) (Operand.const (Value.int IntKind.i64 0)), type := 0, pos := "law.go:59", after := #[{ on := 16, ground := Ground.data }, { on := 14, ground := Ground.guard }], guard := some (14, true) }) (by kernel_rfl) (by kernel_rfl) (by kernel_rfl) ?_
  go_wp2_with fail
  refine wpAnyH_one (i := 18) (o := { dst := some 48, op := Op.load 3 (Operand.tmp 47), type := 3, pos := "law.go:59", after := #[{ on := 17, ground := Ground.data }, { on := 14, ground := Ground.guard }], guard := some (14, true) }) (by kernel_rfl) (by kernel_rfl) (by kernel_rfl) ?_
  go_wp2_with fail
  refine wpAnyH_one (i := 22) (o := { dst := some 52, op := Op.binOp BinOp.eql 3 (Operand.tmp 48) (Operand.tmp 51) 3, type := 4, pos := "law.go:59", after := #[{ on := 18, ground := Ground.data }, { on := 21, ground := Ground.data }, { on := 14, ground := Ground.guard }], guard := some (14, true) }) (by kernel_rfl) (by kernel_rfl) (by kernel_rfl) ?_
  go_wp2_with fail
  refine wpAnyH_one (i := 23) (o := { dst := some 53, op := Op.pick (Operand.tmp 44) (Operand.tmp 52) (Operand.const (Value.bool false)), type := 4, pos := "law.go:59", after := #[{ on := 14, ground := Ground.data }, { on := 22, ground := Ground.data }], guard := none }) (by kernel_rfl) (by kernel_rfl) (by kernel_rfl) ?_
  go_wp2_with fail
  refine wpAnyH_one (i := 24) (o := { dst := some 54, op := Op.move (Operand.tmp 53), type := 4, pos := "law.go:59", after := #[{ on := 23, ground := Ground.data }, { on := 16, ground := Ground.chain }], guard := none }) (by kernel_rfl) (by kernel_rfl) (by kernel_rfl) ?_
  go_wp2_with fail
  refine wpAnyH_take (i := 25) (oi := { dst := some 55, op := Op.move (Operand.tmp 1), type := 24, pos := "law.go:59", after := #[{ on := 24, ground := Ground.guard }], guard := some (24, true) }) (v := ptrA B) (by kernel_rfl) (by kernel_rfl) (by kernel_rfl) (by kernel_rfl) (fun _ _ _ h => h) (.inl ⟨by kernel_rfl, fun w hw => by kernel_rfl⟩) (by first | exact c4 | exact c64) ?_
  refine wpAnyH_one (i := 26) (o := { dst := some 56, op := Op.move (Operand.tmp 4), type := 22, pos := "law.go:59", after := #[{ on := 24, ground := Ground.guard }], guard := some (24, true) }) (by kernel_rfl) (by kernel_rfl) (by kernel_rfl) ?_
  go_wp2_with fail
  refine wpAnyH_one (i := 27) (o := { dst := some 57, op := Op.indexAddr 22 (Operand.tmp 56) (Operand.const (Value.int IntKind.i64 1)), type := 0, pos := "law.go:59", after := #[{ on := 26, ground := Ground.data }, { on := 24, ground := Ground.guard }], guard := some (24, true) }) (by kernel_rfl) (by kernel_rfl) (by kernel_rfl) ?_
  go_wp2_with fail
  refine wpAnyH_one (i := 28) (o := { dst := some 58, op := Op.load 3 (Operand.tmp 57), type := 3, pos := "law.go:59", after := #[{ on := 27, ground := Ground.data }, { on := 24, ground := Ground.guard }], guard := some (24, true) }) (by kernel_rfl) (by kernel_rfl) (by kernel_rfl) ?_
  go_wp2_with fail
  refine wpAnyH_one (i := 29) (o := { dst := some 59, op := Op.call { callee := Callee.value (Operand.func 18), args := #[Operand.tmp 55, Operand.tmp 58], argTypes := #[24, 3] }, type := 3, pos := "law.go:59", after := #[{ on := 25, ground := Ground.data }, { on := 28, ground := Ground.data }, { on := 24, ground := Ground.chain }, { on := 24, ground := Ground.guard }], guard := some (24, true) }) (by kernel_rfl) (by kernel_rfl) (by kernel_rfl) ?_
  go_wp2_with fail
  have kS := A9.State_any HL8.out.1.ar h1
  rw [HL8.out.2.2.2] at kS
  refine kS.mono ?_
  rintro e w9 ⟨rfl, rfl⟩
  clear kS
  go_wp2_with fail
  refine wpAnyH_one (i := 30) (o := { dst := some 60, op := Op.binOp BinOp.eql 3 (Operand.tmp 59) (Operand.const (Value.int IntKind.i64 0)) 3, type := 4, pos := "law.go:59", after := #[{ on := 29, ground := Ground.data }, { on := 24, ground := Ground.guard }], guard := some (24, true) }) (by kernel_rfl) (by kernel_rfl) (by kernel_rfl) ?_
  go_wp2_with fail
  refine wpAnyH_one (i := 31) (o := { dst := some 61, op := Op.pick (Operand.tmp 54) (Operand.tmp 60) (Operand.const (Value.bool false)), type := 4, pos := "law.go:59", after := #[{ on := 24, ground := Ground.data }, { on := 30, ground := Ground.data }], guard := none }) (by kernel_rfl) (by kernel_rfl) (by kernel_rfl) ?_
  go_wp2_with fail
  refine wpAnyH_one (i := 32) (o := { dst := some 62, op := Op.move (Operand.tmp 61), type := 4, pos := "law.go:59", after := #[{ on := 31, ground := Ground.data }, { on := 29, ground := Ground.chain }], guard := none }) (by kernel_rfl) (by kernel_rfl) (by kernel_rfl) ?_
  go_wp2_with fail
  refine wpAnyH_take (i := 33) (oi := { dst := some 63, op := Op.move (Operand.tmp 1), type := 24, pos := "law.go:59", after := #[{ on := 32, ground := Ground.guard }], guard := some (32, true) }) (v := ptrA B) (by kernel_rfl) (by kernel_rfl) (by kernel_rfl) (by kernel_rfl) (fun _ _ _ h => h) (.inl ⟨by kernel_rfl, fun w hw => by kernel_rfl⟩) (by first | exact c4 | exact c64) ?_
  refine wpAnyH_one (i := 34) (o := { dst := some 64, op := Op.move (Operand.tmp 4), type := 22, pos := "law.go:59", after := #[{ on := 32, ground := Ground.guard }], guard := some (32, true) }) (by kernel_rfl) (by kernel_rfl) (by kernel_rfl) ?_
  go_wp2_with fail
  refine wpAnyH_one (i := 35) (o := { dst := some 65, op := Op.indexAddr 22 (Operand.tmp 64) (Operand.const (Value.int IntKind.i64 0)), type := 0, pos := "law.go:59", after := #[{ on := 34, ground := Ground.data }, { on := 32, ground := Ground.guard }], guard := some (32, true) }) (by kernel_rfl) (by kernel_rfl) (by kernel_rfl) ?_
  go_wp2_with fail
  refine wpAnyH_one (i := 36) (o := { dst := some 66, op := Op.load 3 (Operand.tmp 65), type := 3, pos := "law.go:59", after := #[{ on := 35, ground := Ground.data }, { on := 32, ground := Ground.guard }], guard := some (32, true) }) (by kernel_rfl) (by kernel_rfl) (by kernel_rfl) ?_
  go_wp2_with fail
  refine wpAnyH_one (i := 37) (o := { dst := some 67, op := Op.call { callee := Callee.value (Operand.func 18), args := #[Operand.tmp 63, Operand.tmp 66], argTypes := #[24, 3] }, type := 3, pos := "law.go:59", after := #[{ on := 33, ground := Ground.data }, { on := 36, ground := Ground.data }, { on := 32, ground := Ground.chain }, { on := 32, ground := Ground.guard }], guard := some (32, true) }) (by kernel_rfl) (by kernel_rfl) (by kernel_rfl) ?_
  go_wp2_with fail
  have kS := A9.State_any HL8.out.1.ar h0
  rw [HL8.out.2.2.1] at kS
  refine kS.mono ?_
  rintro e w9 ⟨rfl, rfl⟩
  clear kS
  go_wp2_with fail
  refine wpAnyH_one (i := 38) (o := { dst := some 68, op := Op.binOp BinOp.eql 3 (Operand.tmp 67) (Operand.const (Value.int IntKind.i64 2)) 3, type := 4, pos := "law.go:59", after := #[{ on := 37, ground := Ground.data }, { on := 32, ground := Ground.guard }], guard := some (32, true) }) (by kernel_rfl) (by kernel_rfl) (by kernel_rfl) ?_
  go_wp2_with fail
  refine wpAnyH_one (i := 39) (o := { dst := some 69, op := Op.pick (Operand.tmp 62) (Operand.tmp 68) (Operand.const (Value.bool false)), type := 4, pos := "law.go:59", after := #[{ on := 32, ground := Ground.data }, { on := 38, ground := Ground.data }], guard := none }) (by kernel_rfl) (by kernel_rfl) (by kernel_rfl) ?_
  go_wp2_with fail
  refine wpAnyH_one (i := 40) (o := { dst := some 0, op := Op.assign (Operand.tmp 69), type := 4, pos := "law.go:59", after := #[{ on := 39, ground := Ground.data }, { on := 37, ground := Ground.chain }, { on := 0, ground := Ground.phase }, { on := 1, ground := Ground.phase }, { on := 2, ground := Ground.phase }, { on := 3, ground := Ground.phase }, { on := 4, ground := Ground.phase }, { on := 5, ground := Ground.phase }, { on := 6, ground := Ground.phase }, { on := 7, ground := Ground.phase }, { on := 8, ground := Ground.phase }, { on := 9, ground := Ground.phase }, { on := 10, ground := Ground.phase }, { on := 11, ground := Ground.phase }, { on := 12, ground := Ground.phase }, { on := 13, ground := Ground.phase }, { on := 14, ground := Ground.phase }, { on := 15, ground := Ground.phase }, { on := 16, ground := Ground.phase }, { on := 17, ground := Ground.phase }, { on := 18, ground := Ground.phase }, { on := 19, ground := Ground.phase }, { on := 20, ground := Ground.phase }, { on := 21, ground := Ground.phase }, { on := 22, ground := Ground.phase }, { on := 23, ground := Ground.phase }, { on := 24, ground := Ground.phase }, { on := 25, ground := Ground.phase }, { on := 26, ground := Ground.phase }, { on := 27, ground := Ground.phase }, { on := 28, ground := Ground.phase }, { on := 29, ground := Ground.phase }, { on := 30, ground := Ground.phase }, { on := 31, ground := Ground.phase }, { on := 32, ground := Ground.phase }, { on := 33, ground := Ground.phase }, { on := 34, ground := Ground.phase }, { on := 35, ground := Ground.phase }, { on := 36, ground := Ground.phase }, { on := 37, ground := Ground.phase }, { on := 38, ground := Ground.phase }, { on := 39, ground := Ground.phase }], guard := none }) (by kernel_rfl) (by kernel_rfl) (by kernel_rfl) ?_
  go_wp2_with fail
  refine wpAnyH_done (by kernel_rfl) ?_ _
  go_wp2_with fail
  go_ret
  exact ⟨rfl, HL8.out.1.low⟩
end
end Go.Proofs.YtopnkfbcphbbiaaDoor
