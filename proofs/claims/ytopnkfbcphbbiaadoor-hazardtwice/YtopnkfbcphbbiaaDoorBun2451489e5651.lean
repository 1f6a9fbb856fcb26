/-
  Helpers: Zx, Zu, Zy.
-/
import Derived.Test.YtopnkfbcphbbiaaDoorBunc2e49074374f
namespace Go.Proofs.YtopnkfbcphbbiaaDoor
open Go.RowKit
open H8 (okP sizeF HTab below_then placeI placeI_bd place_any)
open A9 (Ab ArAt FrA Ar setRawA ptrA NAt useA upN)
open F0 (Pl5 plBox sumN)
open S1 (RowO PlS plK plK_ok grs clN Mc szO szF)

section
variable {K M T i0 cg k n N : Nat} {s s' : Ar} {ls : Nat → List Nat} {wt l l' : List Int} {x : Int}
theorem sumN_none {f : Nat → Nat} : ∀ {k : Nat}, (∀ i, i < k → f i = 0) → sumN f k = 0
  | 0, _ => rfl
  | k + 1, h => by
    show sumN f k + f k = 0
    rw [sumN_none fun i hi => h i (by omega), h k (by omega)]
/-- where nothing waits nothing is counted -/
theorem Wx.counts (h : Wx K M s i0 cg ls [] [] none none T) : s.cL = 0 ∧ s.cR = 0 := by
  obtain ⟨⟨k, hd, lk, gn, cl, own, mc, h1, h2, h3, h4, h5, h6, h7, h8, h9⟩, -⟩ := h
  have e1 : ∀ v, v < k → szO (own v) = 0 := fun v hv => by
    by_cases e : v = 0
    · subst e
      rw [h3]
      rfl
    · rw [h5 v (by omega)]
      rfl
  have e2 : ∀ v, v < k → szF (mc v) = 0 := fun v hv => by
    have : mc v = none := by
      by_cases e : v = 0
      · subst e
        exact h4
      · cases hm : mc v with
        | none => rfl
        | some m =>
          obtain ⟨y, hy, -⟩ := h7 v m (by omega) hv hm
          simp at hy
    rw [this]
    rfl
  rw [h1.N.cL, h1.N.cR, sumN_none e1, sumN_none e2]
  exact ⟨rfl, rfl⟩
/-- names that wait, others free -/
structure Ts (k n : Nat) (s : Ar) (l : List Int) (N T : Nat) : Prop where
  W : ∃ ls, Wx (4 * k) (grs (8 * n)) s 0 n ls [] l none none T ∧ (ls 0).length + l.length = n
  nw : s.nw = 8 * n
  nr : s.nr = 4 * k + grs (8 * n) + grs (8 * n) + 1 + 2 * k
  nm : ∀ x, x ∈ l → clN x = 0 ∧ x ≠ 0
  bad : s.bad = false
  fresh : s.fresh = false
  us : 0 ≤ s.uses ∧ s.uses ≤ N
  cC : s.cC = 8 * n
theorem Rt.ts (h : Rt k n s l N) (hk : 1 ≤ k) : Ts k n s l N (3 * n) := ⟨⟨_, h.W 0 rfl (by omega), by simpa using h.len⟩, h.nw, h.nr, h.nm, h.bad, h.fresh, h.us, h.cC⟩
theorem set_in2 (hnr : s.nr = 4 * k + grs (8 * n) + grs (8 * n) + 1 + 2 * k) {j : Nat} (hj : j < 2 * k) (x : Int) : setRawA s ((wAt k n + j : Nat) : Int) x = { useA s with raw := upN s.raw (wAt k n + j) x } := by
  have e : A9.inR s ((wAt k n + j : Nat) : Int) := by
    unfold A9.inR wAt
    omega
  unfold setRawA
  rw [if_pos e]
  rfl
theorem set_raw2 (hnr : s.nr = 4 * k + grs (8 * n) + grs (8 * n) + 1 + 2 * k) {j : Nat} (hj : j < 2 * k) (x : Int) (i : Nat) : (setRawA s ((wAt k n + j : Nat) : Int) x).raw (wAt k n + i) = if i = j then x else s.raw (wAt k n + i) := by
  rw [set_in2 hnr hj x]
  show upN s.raw (wAt k n + j) x (wAt k n + i) = _
  unfold upN
  by_cases e : i = j
  · rw [if_pos (by omega), if_pos e]
  · rw [if_neg (by omega), if_neg e]
theorem Ts.word (h : Ts k n s l N T) {j : Nat} (hj : j < 2 * k) (hN : N ≤ 100000000) (x : Int) : Ts k n (setRawA s ((wAt k n + j : Nat) : Int) x) l (N + 1) T := by
  have hnr := h.nr
  have e := set_in2 h.nr hj x
  obtain ⟨u1, u2⟩ := h.us
  obtain ⟨ls, h1, h2⟩ := h.W
  refine ⟨⟨ls, h1.word (by unfold wAt; omega) (by unfold wAt; omega) x, h2⟩, ?_, ?_, h.nm, ?_, ?_, ?_, ?_⟩
  · rw [e]; exact h.nw
  · rw [e]; exact h.nr
  · rw [e]; exact h.bad
  · rw [e]; exact h.fresh
  · rw [e]
    show 0 ≤ wrap64 (s.uses + 1) ∧ wrap64 (s.uses + 1) ≤ _
    rw [A9.wr64_id (by omega) (by omega)]
    omega
  · rw [e]; exact h.cC
theorem Ts.ok (h : Ts k n s l N T) (hk : 1 ≤ k) (hk2 : k ≤ 50) (hn : n ≤ 50) (hN : N ≤ 100000000) (hT : T ≤ 800000) : ∃ ls, ScOk (4 * k) (grs (8 * n)) (tbl k n 0) s n ls [] l T ∧ (ls 0).length + l.length = n := by
  obtain ⟨ls, h1, h2⟩ := h.W
  refine ⟨ls, ⟨h1, by omega, fun x hx => (h.nm x hx).1, ⟨?_, ?_, ?_, ?_⟩, hk, ?_, by have := h.us; omega, ?_⟩, h2⟩
  · show k ≤ 1000
    omega
  · show wAt k n ≤ 100000
    have := S1.grs (8 * n)
    unfold wAt
    have : grs (8 * n) ≤ 100 := by rw [grs_8]; omega
    omega
  · show wAt k n + 2 * k ≤ s.nr
    rw [h.nr]
    exact Nat.le_refl _
  · show 4 * k + grs (8 * n) + grs (8 * n) < wAt k n
    exact Nat.lt_succ_self _
  · show T + (2 * k + 3 * l.length) ≤ 900000
    omega
  · show 2 * k + 3 * l.length ≤ 2000
    omega
theorem Ts.end_ (h : Ts k n s l N T) (hE : ScE (4 * k) (grs (8 * n)) (tbl k n 0) s l n ls [] T s') (hlen : (ls 0).length + l.length = n) (hk : k ≤ 50) (hn : n ≤ 50) {N' T' : Nat} (hN : N + 300 ≤ N') (hT : T + 300 ≤ T') : Ts k n s' (l.filter (nmd s (tbl k n 0))) N' T' := by
  obtain ⟨ls', T2, x1, x2, x3⟩ := hE.W
  have x4 : T2 ≤ T + (2 * k + 3 * l.length) := x2
  have x5 : (ls' 0).length + (l.filter (nmd s (tbl k n 0))).length = (ls 0).length + l.length := x3
  obtain ⟨u1, u2⟩ := hE.us
  have u3 : s.uses + 2 * (k : Int) ≤ s'.uses := u1
  have u4 : s'.uses ≤ s.uses + (2 * (k : Int) + 3 * (l.length : Int)) := u2
  have := h.us
  refine ⟨⟨ls', x1.wide (by omega), by omega⟩, hE.nw.trans h.nw, hE.nr.trans h.nr, fun y hy => h.nm y (List.mem_filter.1 hy).1, hE.bad.trans h.bad, hE.fresh.trans h.fresh, by omega, hE.cC.trans h.cC⟩
end
/-- the words of the first lookers, from a on -/
def wfT (a b : Nat) (x : Int) (j : Nat) : Int := if a ≤ j / 2 ∧ j / 2 < b ∧ j % 2 = (j / 2) % 2 then x else 0
theorem wf_iff (b j : Nat) : (j = 2 * b + b % 2) = (j / 2 = b ∧ j % 2 = (j / 2) % 2) := propext ⟨fun h => by
  have h1 : j / 2 = b := by omega
  exact ⟨h1, by rw [h1]; omega⟩, fun ⟨h1, h2⟩ => by
  rw [h1] at h2
  omega⟩
theorem wf_put {a b : Nat} (h : a ≤ b) (x : Int) (j : Nat) : wfT a (b + 1) x j = if j = 2 * b + b % 2 then x else wfT a b x j := by
  simp only [wf_iff]
  unfold wfT
  by_cases e : j % 2 = (j / 2) % 2
  · by_cases e2 : j / 2 = b
    · rw [if_pos ⟨by omega, by omega, e⟩, if_pos ⟨e2, e⟩]
    · by_cases e3 : a ≤ j / 2 ∧ j / 2 < b
      · rw [if_pos ⟨by omega, by omega, e⟩, if_neg (fun hh => e2 hh.1), if_pos ⟨e3.1, e3.2, e⟩]
      · rw [if_neg (fun hh => e3 ⟨hh.1, by omega⟩), if_neg (fun hh => e2 hh.1), if_neg (fun hh => e3 ⟨hh.1, hh.2.1⟩)]
  · rw [if_neg (fun hh => e hh.2.2), if_neg (fun hh => e hh.2), if_neg (fun hh => e hh.2.2)]
theorem wf_del {a b : Nat} (x : Int) (j : Nat) : wfT (a + 1) b x j = if j = 2 * a + a % 2 then 0 else wfT a b x j := by
  simp only [wf_iff]
  unfold wfT
  by_cases e : j % 2 = (j / 2) % 2
  · by_cases e2 : j / 2 = a
    · rw [if_neg (fun hh => by omega), if_pos ⟨e2, e⟩]
    · by_cases e3 : a ≤ j / 2 ∧ j / 2 < b
      · rw [if_pos ⟨by omega, by omega, e⟩, if_neg (fun hh => e2 hh.1), if_pos ⟨e3.1, e3.2, e⟩]
      · rw [if_neg (fun hh => e3 ⟨by omega, hh.2.1⟩), if_neg (fun hh => e2 hh.1), if_neg (fun hh => e3 ⟨hh.1, hh.2.1⟩)]
  · rw [if_neg (fun hh => e hh.2.2), if_neg (fun hh => e hh.2), if_neg (fun hh => e hh.2.2)]
theorem wf_in {a b : Nat} (h : a < b) (x : Int) : wfT a b x (2 * a + a % 2) = x := by
  have h1 : (2 * a + a % 2) / 2 = a := by omega
  exact if_pos ⟨by omega, by omega, by rw [h1]; omega⟩
theorem wf_val (a b : Nat) (x : Int) (j : Nat) : wfT a b x j = x ∨ wfT a b x j = 0 := by
  unfold wfT
  split
  · exact .inl rfl
  · exact .inr rfl
theorem wf_no (a : Nat) (x : Int) (j : Nat) : wfT a a x j = 0 := if_neg (by omega)
/-- one alone of distinct ones -/
theorem filter_one {f : Int → Bool} : ∀ {l : List Int} {x : Int}, l.Nodup → x ∈ l → (∀ y, y ∈ l → (f y = true ↔ y = x)) → l.filter f = [x]
  | [], x, _, hx, _ => by simp at hx
  | a :: l, x, hn, hx, hf => by
    obtain ⟨h1, h2⟩ := List.nodup_cons.1 hn
    by_cases e : a = x
    · subst e
      rw [List.filter_cons_of_pos ((hf a (by simp)).2 rfl), filter_none fun y hy => ?_]
      cases hy2 : f y with
      | false => rfl
      | true =>
        have := (hf y (by simp [hy])).1 hy2
        exact absurd (this ▸ hy) h1
    · have hfa : ¬ f a = true := fun hh => e ((hf a (by simp)).1 hh)
      rw [List.filter_cons_of_neg hfa]
      rcases List.mem_cons.1 hx with rfl | hx
      · exact absurd rfl e
      · exact filter_one h2 hx fun y hy => hf y (by simp [hy])
end Go.Proofs.YtopnkfbcphbbiaaDoor
namespace Go.Proofs.YtopnkfbcphbbiaaDoor
open Go.RowKit
open H8 (okP sizeF HTab below_then packV packF isH)
open A9 (Ab ArAt ArMem FrA Ar rawA setRawA useA ptrA Ok9 MapI But SrcN Left9 isTab htab_keep upF src_one bN retireS New9 new9 upN upN_other inR)
open F0 (Pl5 Tn PuAt PoAt FrS noT noT_new plBox plS plS_of below_next Wk Pu Po upO headF headF_eq)
open S1 (RowO MAt Mc Out FeM FeR stepF grN clN clN_lt PlS AlM AlR AlN plK plK_ok plK_wk grs newAlW ifAl Run Inv)

theorem wpOp_yes {P : Program} {ops : Array Oper} {Q : Exit → Act → World → Prop} {i : Nat} {K : Act → World → Prop} {a : Act} {w : World} {o : Oper} (h : ops[i]? = some o) (hw : Region.wanted o (yielded ops a.tmps) = true) (h2 : Oper.wp P o a w K Q) : wpOp P ops Q i K a w := by
  unfold wpOp
  rw [h]
  simp only
  rw [if_pos hw]
  exact .inl h2
theorem wpAnyH_one {P : Program} {md : Region.Mode} {ops : Array Oper} {Q : Exit → Act → World → Prop} {S : World → Prop} {i fuel : Nat} {listed : Array Bool} {a : Act} {w : World} {o : Oper} (h : ops[i]? = some o) (hr : Region.ready md ops listed = [i]) (hw : Region.wanted o (yielded ops a.tmps) = true) (h2 : Oper.wp P o a w (fun a' w' => S w' ∧ wpAnyH P md ops Q S fuel (listed.setIfInBounds i true) a' w') Q) : wpAnyH P md ops Q S (fuel + 1) listed a w :=
  wpAnyH_ready hr (by simp) fun j hj => by
    obtain rfl : j = i := by simpa using hj
    exact wpOp_yes h hw h2
section
variable {B : Ab} {w w' : World} {s : Ar}
set_option maxHeartbeats 4000000 in
set_option maxRecDepth 4000 in
theorem awake_any (w : World) (hT : HTab w) : Calls Tryd.prog 10 #[] w fun e w' => e = .returned (.bool true) ∧ Below w.heap.size w w' := by
  have kM : Calls Tryd.prog 9 #[.int .i64 2, .int .i64 2] w (MadeP w 2 2) := make1_any (k := 2) (n := 2) hT (by omega) (by omega) (by omega)
  go_enter Tryd.func10, Tryd.ntmps10
  go_wp2_with fail
  refine kM.mono ?_
  rintro e w1 ⟨B, s, v, l, rfl, hA, hI, hnr, hrow, hb, hBo, hv⟩
  have hR := Rt.of hI hnr
  have hfar := hI.far
  obtain ⟨h0, h1, rfl⟩ : ∃ h0 h1, l = [h0, h1] := by
    have := hI.len
    match l, this with
    | [a, b], _ => exact ⟨a, b, rfl⟩
  obtain ⟨r, off, cap, rfl, c0, hc1, hc2⟩ := row_at hrow (j := 0) (x := h0) rfl
  obtain ⟨r', off', cap', e', c1, -, -⟩ := row_at hrow (j := 1) (x := h1) rfl
  cases e'
  obtain ⟨p, hp⟩ : ∃ p, p = plK 2 (8 * 2) := ⟨_, rfl⟩
  rw [← hp]
  unfold Pl5.v
  rw [show ((4 * 2 + grs (8 * 2) + grs (8 * 2) + 1 : Nat) : Int) = 13 from rfl]
  have hL := Lw.begin (w := w1) hA hrow hb hBo hv p 2 13
  have HR : Hid ((Rt 2 2 s [h0, h1] 400 ∧ ∀ j, wAt 2 2 ≤ j → s.raw j = 0) ∧ Lw B w ((w1.alloc (plBox p)).alloc (.cells #[.int .i64 ((2 : Nat) : Int), .int .i64 ((13 : Nat) : Int)] 28 (0, 0))) s p 2 13 w1.heap.size (w1.heap.size + 1) (.slice (some ⟨r, off, none⟩) [h0, h1].length cap) [h0, h1] ∧ PlS (4 * 2) (grs (8 * 2)) p) := ⟨⟨hR, hfar⟩, hL, by rw [hp]; exact plK_ok (a := 2) (m := 8 * 2) (by omega) (by omega)⟩
  clear hfar hA hI hnr hrow hb hBo hv hR kM hp hL
  simp only [List.length_cons, List.length_nil] at hc1
  go_wp2_with fail
  obtain ⟨w2, hw2⟩ : ∃ w2, w2 = (w1.alloc (.cells #[.int .i64 p.wk, .int .i64 p.hd, .int .i64 p.ln, .int .i64 p.gn, .int .i64 p.cv] 26 (0, 0))).alloc (.cells #[.int .i64 2, .int .i64 13] 28 (0, 0)) := ⟨_, rfl⟩
  have HL : Lw B w w2 s p 2 13 w1.heap.size (w1.heap.size + 1) (.slice (some ⟨r, off, none⟩) [h0, h1].length cap) [h0, h1] := by rw [hw2]; exact HR.out.2.1
  have HR' : Hid ((Rt 2 2 s [h0, h1] 400 ∧ ∀ j, wAt 2 2 ≤ j → s.raw j = 0) ∧ PlS (4 * 2) (grs (8 * 2)) p) := ⟨HR.out.1, HR.out.2.2⟩
  rw [← hw2]
  clear HR hw2
  have HL : Hid _ := HL
  have c2 := HL.out.c30
  have c3 := HL.out.c31
  have c4 := row_cell HL.out.row (j := 0) (x := h0) rfl
  go_region_held3 (fun w' => w'.cell? ⟨w1.heap.size + 1, 0, none⟩ = some (.int .i64 2) ∧ w'.cell? ⟨w1.heap.size + 1, 1, none⟩ = some (.int .i64 13) ∧ w'.cell? ⟨r, off, none⟩ = some (.int .i64 h0)) (first | exact ⟨c2, c3, c4⟩ | exact hS1 | exact hS2) (first
    | (go_at_call 12; refine (Word_nat 2 13 1 0 (by omega) (by omega) (by omega) _).mono ?_; rintro e w3 ⟨rfl, hb3⟩; have HL3 : Hid (Lw B w w3 s p 2 13 w1.heap.size (w1.heap.size + 1) (.slice (some ⟨r, off, none⟩) [h0, h1].length cap) [h0, h1]) := (by first | exact HL.out.below hb3 | exact (HL.out.below (Below.refl _ _).drew).below hb3); have hS1 := (show _ ∧ _ ∧ _ from ⟨HL3.out.c30, HL3.out.c31, row_cell HL3.out.row (j := 0) (x := h0) rfl⟩); clear hb3)
    | (go_at_call 11; refine (A9.SetRaw_any (by first | exact HL3.out.ar | exact HL3.out.ar.below (Below.refl _ _).drew) 15 h0).mono ?_; rintro e w4 ⟨rfl, hA4, hF4⟩; have HL4 : Hid (Lw B w w4 (setRawA s 15 h0) p 2 13 w1.heap.size (w1.heap.size + 1) (.slice (some ⟨r, off, none⟩) [h0, h1].length cap) [h0, h1]) := (by first | exact HL3.out.arena hA4 hF4 | exact (HL3.out.below (Below.refl _ _).drew).arena hA4 hF4); have hS2 := (show _ ∧ _ ∧ _ from ⟨HL4.out.c30, HL4.out.c31, row_cell HL4.out.row (j := 0) (x := h0) rfl⟩); clear hA4 hF4))
  have hR4 : Rt 2 2 (setRawA s 15 h0) [h0, h1] 401 := HR'.out.1.1.word (j := 2) (by omega) (by omega) h0
  have hraw : ∀ j, (setRawA s 15 h0).raw (wAt 2 2 + j) = if j = 2 then h0 else 0 := fun j => by
    rw [show (setRawA s 15 h0) = setRawA s ((wAt 2 2 + 2 : Nat) : Int) h0 from rfl, set_raw HR'.out.1.1 (by omega) h0 j, HR'.out.1.2 _ (by omega)]
  have h1n := (hR4.nm h1 (by simp)).2
  have h01 : h1 ≠ h0 := fun e => by
    have := hR4.nd (by omega)
    rw [e] at this
    simp at this
  have n0 : nmd (setRawA s 15 h0) (tbl 2 2 0) h0 = true := (nmd_iff 2 2 0 _ _).2 ⟨2, by omega, by rw [hraw]; rfl⟩
  have n1 : nmd (setRawA s 15 h0) (tbl 2 2 0) h1 = false := Bool.eq_false_iff.2 fun hh => by
    obtain ⟨j, -, e⟩ := (nmd_iff 2 2 0 _ _).1 hh
    rw [hraw] at e
    split at e
    · exact h01 e
    · exact h1n e
  have hfl : [h0, h1].filter (nmd (setRawA s 15 h0) (tbl 2 2 0)) = [h0] := by simp [n0, n1]
  have kN := scan_any (t := tbl 2 2 0) HL4.out.ar HR'.out.2 (hR4.ok (wk := 0) (by omega) (by omega) (by omega) (by omega) (by omega)) HL4.out.row
  have HQ : Hid (PlS (4 * 2) (grs (8 * 2)) p ∧ [h0, h1].filter (nmd (setRawA s 15 h0) (tbl 2 2 0)) = [h0] ∧ nmd (setRawA s 15 h0) (tbl 2 2 0) h0 = true ∧ nmd (setRawA s 15 h0) (tbl 2 2 0) h1 = false) := ⟨HR'.out.2, hfl, n0, n1⟩
  have c6 := HL4.out.c30
  have c7 := HL4.out.c31
  obtain ⟨d0, d1, d2, d3, d4⟩ := HL4.out.c2
  clear hR4 hraw h1n n0 n1 hfl HR' hS1 hS2 HL3 HL c0 c1 c2 c3 c4 h01
  unfold Pl5.v at kN
  go_wp2_with fail
  refine kN.mono ?_
  rintro e w5 ⟨q, rfl, hb5, kR⟩
  have HL5 : Hid (Lw B w w5 (setRawA s 15 h0) p 2 13 w1.heap.size (w1.heap.size + 1) (.slice (some ⟨r, off, none⟩) [h0, h1].length cap) [h0, h1] ∧ Below w4.heap.size w4 w5) := ⟨HL4.out.below hb5, hb5⟩
  clear kN hb5 c6 c7 d0 d1 d2 d3 d4
  obtain ⟨s4, hs4⟩ : ∃ s4, s4 = setRawA s 15 h0 := ⟨_, rfl⟩
  obtain ⟨HP, HFl, Hn0, Hn1⟩ := HQ.out
  rw [← hs4] at HFl Hn0 Hn1 kR HL5 HL4
  have HN : Hid (nmd s4 (tbl 2 2 0) h0 = true ∧ nmd s4 (tbl 2 2 0) h1 = false) := ⟨Hn0, Hn1⟩
  unfold ScanP at kR
  rw [HFl] at kR
  have KR : Hid _ := kR
  clear hs4 HQ HP HFl Hn0 Hn1 kR
  have c4 := row_cell HL5.out.1.row (j := 0) (x := h0) rfl
  have c5 := row_cell HL5.out.1.row (j := 1) (x := h1) rfl
  unfold ifSc at KR
  go_wp2_with fail
  have c4 : w5.cell? ⟨r, off, none⟩ = some (.int .i64 h0) := c4
  refine wp_region_held_drew (S := fun w' => w'.cell? ⟨r, off, none⟩ = some (.int .i64 h0)) (by kernel_rfl) c4 (fun _ => ?_)
  refine wpAnyH_one (i := 0) (o := { dst := some 30, op := Op.move (Operand.tmp 5), type := 34, pos := "law.go:59", after := #[], guard := none }) (by kernel_rfl) (by kernel_rfl) (by kernel_rfl) ?_
  go_wp2_with fail
  refine wpAnyH_one (i := 1) (o := { dst := some 31, op := Op.binOp BinOp.neq 34 (Operand.tmp 30) (Operand.const (Value.pointer none)) 34, type := 4, pos := "law.go:59", after := #[{ on := 0, ground := Ground.data }], guard := none }) (by kernel_rfl) (by kernel_rfl) (by kernel_rfl) ?_
  go_wp2_with fail
  refine wpAnyH_one (i := 2) (o := { dst := some 32, op := Op.move (Operand.tmp 31), type := 4, pos := "law.go:59", after := #[{ on := 1, ground := Ground.data }], guard := none }) (by kernel_rfl) (by kernel_rfl) (by kernel_rfl) ?_
  go_wp2_with fail
  refine wpAnyH_take (i := 3) (oi := { dst := some 33, op := Op.move (Operand.tmp 1), type := 24, pos := "law.go:59", after := #[{ on := 2, ground := Ground.guard }], guard := some (2, true) }) (v := ptrA B) (by kernel_rfl) (by kernel_rfl) (by kernel_rfl) (by kernel_rfl) (fun _ _ _ h => h) (.inl ⟨by kernel_rfl, fun w hw => by kernel_rfl⟩) (by first | exact c4 | exact c64) ?_
  refine wpAnyH_one (i := 4) (o := { dst := some 34, op := Op.move (Operand.tmp 5), type := 34, pos := "law.go:59", after := #[{ on := 2, ground := Ground.guard }], guard := some (2, true) }) (by kernel_rfl) (by kernel_rfl) (by kernel_rfl) ?_
  go_wp2_with fail
  refine wpAnyH_one (i := 5) (o := { dst := some 35, op := Op.makeInterface 34 (Operand.tmp 34), type := 75, pos := "law.go:59", after := #[{ on := 4, ground := Ground.data }, { on := 2, ground := Ground.guard }], guard := some (2, true) }) (by kernel_rfl) (by kernel_rfl) (by kernel_rfl) ?_
  go_wp2_with fail
  refine wpAnyH_one (i := 6) (o := { dst := some 36, op := Op.call { callee := Callee.value (Operand.func 16), args := #[Operand.tmp 33, Operand.tmp 35], argTypes := #[24, 75] }, type := 4, pos := "law.go:59", after := #[{ on := 3, ground := Ground.data }, { on := 5, ground := Ground.data }, { on := 2, ground := Ground.chain }, { on := 2, ground := Ground.guard }], guard := some (2, true) }) (by kernel_rfl) (by kernel_rfl) (by kernel_rfl) ?_
  go_wp2_with fail
  refine (KR.out _ (Below.refl _ _).drew).mono ?_
  rintro e w6 ⟨rfl, s6, hD, hE, hF⟩
  have HL6 : Hid (Lw B w w6 s6 p 2 13 w1.heap.size (w1.heap.size + 1) (.slice (some ⟨r, off, none⟩) [h0, h1].length cap) [h0, h1] ∧ ScD B p (tbl 2 2 0) q [h0] s6 w6 ∧ s6.st h0 = 2 ∧ s6.st h1 = 0) := ⟨HL4.out.arena hD.ar hF, hD, by rw [hE.dead h0 (by simp), HN.out.1]; rfl, by rw [hE.dead h1 (by simp), HN.out.2]; rfl⟩
  have c64 : w6.cell? ⟨r, off, none⟩ = some (.int .i64 h0) := row_cell HL6.out.1.row (j := 0) (x := h0) rfl
  clear hD hE hF c4 c5
  go_wp2_with fail
  refine wpAnyH_one (i := 7) (o := { dst := some 37, op := Op.pick (Operand.tmp 32) (Operand.tmp 36) (Operand.const (Value.bool false)), type := 4, pos := "law.go:59", after := #[{ on := 2, ground := Ground.data }, { on := 6, ground := Ground.data }], guard := none }) (by kernel_rfl) (by kernel_rfl) (by kernel_rfl) ?_
  go_wp2_with fail
  refine wpAnyH_one (i := 8) (o := { dst := some 38, op := Op.move (Operand.tmp 37), type := 4, pos := "law.go:59", after := #[{ on := 7, ground := Ground.data }, { on := 6, ground := Ground.chain }], guard := none }) (by kernel_rfl) (by kernel_rfl) (by kernel_rfl) ?_
  go_wp2_with fail
  refine wpAnyH_one (i := 9) (o := { dst := some 39, op := Op.move (Operand.tmp 5), type := 34, pos := "law.go:59", after := #[{ on := 8, ground := Ground.guard }], guard := some (8, true) }) (by kernel_rfl) (by kernel_rfl) (by kernel_rfl) ?_
  go_wp2_with fail
  refine wpAnyH_one (i := 10) (o := { dst := some 40, op := Op.call { callee := Callee.value (Operand.func 17), args := #[Operand.tmp 39], argTypes := #[34] }, type := 22, pos := "law.go:59", after := #[{ on := 9, ground := Ground.data }, { on := 8, ground := Ground.chain }, { on := 8, ground := Ground.guard }], guard := some (8, true) }) (by kernel_rfl) (by kernel_rfl) (by kernel_rfl) ?_
  go_wp2_with fail
  refine (HL6.out.2.1.left (by simp)).mono ?_
  rintro e w7 ⟨v7, rfl, hr7, hb7⟩
  have HL7 : Hid (Lw B w w7 s6 p 2 13 w1.heap.size (w1.heap.size + 1) (.slice (some ⟨r, off, none⟩) [h0, h1].length cap) [h0, h1] ∧ ScD B p (tbl 2 2 0) q [h0] s6 w7 ∧ s6.st h0 = 2 ∧ s6.st h1 = 0) := ⟨HL6.out.1.below hb7, HL6.out.2.1.below hb7, HL6.out.2.2⟩
  clear c64
  have c64 : w7.cell? ⟨r, off, none⟩ = some (.int .i64 h0) := row_cell HL7.out.1.row (j := 0) (x := h0) rfl
  obtain ⟨a7, cap7, rfl⟩ := hr7.len
  clear hr7 hb7
  go_wp2_with fail
  refine wpAnyH_one (i := 11) (o := { dst := some 41, op := Op.call { callee := Callee.builtin Builtin.len, args := #[Operand.tmp 40], argTypes := #[22] }, type := 3, pos := "law.go:59", after := #[{ on := 10, ground := Ground.data }, { on := 8, ground := Ground.guard }], guard := some (8, true) }) (by kernel_rfl) (by kernel_rfl) (by kernel_rfl) ?_
  go_wp2_with fail
  refine wpAnyH_one (i := 12) (o := { dst := some 42, op := Op.binOp BinOp.eql 3 (Operand.tmp 41) (Operand.const (Value.int IntKind.i64 1)) 3, type := 4, pos := "law.go:59", after := #[{ on := 11, ground := Ground.data }, { on := 8, ground := Ground.guard }], guard := some (8, true) }) (by kernel_rfl) (by kernel_rfl) (by kernel_rfl) ?_
  go_wp2_with fail
  refine wpAnyH_one (i := 13) (o := { dst := some 43, op := Op.pick (Operand.tmp 38) (Operand.tmp 42) (Operand.const (Value.bool false)), type := 4, pos := "law.go:59", after := #[{ on := 8, ground := Ground.data }, { on := 12, ground := Ground.data }], guard := none }) (by kernel_rfl) (by kernel_rfl) (by kernel_rfl) ?_
  go_wp2_with fail
  refine wpAnyH_one (i := 14) (o := { dst := some 44, op := Op.move (Operand.tmp 43), type := 4, pos := "law.go:59", after := #[{ on := 13, ground := Ground.data }, { on := 10, ground := Ground.chain }], guard := none }) (by kernel_rfl) (by kernel_rfl) (by kernel_rfl) ?_
  go_wp2_with fail
  refine wpAnyH_take (i := 15) (oi := { dst := some 45, op := Op.move (Operand.tmp 5), type := 34, pos := "law.go:59", after := #[{ on := 14, ground := Ground.guard }], guard := some (14, true) }) (v := .pointer (some ⟨q, 0, none⟩)) (by kernel_rfl) (by kernel_rfl) (by kernel_rfl) (by kernel_rfl) (fun _ _ _ h => h) (.inl ⟨by kernel_rfl, fun w hw => by kernel_rfl⟩) (by first | exact c4 | exact c64) ?_
  refine wpAnyH_take (i := 19) (oi := { dst := some 49, op := Op.move (Operand.tmp 4), type := 22, pos := "law.go:59", after := #[{ on := 14, ground := Ground.guard }], guard := some (14, true) }) (v := .slice (some ⟨r, off, none⟩) 2 cap) (by kernel_rfl) (by kernel_rfl) (by kernel_rfl) (by kernel_rfl) (fun _ _ _ h => h) (.inl ⟨by kernel_rfl, fun w hw => by kernel_rfl⟩) (by first | exact c4 | exact c64) ?_
  refine wpAnyH_take (i := 20) (oi := { dst := some 50, op := Op.indexAddr 22 (Operand.tmp 49) (Operand.const (Value.int IntKind.i64 0)), type := 0, pos := "law.go:59", after := #[{ on := 19, ground := Ground.data }, { on := 14, ground := Ground.guard }], guard := some (14, true) }) (v := .pointer (some ⟨r, off, none⟩)) (by kernel_rfl) (by kernel_rfl) (by kernel_rfl) (by kernel_rfl) (fun _ _ _ h => h) (.inl ⟨by kernel_rfl, fun w hw => by kernel_rfl⟩) (by first | exact c4 | exact c64) ?_
  refine wpAnyH_take (i := 21) (oi := { dst := some 51, op := Op.load 3 (Operand.tmp 50), type := 3, pos := "law.go:59", after := #[{ on := 20, ground := Ground.data }, { on := 14, ground := Ground.guard }], guard := some (14, true) }) (v := .int .i64 h0) (by kernel_rfl) (by kernel_rfl) (by kernel_rfl) (by kernel_rfl) (fun _ _ _ h => h) (.inl ⟨by kernel_rfl, fun w hw => by go_simp⟩) (by first | exact c4 | exact c64) ?_
  refine wpAnyH_one (i := 16) (o := { dst := some 46, op := Op.call { callee := Callee.value (Operand.func 17), args := #[Operand.tmp 45], argTypes := #[34] }, type := 22, pos := "law.go:59", after := #[{ on := 15, ground := Ground.data }, { on := 14, ground := Ground.chain }, { on := 14, ground := Ground.guard }], guard := some (14, true) }) (by kernel_rfl) (by kernel_rfl) (by kernel_rfl) ?_
  go_wp2_with fail
  refine (HL7.out.2.1.left (by simp)).mono ?_
  rintro e w8 ⟨v8, rfl, hr8, hb8⟩
  have HL8 : Hid (Lw B w w8 s6 p 2 13 w1.heap.size (w1.heap.size + 1) (.slice (some ⟨r, off, none⟩) [h0, h1].length cap) [h0, h1] ∧ ScD B p (tbl 2 2 0) q [h0] s6 w8 ∧ s6.st h0 = 2 ∧ s6.st h1 = 0) := ⟨HL7.out.1.below hb8, HL7.out.2.1.below hb8, HL7.out.2.2⟩
  clear c64
  have c64 : w8.cell? ⟨r, off, none⟩ = some (.int .i64 h0) := row_cell HL8.out.1.row (j := 0) (x := h0) rfl
  obtain ⟨r8, off8, cap8, rfl, c8', hc8, hd8⟩ := row_at hr8 (j := 0) (x := h0) rfl
  have c8 : w8.cell? ⟨r8, off8, none⟩ = some (.int .i64 h0) := c8'
  simp only [List.length_cons, List.length_nil] at hc8
  have c65 := row_cell HL8.out.1.row (j := 1) (x := h1) rfl
  clear hr8 hb8 c8'
  go_wp2_with fail
  refine wpAnyH_one (i := 17) (o := { dst := some 47, op := Op.indexAddr 22 (Operand.tmp 46) (Operand.const (Value.int IntKind.i64 0)), type := 0, pos := "law.go:59", after := #[{ on := 16, ground := Ground.data }, { on := 14, ground := Ground.guard }], guard := some (14, true) }) (by kernel_rfl) (by kernel_rfl) (by kernel_rfl) ?_
  go_wp2_with fail
  refine wpAnyH_one (i := 18) (o := { dst := some 48, op := Op.load 3 (Operand.tmp 47), type := 3, pos := "law.go:59", after := #[{ on := 17, ground := Ground.data }, { on := 14, ground := Ground.guard }], guard := some (14, true) }) (by kernel_rfl) (by kernel_rfl) (by kernel_rfl) ?_
  go_wp2_with fail
  refine wpAnyH_one (i := 22) (o := { dst := some 52, op := Op.binOp BinOp.eql 3 (Operand.tmp 48) (Operand.tmp 51) 3, type := 4, pos := "law.go:59", after := #[{ on := 18, ground := Ground.data }, { on := 21, ground := Ground.data }, { on := 14, ground := Ground.guard }], guard := some (14, true) }) (by kernel_rfl) (by kernel_rfl) (by kernel_rfl) ?_
  go_wp2_with fail
  refine wpAnyH_one (i := 23) (o := { dst := some 53, op := Op.pick (Operand.tmp 44) (Operand.tmp 52) (Operand.const (Value.bool false)), type := 4, pos := "law.go:59", after := #[{ on := 14, ground := Ground.data }, { on := 22, ground := Ground.data }], guard := none }) (by kernel_rfl) (by kernel_rfl) (by kernel_rfl) ?_
  go_wp2_with fail
  refine wpAnyH_one (i := 24) (o := { dst := some 54, op := Op.move (Operand.tmp 53), type := 4, pos := "law.go:59", after := #[{ on := 23, ground := Ground.data }, { on := 16, ground := Ground.chain }], guard := none }) (by kernel_rfl) (by kernel_rfl) (by kernel_rfl) ?_
  go_wp2_with fail
  refine wpAnyH_take (i := 25) (oi := { dst := some 55, op := Op.move (Operand.tmp 1), type := 24, pos := "law.go:59", after := #[{ on := 24, ground := Ground.guard }], guard := some (24, true) }) (v := ptrA B) (by kernel_rfl) (by kernel_rfl) (by kernel_rfl) (by kernel_rfl) (fun _ _ _ h => h) (.inl ⟨by kernel_rfl, fun w hw => by kernel_rfl⟩) (by first | exact c4 | exact c64) ?_
  refine wpAnyH_one (i := 26) (o := { dst := some 56, op := Op.move (Operand.tmp 4), type := 22, pos := "law.go:59", after := #[{ on := 24, ground := Ground.guard }], guard := some (24, true) }) (by kernel_rfl) (by kernel_rfl) (by kernel_rfl) ?_
  go_wp2_with fail
  refine wpAnyH_one (i := 27) (o := { dst := some 57, op := Op.indexAddr 22 (Operand.tmp 56) (Operand.const (Value.int IntKind.i64 1)), type := 0, pos := "law.go:59", after := #[{ on := 26, ground := Ground.data }, { on := 24, ground := Ground.guard }], guard := some (24, true) }) (by kernel_rfl) (by kernel_rfl) (by kernel_rfl) ?_
  go_wp2_with fail
  refine wpAnyH_one (i := 28) (o := { dst := some 58, op := Op.load 3 (Operand.tmp 57), type := 3, pos := "law.go:59", after := #[{ on := 27, ground := Ground.data }, { on := 24, ground := Ground.guard }], guard := some (24, true) }) (by kernel_rfl) (by kernel_rfl) (by kernel_rfl) ?_
  go_wp2_with fail
  refine wpAnyH_one (i := 29) (o := { dst := some 59, op := Op.call { callee := Callee.value (Operand.func 18), args := #[Operand.tmp 55, Operand.tmp 58], argTypes := #[24, 3] }, type := 3, pos := "law.go:59", after := #[{ on := 25, ground := Ground.data }, { on := 28, ground := Ground.data }, { on := 24, ground := Ground.chain }, { on := 24, ground := Ground.guard }], guard := some (24, true) }) (by kernel_rfl) (by kernel_rfl) (by kernel_rfl) ?_
  go_wp2_with fail
  have kS := A9.State_any HL8.out.1.ar h1
  rw [HL8.out.2.2.2] at kS
  refine kS.mono ?_
  rintro e w9 ⟨rfl, rfl⟩
  clear kS
  go_wp2_with fail
  refine wpAnyH_one (i := 30) (o := { dst := some 60, op := Op.binOp BinOp.eql 3 (Operand.tmp 59) (Operand.const (Value.int IntKind.i64 0)) 3, type := 4, pos := "law.go:59", after := #[{ on := 29, ground := Ground.data }, { on := 24, ground := Ground.guard }], guard := some (24, true) }) (by kernel_rfl) (by kernel_rfl) (by kernel_rfl) ?_
  go_wp2_with fail
  refine wpAnyH_one (i := 31) (o := { dst := some 61, op := Op.pick (Operand.tmp 54) (Operand.tmp 60) (Operand.const (Value.bool false)), type := 4, pos := "law.go:59", after := #[{ on := 24, ground := Ground.data }, { on := 30, ground := Ground.data }], guard := none }) (by kernel_rfl) (by kernel_rfl) (by kernel_rfl) ?_
  go_wp2_with fail
  refine wpAnyH_one (i := 32) (o := { dst := some 62, op := Op.move (Operand.tmp 61), type := 4, pos := "law.go:59", after := #[{ on := 31, ground := Ground.data }, { on := 29, ground := Ground.chain }], guard := none }) (by kernel_rfl) (by kernel_rfl) (by kernel_rfl) ?_
  go_wp2_with fail
  refine wpAnyH_take (i := 33) (oi := { dst := some 63, op := Op.move (Operand.tmp 1), type := 24, pos := "law.go:59", after := #[{ on := 32, ground := Ground.guard }], guard := some (32, true) }) (v := ptrA B) (by kernel_rfl) (by kernel_rfl) (by kernel_rfl) (by kernel_rfl) (fun _ _ _ h => h) (.inl ⟨by kernel_rfl, fun w hw => by kernel_rfl⟩) (by first | exact c4 | exact c64) ?_
  refine wpAnyH_one (i := 34) (o := { dst := some 64, op := Op.move (Operand.tmp 4), type := 22, pos := "law.go:59", after := #[{ on := 32, ground := Ground.guard }], guard := some (32, true) }) (by kernel_rfl) (by kernel_rfl) (by kernel_rfl) ?_
  go_wp2_with fail
  refine wpAnyH_one (i := 35) (o := { dst := some 65, op := Op.indexAddr 22 (Operand.tmp 64) (Operand.const (Value.int IntKind.i64 0)), type := 0, pos := "law.go:59", after := #[{ on := 34, ground := Ground.data }, { on := 32, ground := Ground.guard }], guard := some (32, true) }) (by kernel_rfl) (by kernel_rfl) (by kernel_rfl) ?_
  go_wp2_with fail
  refine wpAnyH_one (i := 36) (o := { dst := some 66, op := Op.load 3 (Operand.tmp 65), type := 3, pos := "law.go:59", after := #[{ on := 35, ground := Ground.data }, { on := 32, ground := Ground.guard }], guard := some (32, true) }) (by kernel_rfl) (by kernel_rfl) (by kernel_rfl) ?_
  go_wp2_with fail
  refine wpAnyH_one (i := 37) (o := { dst := some 67, op := Op.call { callee := Callee.value (Operand.func 18), args := #[Operand.tmp 63, Operand.tmp 66], argTypes := #[24, 3] }, type := 3, pos := "law.go:59", after := #[{ on := 33, ground := Ground.data }, { on := 36, ground := Ground.data }, { on := 32, ground := Ground.chain }, { on := 32, ground := Ground.guard }], guard := some (32, true) }) (by kernel_rfl) (by kernel_rfl) (by kernel_rfl) ?_
  go_wp2_with fail
  have kS := A9.State_any HL8.out.1.ar h0
  rw [HL8.out.2.2.1] at kS
  refine kS.mono ?_
  rintro e w9 ⟨rfl, rfl⟩
  clear kS
  go_wp2_with fail
  refine wpAnyH_one (i := 38) (o := { dst := some 68, op := Op.binOp BinOp.eql 3 (Operand.tmp 67) (Operand.const (Value.int IntKind.i64 2)) 3, type := 4, pos := "law.go:59", after := #[{ on := 37, ground := Ground.data }, { on := 32, ground := Ground.guard }], guard := some (32, true) }) (by kernel_rfl) (by kernel_rfl) (by kernel_rfl) ?_
  go_wp2_with fail
  refine wpAnyH_one (i := 39) (o := { dst := some 69, op := Op.pick (Operand.tmp 62) (Operand.tmp 68) (Operand.const (Value.bool false)), type := 4, pos := "law.go:59", after := #[{ on := 32, ground := Ground.data }, { on := 38, ground := Ground.data }], guard := none }) (by kernel_rfl) (by kernel_rfl) (by kernel_rfl) ?_
  go_wp2_with fail
  refine wpAnyH_one (i := 40) (o := { dst := some 0, op := Op.assign (Operand.tmp 69), type := 4, pos := "law.go:59", after := #[{ on := 39, ground := Ground.data }, { on := 37, ground := Ground.chain }, { on := 0, ground := Ground.phase }, { on := 1, ground := Ground.phase }, { on := 2, ground := Ground.phase }, { on := 3, ground := Ground.phase }, { on := 4, ground := Ground.phase }, { on := 5, ground := Ground.phase }, { on := 6, ground := Ground.phase }, { on := 7, ground := Ground.phase }, { on := 8, ground := Ground.phase }, { on := 9, ground := Ground.phase }, { on := 10, ground := Ground.phase }, { on := 11, ground := Ground.phase }, { on := 12, ground := Ground.phase }, { on := 13, ground := Ground.phase }, { on := 14, ground := Ground.phase }, { on := 15, ground := Ground.phase }, { on := 16, ground := Ground.phase }, { on := 17, ground := Ground.phase }, { on := 18, ground := Ground.phase }, { on := 19, ground := Ground.phase }, { on := 20, ground := Ground.phase }, { on := 21, ground := Ground.phase }, { on := 22, ground := Ground.phase }, { on := 23, ground := Ground.phase }, { on := 24, ground := Ground.phase }, { on := 25, ground := Ground.phase }, { on := 26, ground := Ground.phase }, { on := 27, ground := Ground.phase }, { on := 28, ground := Ground.phase }, { on := 29, ground := Ground.phase }, { on := 30, ground := Ground.phase }, { on := 31, ground := Ground.phase }, { on := 32, ground := Ground.phase }, { on := 33, ground := Ground.phase }, { on := 34, ground := Ground.phase }, { on := 35, ground := Ground.phase }, { on := 36, ground := Ground.phase }, { on := 37, ground := Ground.phase }, { on := 38, ground := Ground.phase }, { on := 39, ground := Ground.phase }], guard := none }) (by kernel_rfl) (by kernel_rfl) (by kernel_rfl) ?_
  go_wp2_with fail
  refine wpAnyH_done (by kernel_rfl) ?_ _
  go_wp2_with fail
  go_ret
  exact ⟨rfl, HL8.out.1.low⟩
end
end Go.Proofs.YtopnkfbcphbbiaaDoor
namespace Go.Proofs.YtopnkfbcphbbiaaDoor
open Go.RowKit
open H8 (okP sizeF HTab below_then placeI placeI_bd place_any)
open A9 (Ab ArAt FrA Ar setRawA ptrA NAt)
open F0 (Pl5 plBox)
open S1 (RowO PlS plK plK_ok grs)

section
variable {B : Ab} {W w w' : World} {s : Ar} {p : Pl5} {k X b2 b3 n N T : Nat} {v : Value} {l l' : List Int}
theorem set_word2 (h : Lw B W w s p k X b2 b3 v l) (hX : X = wAt k n) (hR : Ts k n s l' N T) {j : Nat} (hj : j < 2 * k) (hN : N ≤ 1000000) (x : Int) : Calls Tryd.prog 11 #[ptrA B, .int .i64 ((X + j : Nat) : Int), .int .i64 x] w fun e w' => e = .returned (.tuple #[]) ∧ ∃ s', Lw B W w' s' p k X b2 b3 v l ∧ Ts k n s' l' (N + 1) T ∧ (∀ i, s'.raw (X + i) = if i = j then x else s.raw (X + i)) ∧ FrA B w w' := by
  subst hX
  refine (A9.SetRaw_any h.ar _ x).mono ?_
  rintro e w' ⟨rfl, hA, hF⟩
  exact ⟨rfl, _, h.arena hA hF, hR.word hj (by omega) x, set_raw2 hR.nr hj x, hF⟩
theorem Ts.wide {N' T' : Nat} (h : Ts k n s l' N T) (hN : N ≤ N') (hT : T ≤ T') : Ts k n s l' N' T' := by
  obtain ⟨⟨ls, h1, h2⟩, h3, h4, h5, h6, h7, h8, h9⟩ := h
  exact ⟨⟨ls, h1.wide hT, h2⟩, h3, h4, h5, h6, h7, ⟨h8.1, Int.le_trans h8.2 (by omega)⟩, h9⟩
end
/-- some words name it -/
def TaR (B : Ab) (W : World) (p : Pl5) (k X b2 b3 n : Nat) (v : Value) (l : List Int) (x : Int) (i : Nat) (w : World) : Prop := ∃ s, Lw B W w s p k X b2 b3 v l ∧ Rt k n s l (200 * n + i) ∧ ∀ j, j < 2 * k → s.raw (X + j) = wfT 0 i x j
/-- a list of names that the arena has no block of -/
def RowN (B : Ab) (w : World) (v : Value) (l : List Int) : Prop := (∃ b0, RowO w b0 v l) ∧ ∀ g, v.ownBlock = some g → ¬ B.has g
theorem RowN.arena {B : Ab} {w w' : World} {v : Value} {l : List Int} (h : RowN B w v l) (hF : FrA B w w') : RowN B w' v l := by
  obtain ⟨⟨b0, h1⟩, h2⟩ := h
  exact ⟨⟨b0, h1.kept fun g hg => hF.block g (h1.lt g hg).2 (h2 g hg)⟩, h2⟩
/-- so many scans are done -/
def TwR (B : Ab) (W : World) (p : Pl5) (k X b2 b3 n m : Nat) (v : Value) (l : List Int) (x : Int) (i : Nat) (lv : Value) (w : World) : Prop := ∃ s l', Lw B W w s p k X b2 b3 v l ∧ RowN B w lv l' ∧ Ts k n s l' (3000 + 500 * i) (3 * n + 300 * i) ∧ l'.Nodup ∧ (i ≤ m → x ∈ l') ∧ (m < i → l' = []) ∧ (∀ j, j < 2 * k → s.raw (X + j) = wfT i m x j)
theorem TwR.start {B : Ab} {W w : World} {p : Pl5} {k X b2 b3 n m : Nat} {v : Value} {l : List Int} {x : Int} (h : TaR B W p k X b2 b3 n v l x m w) (hk : 1 ≤ k) (hn : n ≤ 10) (hm : m ≤ 6) (hx : x ∈ l) : TwR B W p k X b2 b3 n m v l x 0 v w := by
  obtain ⟨s, hL, hRt, hw⟩ := h
  exact ⟨s, l, hL, ⟨⟨_, hL.row⟩, hL.nv⟩, (hRt.ts hk).wide (by omega) (by omega), hRt.nd hk, fun _ => hx, fun h => absurd h (by omega), hw⟩
theorem nmd_X {s : Ar} {X k : Nat} {y : Int} : nmd s ⟨X, k, 0⟩ y = true ↔ ∃ j, j < 2 * k ∧ y = s.raw (X + j) := by
  unfold nmd
  rw [decide_eq_true_iff]
theorem tw_yes {s : Ar} {X k q m : Nat} {x : Int} (hw : ∀ j, j < 2 * k → s.raw (X + j) = wfT q m x j) (hq : q < m) (hm : m ≤ k) : nmd s ⟨X, k, 0⟩ x = true := nmd_X.2 ⟨2 * q + q % 2, by omega, by rw [hw _ (by omega), wf_in hq]⟩
theorem tw_fil {s : Ar} {X k q m : Nat} {l : List Int} {x : Int} (hw : ∀ j, j < 2 * k → s.raw (X + j) = wfT q m x j) (hnd : l.Nodup) (hx : x ∈ l) (hn : ∀ y, y ∈ l → y ≠ 0) (hq : q < m) (hm : m ≤ k) : l.filter (nmd s ⟨X, k, 0⟩) = [x] := filter_one hnd hx fun y hy => ⟨fun h => by
  obtain ⟨j, hj, e⟩ := nmd_X.1 h
  rw [hw j hj] at e
  rcases wf_val q m x j with h | h
  · rw [e, h]
  · exact absurd (e.trans h) (hn y hy), fun e => e ▸ tw_yes hw hq hm⟩
theorem tw_not {s : Ar} {X k q : Nat} {y : Int} (hw : ∀ j, j < 2 * k → s.raw (X + j) = wfT q q y j) {z : Int} (hn : z ≠ 0) : nmd s ⟨X, k, 0⟩ z = false := Bool.eq_false_iff.2 fun h => by
  obtain ⟨j, hj, e⟩ := nmd_X.1 h
  rw [hw j hj, wf_no] at e
  exact hn e
theorem RowN.new {B : Ab} {w w' : World} {s : Ar} {v : Value} {l : List Int} (hA : ArAt B w s) (h : RowO w' w.heap.size v l) : RowN B w' v l := ⟨⟨_, h⟩, fun g hg hb => by
  have := hA.lt hb
  have := (h.lt g hg).1
  omega⟩
theorem tw_end {k X n N T : Nat} {s s' : Ar} {l : List Int} {ls : Nat → List Nat} (h : Ts k n s l N T) (hX : X = wAt k n) (hE : ScE (4 * k) (grs (8 * n)) ⟨X, k, 0⟩ s l n ls [] T s') (hls : (ls 0).length + l.length = n) (hk : k ≤ 50) (hn : n ≤ 50) : Ts k n s' (l.filter (nmd s ⟨X, k, 0⟩)) (N + 300) (T + 300) := by
  subst hX
  exact h.end_ hE hls hk hn (Nat.le_refl _) (Nat.le_refl _)
theorem fldF3 (a b c d : Int) (w : World) : (Instr.field 58 (.agg #[.int .i64 a, .int .i64 b, .int .i64 c, .int .i64 d]) 3).run Tryd.prog w = .ok (.int .i64 d) w := by kernel_rfl
set_option maxHeartbeats 16000000 in
set_option maxRecDepth 4000 in
theorem twice_walk (a0 a1 a2 a3 : Int) (w : World) (ka : ∀ wx, HTab wx → AwkP wx) (hT : HTab w) : Calls Tryd.prog 6 #[.int .i64 a0, .int .i64 a1, .int .i64 a2, .int .i64 a3] w fun e w' => e = .returned (.bool true) ∧ Below w.heap.size w w' := by
  have P0 := fun wx => place_any a0 6 wx (by omega) (by omega)
  have P1 := fun wx => place_any a1 10 wx (by omega) (by omega)
  obtain ⟨y, hy, hy4⟩ := place_nat a0 6 (by omega)
  obtain ⟨z, hz, hz4⟩ := place_nat a1 10 (by omega)
  rw [show ((6 : Nat) : Int) = 6 from rfl] at hy
  rw [show ((10 : Nat) : Int) = 10 from rfl] at hz
  rw [hy] at P0
  rw [hz] at P1
  clear hy hz
  obtain ⟨k, hk⟩ : ∃ n, n = 1 + y := ⟨_, rfl⟩
  obtain ⟨n, hn⟩ : ∃ n, n = 1 + z := ⟨_, rfl⟩
  have hkI : (1 : Int) + (y : Int) = (k : Int) := by omega
  have hkW : wrap64 (k : Int) = (k : Int) := A9.wr64_id (by omega) (by omega)
  have hnI : (1 : Int) + (z : Int) = (n : Int) := by omega
  have hnW : wrap64 (n : Int) = (n : Int) := A9.wr64_id (by omega) (by omega)
  obtain ⟨c, hc, hcn⟩ := place_nat a2 n (by omega)
  obtain ⟨u, hu, huk⟩ := place_nat a3 k (by omega)
  have P2 := fun wx => place_any a2 (n : Int) wx (by omega) (by omega)
  have P3 := fun wx => place_any a3 (k : Int) wx (by omega) (by omega)
  rw [hc] at P2
  rw [hu] at P3
  clear hc hu
  obtain ⟨m, hm⟩ : ∃ m, m = 1 + u := ⟨_, rfl⟩
  have hmI : (1 : Int) + (u : Int) = (m : Int) := by omega
  have hmW : wrap64 (m : Int) = (m : Int) := A9.wr64_id (by omega) (by omega)
  have hm6 : m ≤ 6 := by omega
  have HK : Hid (1 ≤ k ∧ k ≤ 6 ∧ 1 ≤ n ∧ n ≤ 10 ∧ 1 ≤ m ∧ m ≤ k) := ⟨by omega, by omega, by omega, by omega, by omega, by omega⟩
  have kM := fun wx (hx : HTab wx) => make2_any (w := wx) (k := k) (n := n) hx (by omega) (by omega) (by omega) (by omega)
  have HT : Hid (HTab w) := hT
  unfold AwkP at ka
  clear hT hk hn hm hy4 hz4
  go_enter Tryd.func6, Tryd.ntmps6
  go_wp2_with fail
  refine (P0 _).mono ?_
  rintro e w ⟨rfl, rfl⟩
  go_wp2_with fail
  refine (P1 _).mono ?_
  rintro e w ⟨rfl, rfl⟩
  go_wp2_with fail
  refine (kM _ HT.out).mono ?_
  rintro e w1 ⟨B, s, l, r, off, cap, X, p, rfl, hX, hc1, hc2, hp, hR, hfar, hL⟩
  obtain ⟨w2, hw2⟩ : ∃ w2, w2 = (w1.alloc (.cells #[.int .i64 p.wk, .int .i64 p.hd, .int .i64 p.ln, .int .i64 p.gn, .int .i64 p.cv] 26 (0, 0))).alloc (.cells #[.int .i64 (k : Int), .int .i64 (X : Int)] 28 (0, 0)) := ⟨_, rfl⟩
  obtain ⟨x, hx⟩ : ∃ x, l[c]? = some x := ⟨_, List.getElem?_eq_getElem (by rw [hR.len]; exact hcn)⟩
  have HX : Hid (X = wAt k n ∧ PlS (4 * k) (grs (8 * n)) p ∧ l[c]? = some x ∧ X ≤ 100000) := ⟨hX, hp, hx, by rw [hX]; have := grs_8 n; have := HK.out; unfold wAt; omega⟩
  have HR : Hid (TaR B w p k X w1.heap.size (w1.heap.size + 1) n (.slice (some ⟨r, off, none⟩) n cap) l x 0 ((w1.alloc (.cells #[.int .i64 p.wk, .int .i64 p.hd, .int .i64 p.ln, .int .i64 p.gn, .int .i64 p.cv] 26 (0, 0))).alloc (.cells #[.int .i64 (k : Int), .int .i64 (X : Int)] 28 (0, 0)))) := ⟨s, hL, hR, fun j hj => by rw [hfar _ (by omega), wf_no]⟩
  clear hX hp hR hfar hL kM P0 P1 hx
  go_wp2_with fail
  refine (P2 _).mono ?_
  rintro e wz ⟨rfl, rfl⟩
  go_wp2_with fail
  refine (P3 _).mono ?_
  rintro e wz ⟨rfl, rfl⟩
  go_wp2_with fail
  rw [← hw2] at HR ⊢
  clear hw2 P2 P3 hkW hnW hmW hkI hnI hmI
  generalize w1.heap.size + 1 = b3 at *
  generalize w1.heap.size = b2 at *
  go_loopw [17] (fun iv wr => ∃ i : Nat, i ≤ m ∧ iv = .int .i64 i ∧ TaR B w p k X b2 b3 n (.slice (some ⟨r, off, none⟩) n cap) l x i wr) (fun iv _ => 6 - (intOf iv).toNat)
  case atStart => exact ⟨0, by omega, rfl, HR.out⟩
  case round =>
    obtain ⟨i, him, rfl, hR⟩ := hrel
    clear HR
    obtain ⟨wq, rfl⟩ : ∃ W, W = wr := ⟨wr, rfl⟩
    by_cases hlt : i < m
    · obtain ⟨s, hL, hRt, hw⟩ := hR
      have hli : (i : Int) < (m : Int) := by omega
      have c2 := hL.c30
      have c3 := hL.c31
      have c4 := row_cell hL.row HX.out.2.2.1
      have HL : Hid (Lw B w wq s p k X b2 b3 (.slice (some ⟨r, off, none⟩) n cap) l) := hL
      have HR : Hid (Rt k n s l (200 * n + i) ∧ (∀ j, j < 2 * k → s.raw (X + j) = wfT 0 i x j)) := ⟨hRt, hw⟩
      have hcI : (0 : Int) ≤ (c : Int) := by omega
      have hcI2 : (c : Int) < (n : Int) := by omega
      have HM1 : Hid ((i : Int).tmod 2 = ((i % 2 : Nat) : Int)) := by show (i : Int).tmod 2 = ((i % 2 : Nat) : Int); rw [Int.tmod_eq_emod_of_nonneg (by omega)]; omega
      have hmw : IntKind.i64.wrap ((i : Int).tmod 2) = ((i % 2 : Nat) : Int) := by rw [HM1.out, IntKind.wrap_i64]; omega
      have kW := fun wx y (hy : y = ((i % 2 : Nat) : Int)) => (by rw [hy]; exact Word_nat (k : Int) X i (i % 2) (by have := HX.out; omega) (by have := HK.out; omega) (by omega) wx : Calls Tryd.prog 12 #[.agg #[.int .i64 (k : Int), .int .i64 (X : Int)], .int .i64 (i : Int), .int .i64 y] wx fun e w' => e = .returned (.int .i64 ((X + 2 * i + i % 2 : Nat) : Int)) ∧ Below wx.heap.size wx w')
      have kS := fun wx (hx : Lw B w wx s p k X b2 b3 (.slice (some ⟨r, off, none⟩) n cap) l) => set_word (j := 2 * i + i % 2) hx HX.out.1 HR.out.1 (by have := HK.out; omega) (by have := HK.out; omega) x
      rw [show X + (2 * i + i % 2) = X + 2 * i + i % 2 by omega] at kS
      generalize ((X + 2 * i + i % 2 : Nat) : Int) = xi at *
      clear hL hRt hw
      go_wp2_with fail
      go_region_held3 (fun w' => w'.cell? ⟨b3, 0, none⟩ = some (.int .i64 (k : Int)) ∧ w'.cell? ⟨b3, 1, none⟩ = some (.int .i64 (X : Int)) ∧ w'.cell? ⟨r, off + c, none⟩ = some (.int .i64 x)) (first | exact ⟨c2, c3, c4⟩ | exact hS1 | exact hS2) (first
        | (go_at_call 12; refine (kW _ _ (by first | rfl | exact HM1.out)).mono ?_; rintro e w3 ⟨rfl, hb3⟩; have HL3 : Hid (Lw B w w3 s p k X b2 b3 (.slice (some ⟨r, off, none⟩) n cap) l) := (by first | exact HL.out.below hb3 | exact (HL.out.below (Below.refl _ _).drew).below hb3); have hS1 := (show _ ∧ _ ∧ _ from ⟨HL3.out.c30, HL3.out.c31, row_cell HL3.out.row HX.out.2.2.1⟩); clear hb3)
        | (go_at_call 11; refine (kS _ (by first | exact HL3.out | exact HL3.out.below (Below.refl _ _).drew)).mono ?_; rintro e w4 ⟨rfl, s4, hL4, hR4, hw4, -⟩; have HE : Hid (TaR B w p k X b2 b3 n (.slice (some ⟨r, off, none⟩) n cap) l x (i + 1) w4) := ⟨s4, hL4, hR4, fun j hj => (by rw [hw4 j, HR.out.2 j hj, wf_put (by omega)])⟩; have hS2 := (show _ ∧ _ ∧ _ from ⟨hL4.c30, hL4.c31, row_cell hL4.row HX.out.2.2.1⟩); clear hL4 hR4 hw4))
      clear kW kS c2 c3 c4 hS1 hS2 HL3 hmw HM1
      go_wp2_with fail
      go_roundw
      case rel => exact ⟨i + 1, by omega, by go_num, HE.out⟩
      case measure => simp [intOf]; have := HK.out; omega
    · obtain rfl : i = m := by omega
      have hli : ¬ (i : Int) < (i : Int) := Int.lt_irrefl _
      have HR : Hid (TwR B w p k X b2 b3 n i (.slice (some ⟨r, off, none⟩) n cap) l x 0 (.slice (some ⟨r, off, none⟩) n cap) wq) := TwR.start hR HK.out.1 HK.out.2.2.2.1 hm6 (List.mem_of_getElem? HX.out.2.2.1)
      clear hR hlt
      go_wp2_with fail
      go_loopw [18, 19] (fun lv iv wr => ∃ q : Nat, q ≤ i + 1 ∧ iv = .int .i64 q ∧ TwR B w p k X b2 b3 n i (.slice (some ⟨r, off, none⟩) n cap) l x q lv wr) (fun _ iv _ => 8 - (intOf iv).toNat)
      case atStart => exact ⟨0, Nat.zero_le _, rfl, HR.out⟩
      case round =>
        obtain ⟨q, hqi, rfl, hR⟩ := hrel
        clear HR
        obtain ⟨wz, rfl⟩ : ∃ W, W = wr := ⟨wr, rfl⟩
        obtain ⟨lv, rfl⟩ : ∃ v, v = u18 := ⟨u18, rfl⟩
        obtain ⟨s, l', hL, hN, hTs, hnd, hxi, hno, hw⟩ := hR
        by_cases hq : q < i + 1
        · have hqI : (q : Int) ≤ (i : Int) := by omega
          obtain ⟨ls, hok, hls⟩ := hTs.ok HK.out.1 (by have := HK.out; omega) (by have := HK.out; omega) (by have := HK.out; omega) (by have := HK.out; omega)
          have hX := HX.out.1
          have kN := scan_any (t := ⟨X, k, 0⟩) hL.ar HX.out.2.1 (by rw [hX]; exact hok) hN.1.choose_spec
          unfold Pl5.v at kN
          have c6 := hL.c30
          have c7 := hL.c31
          obtain ⟨d0, d1, d2, d3, d4⟩ := hL.c2
          have HS : Hid (Lw B w wz s p k X b2 b3 (.slice (some ⟨r, off, none⟩) n cap) l ∧ Ts k n s l' (3000 + 500 * q) (3 * n + 300 * q) ∧ l'.Nodup ∧ x ∈ l' ∧ (∀ j, j < 2 * k → s.raw (X + j) = wfT q i x j) ∧ (ls 0).length + l'.length = n) := ⟨hL, hTs, hnd, hxi (by omega), hw, hls⟩
          clear hL hN hTs hnd hxi hno hw hls hok hX
          go_wp2_with fail
          refine kN.mono ?_
          rintro e w5 ⟨qq, rfl, hb5, kR⟩
          have kR5 := kR w5 (Below.refl _ _)
          unfold ifSc ScanP at kR5
          clear kN hb5 kR c6 c7 d0 d1 d2 d3 d4
          by_cases hq2 : q < i
          · have hqI2 : (q : Int) < (i : Int) := by omega
            rw [tw_fil HS.out.2.2.2.2.1 HS.out.2.2.1 HS.out.2.2.2.1 (fun y hy => (HS.out.2.1.nm y hy).2) hq2 HK.out.2.2.2.2.2] at kR5
            go_wp2_with fail
            refine kR5.mono ?_
            rintro e w6 ⟨rfl, s6, hD, hE, hF⟩
            have hst : s6.st x = 2 := by rw [hE.dead x HS.out.2.2.2.1, tw_yes HS.out.2.2.2.2.1 hq2 HK.out.2.2.2.2.2]; rfl
            have kL := hD.left (by simp)
            have HL6 : Hid (Lw B w w6 s6 p k X b2 b3 (.slice (some ⟨r, off, none⟩) n cap) l ∧ Ts k n s6 [x] (3000 + 500 * q + 300) (3 * n + 300 * q + 300) ∧ (∀ j, j < 2 * k → s6.raw (X + j) = wfT q i x j) ∧ s6.st x = 2) := ⟨HS.out.1.arena hD.ar hF, by
              have h := tw_end HS.out.2.1 HX.out.1 hE HS.out.2.2.2.2.2 (by have := HK.out; omega) (by have := HK.out; omega)
              rw [tw_fil HS.out.2.2.2.2.1 HS.out.2.2.1 HS.out.2.2.2.1 (fun y hy => (HS.out.2.1.nm y hy).2) hq2 HK.out.2.2.2.2.2] at h
              exact h, fun j hj => by rw [hE.far _ (by rw [HX.out.1]; unfold wAt; omega)]; exact HS.out.2.2.2.2.1 j hj, hst⟩
            clear kR5 hD hE hF hst
            go_wp2_with fail
            refine kL.mono ?_
            rintro e w7 ⟨v7, rfl, hr7, hb7⟩
            have hN7 := RowN.new HL6.out.1.ar hr7
            have HL7 : Hid (Lw B w w7 s6 p k X b2 b3 (.slice (some ⟨r, off, none⟩) n cap) l ∧ RowN B w7 v7 [x]) := ⟨HL6.out.1.below hb7, hN7⟩
            obtain ⟨r7, off7, cap7, rfl, c7', hc7, hd7⟩ := row_at hr7 (j := 0) (x := x) rfl
            simp only [List.length_cons, List.length_nil] at hc7 HL7
            have c7 : w7.cell? ⟨r7, off7, none⟩ = some (.int .i64 x) := c7'
            have c8 := row_cell HL7.out.1.row HX.out.2.2.1
            have hcI : (0 : Int) ≤ (c : Int) := by omega
            have hcI2 : (c : Int) < (n : Int) := by omega
            have hne : ¬ (q : Int) = (i : Int) := by omega
            have hne2 : ¬ q = i := by omega
            clear kL hb7 hr7 hN7 c7'
            simp only [List.length_cons, List.length_nil]
            go_wp2_with fail
            go_region_held3 (fun w' => w'.cell? ⟨r7, off7, none⟩ = some (.int .i64 x) ∧ w'.cell? ⟨r, off + c, none⟩ = some (.int .i64 x)) (first | exact ⟨c7, c8⟩ | exact hS1) (first
              | (go_at_call 18; refine (A9.State_any (by first | exact HL7.out.1.ar | exact HL7.out.1.ar.below (Below.refl _ _).drew) x).mono ?_; rintro e w8 ⟨rfl, rfl⟩; rw [HL6.out.2.2.2]; have hS1 := (show _ ∧ _ from ⟨c7, c8⟩)))
            clear c7 c8 hcI hcI2 hc7 hd7 hS1 hne hne2
            have c30 := HL7.out.1.c30
            have c31 := HL7.out.1.c31
            have kW := fun wx => Word_nat (k : Int) X q (q % 2) (by have := HX.out; omega) (by have := HK.out; omega) (by omega) wx
            have kS := fun wx (hx : Lw B w wx s6 p k X b2 b3 (.slice (some ⟨r, off, none⟩) n cap) l) => set_word2 (j := 2 * q + q % 2) hx HX.out.1 HL6.out.2.1 (by have := HK.out; omega) (by have := HK.out; omega) 0
            rw [show X + (2 * q + q % 2) = X + 2 * q + q % 2 by omega] at kS
            rw [show ((q % 2 : Nat) : Int) = (q : Int) % 2 by omega] at kW
            generalize ((X + 2 * q + q % 2 : Nat) : Int) = xi at *
            go_wp2_with fail
            refine (kW _).mono ?_
            rintro e w8 ⟨rfl, hb8⟩
            have HL8 : Hid (Lw B w w8 s6 p k X b2 b3 (.slice (some ⟨r, off, none⟩) n cap) l ∧ FrA B w7 w8) := ⟨(HL7.out.1.below (Below.refl _ _).drew).below hb8, .of_below (below_then (Below.refl _ _).drew hb8)⟩
            clear hb8 kW c30 c31
            go_wp2_with fail
            refine (kS _ HL8.out.1).mono ?_
            rintro e w9 ⟨rfl, s9, hL9, hT9, hw9, hF9⟩
            have HE : Hid (TwR B w p k X b2 b3 n i (.slice (some ⟨r, off, none⟩) n cap) l x (q + 1) (.slice (some ⟨r7, off7, none⟩) 1 cap7) w9) := ⟨s9, [x], hL9, (HL7.out.2.arena HL8.out.2).arena hF9, hT9.wide (by omega) (by omega), by simp, fun _ => by simp, fun h => absurd h (by omega), fun j hj => by rw [hw9 j, HL6.out.2.2.1 j hj, wf_del]⟩
            clear kS hL9 hT9 hw9 hF9
            go_wp2_with fail
            go_roundw
            case rel => exact ⟨q + 1, by omega, by go_num, HE.out⟩
            case measure => simp [intOf]; have := HK.out; omega
          · obtain rfl : q = i := by omega
            have hqI2 : ¬ (q : Int) < (q : Int) := Int.lt_irrefl _
            rw [filter_none fun y hy => tw_not HS.out.2.2.2.2.1 (HS.out.2.1.nm y hy).2] at kR5
            go_wp2_with fail
            refine kR5.mono ?_
            rintro e w6 ⟨rfl, s6, hD, hE, hF⟩
            have hst : s6.st x = 0 := by rw [hE.dead x HS.out.2.2.2.1, tw_not HS.out.2.2.2.2.1 (HS.out.2.1.nm x HS.out.2.2.2.1).2]; rfl
            have kL := hD.left (by simp)
            have HL6 : Hid (Lw B w w6 s6 p k X b2 b3 (.slice (some ⟨r, off, none⟩) n cap) l ∧ Ts k n s6 [] (3000 + 500 * q + 300) (3 * n + 300 * q + 300) ∧ (∀ j, j < 2 * k → s6.raw (X + j) = wfT q q x j) ∧ s6.st x = 0) := ⟨HS.out.1.arena hD.ar hF, by
              have h := tw_end HS.out.2.1 HX.out.1 hE HS.out.2.2.2.2.2 (by have := HK.out; omega) (by have := HK.out; omega)
              rw [filter_none fun y hy => tw_not HS.out.2.2.2.2.1 (HS.out.2.1.nm y hy).2] at h
              exact h, fun j hj => by rw [hE.far _ (by rw [HX.out.1]; unfold wAt; omega)]; exact HS.out.2.2.2.2.1 j hj, hst⟩
            clear kR5 hD hE hF hst
            go_wp2_with fail
            refine kL.mono ?_
            rintro e w7 ⟨v7, rfl, hr7, hb7⟩
            have hN7 := RowN.new HL6.out.1.ar hr7
            obtain ⟨a7, cap7, rfl⟩ := hr7.len
            simp only [List.length_nil] at hN7
            have HL7 : Hid (Lw B w w7 s6 p k X b2 b3 (.slice (some ⟨r, off, none⟩) n cap) l ∧ RowN B w7 (.slice a7 0 cap7) []) := ⟨HL6.out.1.below hb7, hN7⟩
            have c8 := row_cell HL7.out.1.row HX.out.2.2.1
            have hcI : (0 : Int) ≤ (c : Int) := by omega
            have hcI2 : (c : Int) < (n : Int) := by omega
            clear kL hb7 hr7 hN7 hqI2
            simp only [List.length_nil]
            go_wp2_with fail
            refine wp_region_held_drew (S := fun w' => w'.cell? ⟨r, off + c, none⟩ = some (.int .i64 x)) (by kernel_rfl) c8 (fun _ => ?_)
            refine wpAnyH_take (i := 0) (oi := { dst := some 87, op := Op.move (Operand.tmp 18), type := 22, pos := "outright.go:37", after := #[], guard := none }) (v := .slice a7 0 cap7) (by kernel_rfl) (by kernel_rfl) (by kernel_rfl) (by kernel_rfl) (fun _ _ _ h => h) (.inl ⟨by kernel_rfl, fun w hw => by kernel_rfl⟩) c8 ?_
            refine wpAnyH_take (i := 3) (oi := { dst := some 90, op := Op.move (Operand.tmp 19), type := 3, pos := "outright.go:37", after := #[], guard := none }) (v := .int .i64 q) (by kernel_rfl) (by kernel_rfl) (by kernel_rfl) (by kernel_rfl) (fun _ _ _ h => h) (.inl ⟨by kernel_rfl, fun w hw => by kernel_rfl⟩) c8 ?_
            refine wpAnyH_take (i := 4) (oi := { dst := some 91, op := Op.move (Operand.tmp 16), type := 3, pos := "outright.go:37", after := #[], guard := none }) (v := .int .i64 q) (by kernel_rfl) (by kernel_rfl) (by kernel_rfl) (by kernel_rfl) (fun _ _ _ h => h) (.inl ⟨by kernel_rfl, fun w hw => by kernel_rfl⟩) c8 ?_
            refine wpAnyH_take (i := 1) (oi := { dst := some 88, op := Op.call { callee := Callee.builtin Builtin.len, args := #[Operand.tmp 87], argTypes := #[22] }, type := 3, pos := "outright.go:37", after := #[{ on := 0, ground := Ground.data }], guard := none }) (v := .int .i64 0) (by kernel_rfl) (by kernel_rfl) (by kernel_rfl) (by kernel_rfl) (fun _ _ _ h => h) (.inl ⟨by kernel_rfl, fun w hw => by kernel_rfl⟩) c8 ?_
            refine wpAnyH_take (i := 2) (oi := { dst := some 89, op := Op.binOp BinOp.eql 3 (Operand.tmp 88) (Operand.const (Value.int IntKind.i64 1)) 3, type := 4, pos := "outright.go:37", after := #[{ on := 1, ground := Ground.data }], guard := none }) (v := .bool false) (by kernel_rfl) (by kernel_rfl) (by kernel_rfl) (by kernel_rfl) (fun _ _ _ h => h) (.inl ⟨by kernel_rfl, fun w hw => by kernel_rfl⟩) c8 ?_
            refine wpAnyH_one (i := 5) (o := { dst := some 92, op := Op.binOp BinOp.lss 3 (Operand.tmp 90) (Operand.tmp 91) 3, type := 4, pos := "outright.go:37", after := #[{ on := 3, ground := Ground.data }, { on := 4, ground := Ground.data }], guard := none }) (by kernel_rfl) (by kernel_rfl) (by kernel_rfl) ?_
            go_wp2_with fail
            refine wpAnyH_one (i := 6) (o := { dst := some 93, op := Op.binOp BinOp.neq 4 (Operand.tmp 89) (Operand.tmp 92) 4, type := 4, pos := "outright.go:37", after := #[{ on := 2, ground := Ground.data }, { on := 5, ground := Ground.data }], guard := none }) (by kernel_rfl) (by kernel_rfl) (by kernel_rfl) ?_
            go_wp2_with fail
            refine wpAnyH_one (i := 7) (o := { dst := some 94, op := Op.move (Operand.tmp 93), type := 4, pos := "outright.go:37", after := #[{ on := 6, ground := Ground.data }], guard := none }) (by kernel_rfl) (by kernel_rfl) (by kernel_rfl) ?_
            go_wp2_with fail
            refine wpAnyH_one (i := 8) (o := { dst := some 95, op := Op.move (Operand.tmp 18), type := 22, pos := "outright.go:37", after := #[{ on := 7, ground := Ground.guard }], guard := some (7, false) }) (by kernel_rfl) (by kernel_rfl) (by kernel_rfl) ?_
            go_wp2_with fail
            refine wpAnyH_one (i := 9) (o := { dst := some 96, op := Op.call { callee := Callee.builtin Builtin.len, args := #[Operand.tmp 95], argTypes := #[22] }, type := 3, pos := "outright.go:37", after := #[{ on := 8, ground := Ground.data }, { on := 7, ground := Ground.guard }], guard := some (7, false) }) (by kernel_rfl) (by kernel_rfl) (by kernel_rfl) ?_
            go_wp2_with fail
            refine wpAnyH_one (i := 10) (o := { dst := some 97, op := Op.binOp BinOp.gtr 3 (Operand.tmp 96) (Operand.const (Value.int IntKind.i64 1)) 3, type := 4, pos := "outright.go:37", after := #[{ on := 9, ground := Ground.data }, { on := 7, ground := Ground.guard }], guard := some (7, false) }) (by kernel_rfl) (by kernel_rfl) (by kernel_rfl) ?_
            go_wp2_with fail
            refine wpAnyH_one (i := 11) (o := { dst := some 98, op := Op.pick (Operand.tmp 94) (Operand.const (Value.bool true)) (Operand.tmp 97), type := 4, pos := "outright.go:37", after := #[{ on := 7, ground := Ground.data }, { on := 10, ground := Ground.data }], guard := none }) (by kernel_rfl) (by kernel_rfl) (by kernel_rfl) ?_
            go_wp2_with fail
            refine wpAnyH_one (i := 12) (o := { dst := some 99, op := Op.move (Operand.tmp 98), type := 4, pos := "outright.go:37", after := #[{ on := 11, ground := Ground.data }, { on := 7, ground := Ground.chain }], guard := none }) (by kernel_rfl) (by kernel_rfl) (by kernel_rfl) ?_
            go_wp2_with fail
            refine wpAnyH_one (i := 13) (o := { dst := some 100, op := Op.move (Operand.tmp 18), type := 22, pos := "outright.go:37", after := #[{ on := 12, ground := Ground.guard }], guard := some (12, false) }) (by kernel_rfl) (by kernel_rfl) (by kernel_rfl) ?_
            go_wp2_with fail
            refine wpAnyH_one (i := 14) (o := { dst := some 101, op := Op.call { callee := Callee.builtin Builtin.len, args := #[Operand.tmp 100], argTypes := #[22] }, type := 3, pos := "outright.go:37", after := #[{ on := 13, ground := Ground.data }, { on := 12, ground := Ground.guard }], guard := some (12, false) }) (by kernel_rfl) (by kernel_rfl) (by kernel_rfl) ?_
            go_wp2_with fail
            refine wpAnyH_one (i := 15) (o := { dst := some 102, op := Op.binOp BinOp.eql 3 (Operand.tmp 101) (Operand.const (Value.int IntKind.i64 1)) 3, type := 4, pos := "outright.go:37", after := #[{ on := 14, ground := Ground.data }, { on := 12, ground := Ground.guard }], guard := some (12, false) }) (by kernel_rfl) (by kernel_rfl) (by kernel_rfl) ?_
            go_wp2_with fail
            refine wpAnyH_one (i := 16) (o := { dst := some 103, op := Op.move (Operand.tmp 102), type := 4, pos := "outright.go:37", after := #[{ on := 15, ground := Ground.data }, { on := 12, ground := Ground.chain }, { on := 12, ground := Ground.guard }], guard := some (12, false) }) (by kernel_rfl) (by kernel_rfl) (by kernel_rfl) ?_
            go_wp2_with fail
            refine wpAnyH_take (i := 17) (oi := { dst := some 104, op := Op.move (Operand.tmp 18), type := 22, pos := "outright.go:37", after := #[{ on := 16, ground := Ground.guard }], guard := some (16, true) }) (v := undef) (by kernel_rfl) (by kernel_rfl) (by kernel_rfl) (by kernel_rfl) (fun _ _ _ h => h) (.inr ⟨by kernel_rfl, rfl⟩) c8 ?_
            refine wpAnyH_take (i := 20) (oi := { dst := some 107, op := Op.move (Operand.tmp 14), type := 22, pos := "outright.go:37", after := #[{ on := 16, ground := Ground.guard }], guard := some (16, true) }) (v := undef) (by kernel_rfl) (by kernel_rfl) (by kernel_rfl) (by kernel_rfl) (fun _ _ _ h => h) (.inr ⟨by kernel_rfl, rfl⟩) c8 ?_
            refine wpAnyH_take (i := 21) (oi := { dst := some 108, op := Op.move (Operand.tmp 15), type := 3, pos := "outright.go:37", after := #[{ on := 16, ground := Ground.guard }], guard := some (16, true) }) (v := undef) (by kernel_rfl) (by kernel_rfl) (by kernel_rfl) (by kernel_rfl) (fun _ _ _ h => h) (.inr ⟨by kernel_rfl, rfl⟩) c8 ?_
            refine wpAnyH_take (i := 18) (oi := { dst := some 105, op := Op.indexAddr 22 (Operand.tmp 104) (Operand.const (Value.int IntKind.i64 0)), type := 0, pos := "outright.go:37", after := #[{ on := 17, ground := Ground.data }, { on := 16, ground := Ground.guard }], guard := some (16, true) }) (v := undef) (by kernel_rfl) (by kernel_rfl) (by kernel_rfl) (by kernel_rfl) (fun _ _ _ h => h) (.inr ⟨by kernel_rfl, rfl⟩) c8 ?_
            refine wpAnyH_take (i := 22) (oi := { dst := some 109, op := Op.indexAddr 22 (Operand.tmp 107) (Operand.tmp 108), type := 0, pos := "outright.go:37", after := #[{ on := 20, ground := Ground.data }, { on := 21, ground := Ground.data }, { on := 16, ground := Ground.guard }], guard := some (16, true) }) (v := undef) (by kernel_rfl) (by kernel_rfl) (by kernel_rfl) (by kernel_rfl) (fun _ _ _ h => h) (.inr ⟨by kernel_rfl, rfl⟩) c8 ?_
            refine wpAnyH_take (i := 19) (oi := { dst := some 106, op := Op.load 3 (Operand.tmp 105), type := 3, pos := "outright.go:37", after := #[{ on := 18, ground := Ground.data }, { on := 16, ground := Ground.guard }], guard := some (16, true) }) (v := undef) (by kernel_rfl) (by kernel_rfl) (by kernel_rfl) (by kernel_rfl) (fun _ _ _ h => h) (.inr ⟨by kernel_rfl, rfl⟩) c8 ?_
            refine wpAnyH_take (i := 23) (oi := { dst := some 110, op := Op.load 3 (Operand.tmp 109), type := 3, pos := "outright.go:37", after := #[{ on := 22, ground := Ground.data }, { on := 16, ground := Ground.guard }], guard := some (16, true) }) (v := undef) (by kernel_rfl) (by kernel_rfl) (by kernel_rfl) (by kernel_rfl) (fun _ _ _ h => h) (.inr ⟨by kernel_rfl, rfl⟩) c8 ?_
            refine wpAnyH_take (i := 24) (oi := { dst := some 111, op := Op.binOp BinOp.neq 3 (Operand.tmp 106) (Operand.tmp 110) 3, type := 4, pos := "outright.go:37", after := #[{ on := 19, ground := Ground.data }, { on := 23, ground := Ground.data }, { on := 16, ground := Ground.guard }], guard := some (16, true) }) (v := undef) (by kernel_rfl) (by kernel_rfl) (by kernel_rfl) (by kernel_rfl) (fun _ _ _ h => h) (.inr ⟨by kernel_rfl, rfl⟩) c8 ?_
            refine wpAnyH_one (i := 25) (o := { dst := some 112, op := Op.pick (Operand.tmp 103) (Operand.tmp 111) (Operand.const (Value.bool false)), type := 4, pos := "outright.go:37", after := #[{ on := 16, ground := Ground.data }, { on := 24, ground := Ground.data }, { on := 12, ground := Ground.guard }], guard := some (12, false) }) (by kernel_rfl) (by kernel_rfl) (by kernel_rfl) ?_
            go_wp2_with fail
            refine wpAnyH_one (i := 26) (o := { dst := some 113, op := Op.pick (Operand.tmp 99) (Operand.const (Value.bool true)) (Operand.tmp 112), type := 4, pos := "outright.go:37", after := #[{ on := 12, ground := Ground.data }, { on := 25, ground := Ground.data }], guard := none }) (by kernel_rfl) (by kernel_rfl) (by kernel_rfl) ?_
            go_wp2_with fail
            refine wpAnyH_one (i := 27) (o := { dst := some 114, op := Op.move (Operand.tmp 113), type := 4, pos := "outright.go:37", after := #[{ on := 26, ground := Ground.data }, { on := 16, ground := Ground.chain }], guard := none }) (by kernel_rfl) (by kernel_rfl) (by kernel_rfl) ?_
            go_wp2_with fail
            refine wpAnyH_take (i := 28) (oi := { dst := some 115, op := Op.move (Operand.tmp 11), type := 24, pos := "outright.go:37", after := #[{ on := 27, ground := Ground.guard }], guard := some (27, false) }) (v := ptrA B) (by kernel_rfl) (by kernel_rfl) (by kernel_rfl) (by kernel_rfl) (fun _ _ _ h => h) (.inl ⟨by kernel_rfl, fun w hw => by kernel_rfl⟩) c8 ?_
            refine wpAnyH_take (i := 29) (oi := { dst := some 116, op := Op.move (Operand.tmp 14), type := 22, pos := "outright.go:37", after := #[{ on := 27, ground := Ground.guard }], guard := some (27, false) }) (v := .slice (some ⟨r, off, none⟩) n cap) (by kernel_rfl) (by kernel_rfl) (by kernel_rfl) (by kernel_rfl) (fun _ _ _ h => h) (.inl ⟨by kernel_rfl, fun w hw => by kernel_rfl⟩) c8 ?_
            refine wpAnyH_take (i := 30) (oi := { dst := some 117, op := Op.move (Operand.tmp 15), type := 3, pos := "outright.go:37", after := #[{ on := 27, ground := Ground.guard }], guard := some (27, false) }) (v := .int .i64 c) (by kernel_rfl) (by kernel_rfl) (by kernel_rfl) (by kernel_rfl) (fun _ _ _ h => h) (.inl ⟨by kernel_rfl, fun w hw => by kernel_rfl⟩) c8 ?_
            refine wpAnyH_take (i := 35) (oi := { dst := some 122, op := Op.move (Operand.tmp 19), type := 3, pos := "outright.go:37", after := #[{ on := 27, ground := Ground.guard }], guard := some (27, false) }) (v := .int .i64 q) (by kernel_rfl) (by kernel_rfl) (by kernel_rfl) (by kernel_rfl) (fun _ _ _ h => h) (.inl ⟨by kernel_rfl, fun w hw => by kernel_rfl⟩) c8 ?_
            refine wpAnyH_take (i := 36) (oi := { dst := some 123, op := Op.move (Operand.tmp 16), type := 3, pos := "outright.go:37", after := #[{ on := 27, ground := Ground.guard }], guard := some (27, false) }) (v := .int .i64 q) (by kernel_rfl) (by kernel_rfl) (by kernel_rfl) (by kernel_rfl) (fun _ _ _ h => h) (.inl ⟨by kernel_rfl, fun w hw => by kernel_rfl⟩) c8 ?_
            refine wpAnyH_take (i := 37) (oi := { dst := some 124, op := Op.binOp BinOp.eql 3 (Operand.tmp 122) (Operand.tmp 123) 3, type := 4, pos := "outright.go:37", after := #[{ on := 35, ground := Ground.data }, { on := 36, ground := Ground.data }, { on := 27, ground := Ground.guard }], guard := some (27, false) }) (v := .bool true) (by kernel_rfl) (by kernel_rfl) (by kernel_rfl) (by kernel_rfl) (fun _ _ _ h => h) (.inl ⟨by kernel_rfl, fun w hw => by go_simp⟩) c8 ?_
            refine wpAnyH_one (i := 31) (o := { dst := some 118, op := Op.indexAddr 22 (Operand.tmp 116) (Operand.tmp 117), type := 0, pos := "outright.go:37", after := #[{ on := 29, ground := Ground.data }, { on := 30, ground := Ground.data }, { on := 27, ground := Ground.guard }], guard := some (27, false) }) (by kernel_rfl) (by kernel_rfl) (by kernel_rfl) ?_
            go_wp2_with fail
            refine wpAnyH_one (i := 32) (o := { dst := some 119, op := Op.load 3 (Operand.tmp 118), type := 3, pos := "outright.go:37", after := #[{ on := 31, ground := Ground.data }, { on := 27, ground := Ground.guard }], guard := some (27, false) }) (by kernel_rfl) (by kernel_rfl) (by kernel_rfl) ?_
            go_wp2_with fail
            refine wpAnyH_one (i := 33) (o := { dst := some 120, op := Op.call { callee := Callee.value (Operand.func 18), args := #[Operand.tmp 115, Operand.tmp 119], argTypes := #[24, 3] }, type := 3, pos := "outright.go:37", after := #[{ on := 28, ground := Ground.data }, { on := 32, ground := Ground.data }, { on := 27, ground := Ground.chain }, { on := 27, ground := Ground.guard }], guard := some (27, false) }) (by kernel_rfl) (by kernel_rfl) (by kernel_rfl) ?_
            go_wp2_with fail
            refine (A9.State_any (HL7.out.1.ar.below (Below.refl _ _).drew) x).mono ?_
            rintro e w8 ⟨rfl, rfl⟩
            rw [HL6.out.2.2.2]
            go_wp2_with fail
            refine wpAnyH_one (i := 34) (o := { dst := some 121, op := Op.binOp BinOp.eql 3 (Operand.tmp 120) (Operand.const (Value.int IntKind.i64 0)) 3, type := 4, pos := "outright.go:37", after := #[{ on := 33, ground := Ground.data }, { on := 27, ground := Ground.guard }], guard := some (27, false) }) (by kernel_rfl) (by kernel_rfl) (by kernel_rfl) ?_
            go_wp2_with fail
            refine wpAnyH_one (i := 38) (o := { dst := some 125, op := Op.binOp BinOp.neq 4 (Operand.tmp 121) (Operand.tmp 124) 4, type := 4, pos := "outright.go:37", after := #[{ on := 34, ground := Ground.data }, { on := 37, ground := Ground.data }, { on := 27, ground := Ground.guard }], guard := some (27, false) }) (by kernel_rfl) (by kernel_rfl) (by kernel_rfl) ?_
            go_wp2_with fail
            refine wpAnyH_one (i := 39) (o := { dst := some 126, op := Op.pick (Operand.tmp 114) (Operand.const (Value.bool true)) (Operand.tmp 125), type := 4, pos := "outright.go:37", after := #[{ on := 27, ground := Ground.data }, { on := 38, ground := Ground.data }], guard := none }) (by kernel_rfl) (by kernel_rfl) (by kernel_rfl) ?_
            go_wp2_with fail
            refine wpAnyH_done (by kernel_rfl) ?_ _
            clear c8 hcI hcI2
            have HE : Hid (TwR B w p k X b2 b3 n q (.slice (some ⟨r, off, none⟩) n cap) l x (q + 1) (.slice a7 0 cap7) w7.drew) := ⟨s6, [], HL7.out.1.below (Below.refl _ _).drew, HL7.out.2.arena (.of_below (Below.refl _ _).drew), HL6.out.2.1.wide (by omega) (by omega), by simp, fun h => absurd h (by omega), fun _ => rfl, fun j hj => by rw [HL6.out.2.2.1 j hj, wf_no]; exact (if_neg (by omega)).symm⟩
            go_wp2_with fail
            go_roundw
            case rel => exact ⟨q + 1, by omega, by go_num, HE.out⟩
            case measure => simp [intOf]; have := HK.out; omega
        · have hqI : ¬ (q : Int) ≤ (i : Int) := by omega
          obtain rfl : l' = [] := hno (by omega)
          obtain ⟨lsE, hWE, -⟩ := hTs.W
          obtain ⟨e1, e2⟩ := hWE.counts
          have kF := A9.Fault_any hL.ar
          rw [hTs.bad] at kF
          have kC := A9.Count_any hL.ar
          unfold A9.cntV at kC
          rw [hTs.cC, e1, e2, show wrap64 (wrap64 (8 * (n : Int) - 0) - 0) = 8 * (n : Int) by rw [A9.wr64_id (x := 8 * (n : Int) - 0) (by have := HK.out; omega) (by have := HK.out; omega), A9.wr64_id (by have := HK.out; omega) (by have := HK.out; omega)]; omega] at kC
          have HL : Hid (Below w.heap.size w wz) := hL.low
          have hn10 : n ≤ 10 := HK.out.2.2.2.1
          clear hL hTs hN hnd hxi hno hw hWE e1 e2
          have fl := fun a b d wx => fldF3 a b d (8 * (n : Int)) wx
          go_wp2_with fail
          refine kF.mono ?_
          rintro e w8 ⟨rfl, rfl⟩
          go_wp2_with fail
          refine kC.mono ?_
          rintro e w9 ⟨rfl, hb9⟩
          have HB9 : Hid (Below w.heap.size w w9) := below_then HL.out hb9
          clear hb9 kC kF
          go_wp2_with fail
          refine (ka _ (HT.out.below HB9.out)).mono ?_
          rintro e w10 ⟨rfl, hb10⟩
          go_wp2_with fail
          go_ret
          exact ⟨rfl, below_then HB9.out hb10⟩
end Go.Proofs.YtopnkfbcphbbiaaDoor
