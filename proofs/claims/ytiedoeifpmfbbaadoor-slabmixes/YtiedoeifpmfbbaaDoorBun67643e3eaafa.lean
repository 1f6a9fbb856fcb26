/-
  Helpers: Sn, Sq, Ss.
-/
import Derived.Test.YtiedoeifpmfbbaaDoorBun718f5cfabb7f
import Derived.Test.YtiedoeifpmfbbaaDoorBun4ac1e00f6fd9
import Derived.Deep.CutBlock
import Derived.Deep.DeepCutAuto
import Derived.Deep.Grids
namespace Go.Proofs.YtiedoeifpmfbbaaDoor
open Go.RowKit
open H8 (okP sizeF HTab below_then packV packF isH opA opB opC placeI placeI_bd place_any)
open A9 (Ab ArAt ArMem FrA Ar rawA useA ptrA Ok9 okB bornS retireS retireA diedA diedS inS zN bN Left9 New9 new9 NAt)
open F0 (Pl5 FrS noT noT_new plBox plS plS_of below_next Wk Raw_at tab_new plF)

def grs (m : Nat) : Nat := (m + 7) / 8
def plK (a m : Nat) : Pl5 := ⟨(a : Int), 0, ((4 * a : Nat) : Int), ((4 * a + grs m : Nat) : Int), ((4 * a + grs m + grs m : Nat) : Int)⟩
theorem plK_wk (a m : Nat) : (plK a m).wk = (a : Int) := rfl
theorem plK_ok {a m : Nat} (h1 : 1 ≤ a) (h2 : a ≤ 100) : PlS (4 * a) (grs m) (plK a m) :=
  ⟨by show 4 * (a : Int) = ((4 * a : Nat) : Int); omega, rfl, rfl, by show ((4 * a + grs m : Nat) : Int) = ((4 * a : Nat) : Int) + (grs m : Int); omega, rfl, by omega, by omega⟩
theorem Raw_k {a m : Nat} (h1 : 1 ≤ a) (h2 : a ≤ 100) (h3 : m ≤ 4000) (w : World) : Calls Tryd.prog 8 #[.int .i64 (a : Int), .int .i64 (m : Int)] w fun e w' => e = .returned (.tuple #[(plK a m).v, .int .i64 ((4 * a + grs m + grs m + 1 : Nat) : Int)]) ∧ Below w.heap.size w w' := by
  have he : plF (a : Int) (m : Int) = plK a m := by
    unfold plF plK grs
    rw [show max (a : Int) 0 = (a : Int) by omega, show max (m : Int) 0 = (m : Int) by omega]
    congr 1 <;> omega
  exact Raw_at (plK a m) _ he (by show ((4 * a + grs m + grs m : Nat) : Int) + 1 = _; omega) (by omega) (by omega) w
structure Bg (a m : Nat) (s : Ar) : Prop where
  on : On1 (4 * a) (grs m) s (fun _ => 0) 0 (fun _ => none) (fun _ => []) [] 0
  nw : s.nw = m
  bad : s.bad = false
  us : s.uses = 0
  was : ∀ x, s.was x = false
theorem cut_id {n : Nat} (h : n ≤ 65536) : (A9.cutF (n : Int)).toNat = n := by
  unfold A9.cutF
  omega
theorem new9_nw (r n : Int) (f : Bool) : (new9 r n f).nw = (A9.cutF n).toNat := rfl
theorem new9_nr (r n : Int) (f : Bool) : (new9 r n f).nr = (A9.cutF r).toNat := rfl
theorem Bg.new {a m : Nat} (h2 : a ≤ 100) (h3 : m ≤ 4000) : Bg a m (new9 ((4 * a + grs m + grs m + 1 : Nat) : Int) (m : Int) false) := by
  have hg : grs m ≤ 501 := by unfold grs; omega
  have hr : (new9 ((4 * a + grs m + grs m + 1 : Nat) : Int) (m : Int) false).nr = 4 * a + grs m + grs m + 1 := by
    rw [new9_nr]
    exact cut_id (by omega)
  have hn : (new9 ((4 * a + grs m + grs m + 1 : Nat) : Int) (m : Int) false).nw = m := by
    rw [new9_nw]
    exact cut_id (by omega)
  exact ⟨On1.new _ _ (by rw [hr]; omega) (by omega) (by rw [hn]; unfold grs; omega) (by omega) (by omega), hn, rfl, rfl, fun _ => rfl⟩
/-- all of a class's size -/
theorem sizeF_pos {c : Nat} (h : c < 4) : sizeF (c : Int) ≠ 0 := by
  rw [size_zg h]
  have := zg_bd h
  omega
theorem zN_nm {b c : Nat} {g : Int} (ok : okP (8 * (b : Int)) g c) : zN (nmV b g c) = 8 * zg c := by rw [zN_zg, nm_cl ok]
end Go.Proofs.YtiedoeifpmfbbaaDoor
namespace Go.Proofs.YtiedoeifpmfbbaaDoor
open Go.RowKit
open H8 (okP sizeF HTab below_then packV packF isH opA opB opC placeI placeI_bd place_any)
open A9 (Ab ArAt ArMem FrA Ar rawA useA ptrA Ok9 okB bornS retireS retireA diedA diedS inS zN bN Left9 New9 new9 NAt cntV cntW retire_of)
open F0 (Pl5 FrS noT noT_new plBox plS plS_of below_next Wk tab_new upH upH_same upLs upLs_same upLs_other usedA List_any ListPost LsW basesF basesF_len headF headF_eq)

theorem itL_at {w c : Nat} (hc : c < 4) : ∀ (l a : Nat), a < w → itL (4 * w) (4 * a + c) l = 4 * ((a + l) % w) + c
  | 0, a, ha => by
    show 4 * a + c = _
    rw [Nat.add_zero, Nat.mod_eq_of_lt ha]
  | l + 1, a, ha => by
    show itL (4 * w) ((4 * a + c + 4) % (4 * w)) l = _
    rw [next_list ha hc, itL_at hc l _ (Nat.mod_lt _ (by omega)), Nat.mod_add_mod, show a + 1 + l = a + (l + 1) by omega]
theorem itL_all {w c a b : Nat} (hc : c < 4) (ha : a < w) (hb : b < w) : ∃ l, l ≤ w - 1 ∧ itL (4 * w) (4 * a + c) l = 4 * b + c := by
  by_cases h : a ≤ b
  · refine ⟨b - a, by omega, ?_⟩
    rw [itL_at hc _ _ ha, show a + (b - a) = b by omega, Nat.mod_eq_of_lt hb]
  · refine ⟨b + w - a, by omega, ?_⟩
    rw [itL_at hc _ _ ha, show a + (b + w - a) = b + w by omega, Nat.add_mod_right, Nat.mod_eq_of_lt hb]
/-- a list's bases, in memory -/
def ListO (B : Ab) (W : World) (g : Nat) (p : Pl5) (w : World) (s : Ar) (l : List Nat) (e : Ending) (w' : World) : Prop := ∃ a cap u, e = .returned (.slice a l.length cap) ∧ LsW B w w' (usedA s u) (.slice a l.length cap) (basesF l) ∧ Wk B W w' (usedA s u) g p
theorem listO {B : Ab} {W w : World} {s : Ar} {g : Nat} {p : Pl5} {K M T : Nat} {gn : Nat → Int} {cg : Nat} {cl : Nat → Option Nat} {ls : Nat → List Nat} {hs : List Int} (hW : Wk B W w s g p) (hp : PlS K M p) (hO : On1 K M s gn cg cl ls hs T) (hM : M ≤ 9000) {k c : Nat} (hk : 4 * k + c < K) (hc : c < 4) :
    Calls Tryd.prog 14 #[ptrA B, p.v, .int .i64 (k : Int), .int .i64 (c : Int)] w (ListO B W g p w s (ls (4 * k + c))) := by
  obtain ⟨hd, lk, hR, hL⟩ := hO.lists
  have hm := hp.most
  refine (List_any (k := 4 * k + c) hW.ar hR hp.k hk (by rw [headF_eq hp.k (by omega) (by omega) (by omega) (by omega)]; omega) (hL _ hk) hM).mono fun e w' hh => ?_
  obtain ⟨v, u, e1, hl⟩ := hh
  obtain ⟨a, cap, hv⟩ := A9.own_any hl.row
  rw [basesF_len] at hv
  subst hv
  exact ⟨a, cap, u, e1, hl, hW.arena hl.ar hl.fr⟩
/-- at a round's head: i - 1 rounds are done -/
def AgR (B : Ab) (W : World) (g n who c i : Nat) (w : World) : Prop := ∃ s gn cg cl ls T, Wk B W w s g (plK n 64) ∧ On1 (4 * n) 8 s gn cg cl ls [] T ∧ gn 0 + 1 = (i : Int) ∧ (∀ j, j ≠ 4 * who + c → ls j = []) ∧ ((i = 1 ∧ cg = 0 ∧ ls (4 * who + c) = []) ∨ (1 < i ∧ cg = zg c ∧ ls (4 * who + c) = [0])) ∧ s.bad = false ∧ T ≤ 3 * i ∧ s.nw = 64
/-- one is this actor's -/
def AgM (B : Ab) (W : World) (g n c i : Nat) (w : World) : Prop := okP (8 * ((0 : Nat) : Int)) (i : Int) c ∧ ∃ s gn cl ls T, Wk B W w s g (plK n 64) ∧ On1 (4 * n) 8 s gn (zg c) cl ls [nmV 0 i c] T ∧ gn 0 = (i : Int) ∧ (∀ j, ls j = []) ∧ s.bad = false ∧ T ≤ 3 * i + 2 ∧ s.nw = 64
/-- .. retired -/
def AgT (B : Ab) (W : World) (g n c i : Nat) (w : World) : Prop := okP (8 * ((0 : Nat) : Int)) (i : Int) c ∧ ∃ s gn cl ls T, Wk B W w (retireS s (nmV 0 i c)) g (plK n 64) ∧ On1 (4 * n) 8 s gn (zg c) cl ls [nmV 0 i c] T ∧ gn 0 = (i : Int) ∧ (∀ j, ls j = []) ∧ s.bad = false ∧ T ≤ 3 * i + 2 ∧ s.nw = 64 ∧ Ok9 s
section
variable {B : Ab} {W w w' : World} {g n who c i : Nat}
theorem AgR.begin {s : Ar} (hW : Wk B W w s g (plK n 64)) (hB : Bg n 64 s) : AgR B W g n who c 1 w :=
  ⟨s, _, 0, _, _, 0, hW, hB.on, rfl, fun _ _ => rfl, .inl ⟨rfl, rfl, rfl⟩, hB.bad, by omega, hB.nw⟩
theorem AgR.below (h : AgR B W g n who c i w) (hb : Below w.heap.size w w') : AgR B W g n who c i w' := by obtain ⟨s, gn, cg, cl, ls, T, h1, h2⟩ := h; exact ⟨s, gn, cg, cl, ls, T, h1.below hb, h2⟩
theorem AgR.drew (h : AgR B W g n who c i w) : AgR B W g n who c i w.drew := h.below (Below.refl _ _).drew
theorem AgR.low (h : AgR B W g n who c i w) : Below W.heap.size W w := by obtain ⟨s, gn, cg, cl, ls, T, h1, -⟩ := h; exact h1.low
theorem AgR.tab (h : AgR B W g n who c i w) : HTab w := by obtain ⟨s, gn, cg, cl, ls, T, h1, -⟩ := h; exact h1.ar.tab
theorem AgR.pl (h : AgR B W g n who c i w) : plS g (plK n 64) w := by obtain ⟨s, gn, cg, cl, ls, T, h1, -⟩ := h; exact h1.pl
theorem AgM.below (h : AgM B W g n c i w) (hb : Below w.heap.size w w') : AgM B W g n c i w' := by obtain ⟨ok, s, gn, cl, ls, T, h1, h2⟩ := h; exact ⟨ok, s, gn, cl, ls, T, h1.below hb, h2⟩
theorem AgM.tab (h : AgM B W g n c i w) : HTab w := by obtain ⟨ok, s, gn, cl, ls, T, h1, h2⟩ := h; exact h1.ar.tab
theorem AgM.pl (h : AgM B W g n c i w) : plS g (plK n 64) w := by obtain ⟨ok, s, gn, cl, ls, T, h1, h2⟩ := h; exact h1.pl
theorem AgT.pl (h : AgT B W g n c i w) : plS g (plK n 64) w := by obtain ⟨ok, s, gn, cl, ls, T, h1, h2⟩ := h; exact h1.pl
theorem ag_new {a : Nat} (h : AgR B W g n who c i w) (hn : 1 ≤ n) (hn2 : n ≤ 100) (ha : a < n) (hwho : who < n) (hc : c < 4) (hi : i ≤ 100) :
    Calls Tryd.prog 15 #[(plK n 64).v, .int .i64 (a : Int), .int .i64 (c : Int)] w fun e w' => ∃ q, e = .returned (.pointer (some ⟨q, 0, none⟩)) ∧ plS g (plK n 64) w' ∧ Calls Tryd.prog 11 #[ptrA B, ifAl q] w' fun e w2 => e = .returned (.bool true) ∧ AlEnd q w2 (plK n 64) (nmV 0 i c) ∧ AgM B W g n c i w2 := by
  obtain ⟨s, gn, cg, cl, ls, T, hW, hO, hgn, hoth, hmine, hbad, hT, hnw⟩ := h
  have hp := plK_ok (a := n) (m := 64) hn hn2
  have hz := zg_bd hc
  refine (newAlW hW (by rw [plK_wk]; omega) (by rw [plK_wk]; omega) (sizeF_pos hc)).mono fun e w1 hh => ?_
  obtain ⟨q, e1, hN⟩ := hh
  refine ⟨q, e1, hN.wk.pl, (runAlW hN hW hp hO (by omega) (by omega) hc).mono fun e w2 hh => ?_⟩
  obtain ⟨e2, s', o, hP⟩ := hh
  have hwk := hP.wk
  have hR := hP.R
  have hen := hP.en
  have hbd := hP.bad
  obtain ⟨l0, hl0, hat⟩ := itL_all hc ha hwho
  rw [show 4 * n / 4 - 1 = n - 1 by omega] at hR
  refine ⟨e2, ?_⟩
  cases hR with
  | old j b r hj he hl hb ok h6 hn' =>
    have hjj : itL (4 * n) (4 * a + c) j = 4 * who + c := by
      by_cases e : itL (4 * n) (4 * a + c) j = 4 * who + c
      · exact e
      · rw [hoth _ e] at hl
        cases hl
    rw [hjj] at hl h6
    rcases hmine with ⟨-, -, x⟩ | ⟨x1, x2, x3⟩
    · rw [x] at hl
      cases hl
    · rw [x3] at hl
      cases hl
      rw [hgn] at ok h6 hen
      subst x2
      refine ⟨hen, ok, s', _, cl, _, _, hwk, h6, upH_same _ _ _, fun j => ?_, hbd.trans hbad, by omega, hn'.trans hnw⟩
      by_cases e : j = 4 * who + c
      · subst e; exact upLs_same _ _ _
      · rw [upLs_other _ _ e]; exact hoth j e
  | new he hf ok h6 hn' =>
    rcases hmine with ⟨x1, x2, x3⟩ | ⟨x1, x2, x3⟩
    · subst x2
      rw [hgn] at ok h6 hen
      rw [Nat.zero_add] at h6
      refine ⟨hen, ok, s', _, _, ls, _, hwk, h6, upH_same _ _ _, fun j => ?_, hbd.trans hbad, by omega, hn'.trans hnw⟩
      by_cases e : j = 4 * who + c
      · subst e; exact x3
      · exact hoth j e
    · have := he l0 hl0
      rw [hat, x3] at this
      cases this
  | none he hf h6 hn' =>
    rcases hmine with ⟨x1, x2, x3⟩ | ⟨x1, x2, x3⟩
    · rw [hnw] at hf
      omega
    · have := he l0 hl0
      rw [hat, x3] at this
      cases this
theorem ag_retire (h : AgM B W g n c i w) : Calls Tryd.prog 10 #[ptrA B, .int .i64 (nmV 0 i c)] w fun e w' => e = .returned (.bool true) ∧ AgT B W g n c i w' := by
  obtain ⟨ok, s, gn, cl, ls, T, hW, hO, h2⟩ := h
  have hl := hO.live (a := nmV 0 i c) (by simp)
  have hk := A9.Retire_any hW.ar (nmV 0 i c)
  rw [retire_of hl] at hk
  refine hk.mono fun e w' hh => ?_
  obtain ⟨e1, hA, hF⟩ := hh
  obtain ⟨a1, a2, a3, a4, a5⟩ := h2
  exact ⟨e1, ok, s, gn, cl, ls, T, hW.arena hA hF, hO, a1, a2, a3, a4, a5, hW.ar.ok⟩
theorem ag_free (h : AgT B W g n c i w) (hn : 1 ≤ n) (hn2 : n ≤ 100) (hwho : who < n) (hi : 1 ≤ i) (hi2 : i ≤ 100) :
    Calls Tryd.prog 12 #[(plK n 64).v, .int .i64 (who : Int), .int .i64 (nmV 0 i c)] w fun e w' => ∃ q, e = .returned (.pointer (some ⟨q, 0, none⟩)) ∧ Calls Tryd.prog 11 #[ptrA B, ifFe q] w' fun e w2 => e = .returned (.bool true) ∧ AgR B W g n who c (i + 1) w2 := by
  obtain ⟨ok, s, gn, cl, ls, T, hW, hO, hgn, hoth, hbad, hT, hnw, hok⟩ := h
  have hp := plK_ok (a := n) (m := 64) hn hn2
  have hc : c < 4 := by have := ok.2.2.2.2.2; omega
  have hgr : grN (nmV 0 i c) = 0 := nm_gr ok
  have hcl : clN (nmV 0 i c) = c := nm_cl ok
  refine (newFeW (a := nmV 0 i c) hW (nm_is ok) (by rw [hgr, nm_b ok])).mono fun e w1 hh => ?_
  obtain ⟨q, e1, hN⟩ := hh
  refine ⟨q, e1, (runFeW (l1 := []) (l2 := []) hN hW hp hO (by omega) rfl (by rw [hcl]; omega)).mono fun e w2 hh => ?_⟩
  obtain ⟨e2, s', hP⟩ := hh
  have hon := hP.on
  rw [hcl, hgr, hoth] at hon
  refine ⟨e2, s', gn, zg c, cl, _, _, hP.wk, hon, by rw [hgn]; omega, fun j hj => by rw [upLs_other _ _ hj]; exact hoth j, .inr ⟨by omega, rfl, upLs_same _ _ _⟩, hP.bad.trans hbad, by omega, hP.nw.trans hnw⟩
end
end Go.Proofs.YtiedoeifpmfbbaaDoor
namespace Go.Proofs.YtiedoeifpmfbbaaDoor
open Go.RowKit
open H8 (okP sizeF HTab below_then packV packF isH opA opB opC placeI placeI_bd place_any)
open A9 (Ab ArAt ArMem FrA Ar rawA useA ptrA Ok9 okB bornS retireS retireA diedA diedS inS zN bN Left9 New9 new9 NAt cntV cntW retire_of)
open F0 (Pl5 FrS noT noT_new plBox plS plS_of below_next Wk tab_new upH upH_same upLs upLs_same upLs_other usedA List_any ListPost LsW basesF basesF_len headF headF_eq)

/-- what the end looks at -/
def AgE (B : Ab) (W : World) (g n who c : Nat) (s : Ar) (w : World) : Prop := Wk B W w s g (plK n 64) ∧ (∃ gn cl ls T, On1 (4 * n) 8 s gn (zg c) cl ls [] T ∧ ls (4 * who + c) = [0]) ∧ s.bad = false
theorem AgR.ends {B : Ab} {W w : World} {g n who c i : Nat} (h : AgR B W g n who c i w) (hi : 1 < i) : ∃ s, AgE B W g n who c s w := by
  obtain ⟨s, gn, cg, cl, ls, T, h1, h2, h3, h4, h5, h6, h7⟩ := h
  rcases h5 with ⟨x, -, -⟩ | ⟨-, rfl, x⟩
  · omega
  · exact ⟨s, h1, ⟨gn, cl, ls, T, h2, x⟩, h6⟩
set_option maxHeartbeats 8000000 in
set_option maxRecDepth 4000 in
theorem again_walk (a0 a1 a2 a3 a4 : Int) (w : World) (hT : HTab w) : Calls Tryd.prog 5 #[.int .i64 a0, .int .i64 a1, .int .i64 a2, .int .i64 a3, .int .i64 a4] w fun e w' => e = .returned (.bool true) ∧ Below w.heap.size w w' := by
  have P0 := fun wx => place_any a0 4 wx (by omega) (by omega)
  have P3 := fun wx => place_any a3 4 wx (by omega) (by omega)
  have P4 := fun wx => place_any a4 10 wx (by omega) (by omega)
  obtain ⟨y, hy, hy4⟩ : ∃ y : Nat, placeI a0 4 = y ∧ y < 4 := ⟨(placeI a0 4).toNat, by have := placeI_bd a0 4 (by omega); omega, by have := placeI_bd a0 4 (by omega); omega⟩
  obtain ⟨c, hc, hc4⟩ : ∃ c : Nat, placeI a3 4 = c ∧ c < 4 := ⟨(placeI a3 4).toNat, by have := placeI_bd a3 4 (by omega); omega, by have := placeI_bd a3 4 (by omega); omega⟩
  obtain ⟨tm, htm, htm4⟩ : ∃ t : Nat, placeI a4 10 = t ∧ t < 10 := ⟨(placeI a4 10).toNat, by have := placeI_bd a4 10 (by omega); omega, by have := placeI_bd a4 10 (by omega); omega⟩
  obtain ⟨n, hn⟩ : ∃ n, n = 2 + y := ⟨_, rfl⟩
  have hnI : (2 : Int) + (y : Int) = (n : Int) := by omega
  have hnW : wrap64 (n : Int) = (n : Int) := A9.wr64_id (by omega) (by omega)
  have P1 := fun wx => place_any a1 (n : Int) wx (by omega) (by omega)
  have P2 := fun wx => place_any a2 (n : Int) wx (by omega) (by omega)
  obtain ⟨who, hwho, hwn⟩ : ∃ k : Nat, placeI a1 (n : Int) = k ∧ k < n := ⟨(placeI a1 (n : Int)).toNat, by have := placeI_bd a1 (n : Int) (by omega); omega, by have := placeI_bd a1 (n : Int) (by omega); omega⟩
  obtain ⟨tg, htg, htn⟩ : ∃ k : Nat, placeI a2 (n : Int) = k ∧ k < n := ⟨(placeI a2 (n : Int)).toNat, by have := placeI_bd a2 (n : Int) (by omega); omega, by have := placeI_bd a2 (n : Int) (by omega); omega⟩
  rw [hy] at P0
  rw [hc] at P3
  rw [htm] at P4
  rw [hwho] at P1
  rw [htg] at P2
  have HN : Hid (2 ≤ n ∧ n ≤ 5) := ⟨by omega, by omega⟩
  clear hy hc htm hwho htg
  have kR := fun wx => Raw_k (a := n) (m := 64) (by omega) (by omega) (by omega) wx
  have e64 : ((64 : Nat) : Int) = 64 := rfl
  have hB0 : Hid (Bg n 64 (new9 ((4 * n + grs 64 + grs 64 + 1 : Nat) : Int) ((64 : Nat) : Int) false)) := Bg.new (by omega) (by omega)
  rw [e64] at hB0
  simp only [e64] at kR
  have kN := fun wx (hx : HTab wx) => A9.New_any ((4 * n + grs 64 + grs 64 + 1 : Nat) : Int) 64 false wx hx
  have ka := fun wx (hx : HTab wx) => awake_any wx hx
  have ks := fun wx (hx : HTab wx) => (size_zg hc4) ▸ H8.Size_any (c : Int) wx hx
  have HT : Hid (HTab w) := hT
  generalize new9 ((4 * n + grs 64 + grs 64 + 1 : Nat) : Int) 64 false = s0 at *
  generalize ((4 * n + grs 64 + grs 64 + 1 : Nat) : Int) = n0 at *
  clear hT hn hy4 e64
  unfold Pl5.v at kR
  go_enter Tryd.func5, Tryd.ntmps5
  go_wp2_with fail
  refine (P0 _).mono ?_
  rintro e w ⟨rfl, rfl⟩
  go_wp2_with fail
  refine (P3 _).mono ?_
  rintro e w ⟨rfl, rfl⟩
  go_wp2_with fail
  refine (kR _).mono ?_
  rintro e w1 ⟨rfl, hb1⟩
  go_wp2_with fail
  refine (kN _ (tab_new HT.out hb1)).mono ?_
  rintro e w2 ⟨B, rfl, hA2, hb2, hlB⟩
  have hW2 : Wk B w w2 s0 w1.heap.size (plK n 64) := Wk.begin hb1 hA2 hb2 hlB
  clear hA2 hb2 hlB hb1 kR kN P0 P3
  generalize w1.heap.size = g at *
  have HR0 : Hid (AgR B w g n who c 1 w2) := AgR.begin hW2 hB0.out
  clear hW2 hB0
  go_wp2_with fail
  refine (P1 _).mono ?_
  rintro e w2 ⟨rfl, rfl⟩
  go_wp2_with fail
  go_loopw [17] (fun iv wr => ∃ i : Nat, 1 ≤ i ∧ i ≤ tm + 2 ∧ iv = .int .i64 i ∧ AgR B w g n who c i wr) (fun iv _ => 20 - (intOf iv).toNat)
  case atStart => exact ⟨1, by omega, by omega, rfl, HR0.out⟩
  case round =>
    obtain ⟨i, hi1, hi, rfl, hR⟩ := hrel
    clear HR0 P1
    obtain ⟨wq, rfl⟩ : ∃ W, W = wr := ⟨wr, rfl⟩
    by_cases hlt : i ≤ tm + 1
    · have hli : (i : Int) ≤ 1 + (tm : Int) := by omega
      obtain ⟨c0, c1, c2, c3, c4⟩ := hR.pl
      have HR : Hid (AgR B w g n who c i wq) := hR
      clear hR
      go_wp2_with fail
      refine (P4 _).mono ?_
      rintro e wq ⟨rfl, rfl⟩
      go_wp2_with fail
      obtain ⟨a, ha⟩ : ∃ a, a = (who + i * (1 + tg)) % n := ⟨_, rfl⟩
      have han : a < n := by rw [ha]; exact Nat.mod_lt _ (by have := HN.out; omega)
      have kA : ∀ wx, AgR B w g n who c i wx → ∀ n', n' = (a : Int) → Calls Tryd.prog 15 #[(plK n 64).v, .int .i64 n', .int .i64 (c : Int)] wx fun e w' => ∃ q, e = .returned (.pointer (some ⟨q, 0, none⟩)) ∧ plS g (plK n 64) w' ∧ Calls Tryd.prog 11 #[ptrA B, ifAl q] w' fun e w2 => e = .returned (.bool true) ∧ AlEnd q w2 (plK n 64) (nmV 0 i c) ∧ AgM B w g n c i w2 := fun wx hx n' hn' => by
        rw [hn']
        exact ag_new hx (by have := HN.out; omega) (by have := HN.out; omega) han hwn hc4 (by omega)
      unfold Pl5.v at kA
      have hn0 : ¬ (n : Int) = 0 := by have := HN.out; omega
      have hn0b : ((n : Int) == 0) = false := by have := HN.out; simp; omega
      have h1 : i * (1 + tg) ≤ 12 * 6 := Nat.mul_le_mul (by omega) (by have := HN.out; omega)
      have h2 : (i : Int) * (1 + (tg : Int)) = ((i * (1 + tg) : Nat) : Int) := by simp
      have hn0n : ¬ n = 0 := by have := HN.out; omega
      have hn0d : decide (n = 0) = false := by simp; omega
      have hn0e : (n == 0) = false := by simp; omega
      have HMOD3 : Hid (((who : Int) + (i : Int) * (1 + (tg : Int))) % (n : Int) = (a : Int)) := by
        show ((who : Int) + (i : Int) * (1 + (tg : Int))) % (n : Int) = (a : Int)
        rw [h2, show (who : Int) + ((i * (1 + tg) : Nat) : Int) = ((who + i * (1 + tg) : Nat) : Int) by omega, ha]
        exact (Int.natCast_emod _ _).symm
      have HMOD2 : Hid (((who : Int) + (i : Int) * (1 + (tg : Int))).tmod (n : Int) = (a : Int)) := by
        show ((who : Int) + (i : Int) * (1 + (tg : Int))).tmod (n : Int) = (a : Int)
        rw [Int.tmod_eq_emod_of_nonneg (by rw [h2]; omega)]
        exact HMOD3.out
      have hw1 : IntKind.i64.wrap (1 + (tg : Int)) = 1 + (tg : Int) := by rw [IntKind.wrap_i64]; have := HN.out; omega
      have hw2 : IntKind.i64.wrap ((i : Int) * (1 + (tg : Int))) = (i : Int) * (1 + (tg : Int)) := by rw [IntKind.wrap_i64, h2]; omega
      have hw3 : IntKind.i64.wrap ((who : Int) + (i : Int) * (1 + (tg : Int))) = (who : Int) + (i : Int) * (1 + (tg : Int)) := by rw [IntKind.wrap_i64, h2]; have := HN.out; omega
      have hw4 : IntKind.i64.wrap (((who : Int) + (i : Int) * (1 + (tg : Int))).tmod (n : Int)) = (a : Int) := by rw [HMOD2.out, IntKind.wrap_i64]; have := HN.out; omega
      clear h1 h2
      clear ha
      go_region_held3 (fun w' => w'.cell? ⟨g, 0, none⟩ = some (.int .i64 (plK n 64).wk) ∧ w'.cell? ⟨g, 1, none⟩ = some (.int .i64 (plK n 64).hd) ∧ w'.cell? ⟨g, 2, none⟩ = some (.int .i64 (plK n 64).ln) ∧ w'.cell? ⟨g, 3, none⟩ = some (.int .i64 (plK n 64).gn) ∧ w'.cell? ⟨g, 4, none⟩ = some (.int .i64 (plK n 64).cv)) (first | exact ⟨c0, c1, c2, c3, c4⟩ | exact hp3) (first
        | (go_at_call 7; refine (P2 _).mono ?_; rintro e w3 ⟨rfl, rfl⟩)
        | (go_at_call 15; refine (kA _ (by first | exact HR.out | exact HR.out.drew) _ (by first | rfl | exact HMOD2.out | exact HMOD3.out)).mono ?_; rintro e w3 ⟨q, rfl, hp3, kX⟩))
      all_goals
        clear c0 c1 c2 c3 c4 kA hw1 hw2 hw3 hw4 HMOD2 HMOD3 hp3 HR
        go_wp2_with fail
        refine kX.mono ?_
        rintro e w4 ⟨rfl, hen, hM4⟩
        have kH := handleW hen
        have hnb : (nmV 0 i c != 0) = true := by
          have := nm_ne hM4.1
          simpa using this
        rw [hnb] at kH
        have kO : ∀ wx, HTab wx → Calls Tryd.prog 17 #[.int .i64 (nmV 0 i c)] wx fun e w' => e = .returned (.tuple #[.int .i64 0, .int .i64 (i : Int), .int .i64 (c : Int), .bool true]) ∧ Below wx.heap.size wx w' := fun wx hx => Open_nm (b := 0) hM4.1 wx hx
        have kT := fun wx (hx : AgM B w g n c i wx) => ag_retire hx
        have kF := fun wx (hx : AgT B w g n c i wx) => ag_free (who := who) hx (by have := HN.out; omega) (by have := HN.out; omega) hwn hi1 (by omega)
        unfold Pl5.v at kF
        have HM4 : Hid (AgM B w g n c i w4) := hM4
        clear hen hM4 hnb kX
        generalize nmV 0 i c = h at *
        go_wp2_with fail
        refine kH.mono ?_
        rintro e w5 ⟨rfl, hb5⟩
        have HM5 : Hid (AgM B w g n c i w5) := HM4.out.below hb5
        have kO5 := kO _ HM5.out.tab
        clear hb5 kO kH HM4
        go_wp2_with fail
        refine kO5.mono ?_
        rintro e w6 ⟨rfl, hb6⟩
        have kT6 := kT _ (HM5.out.below hb6)
        clear hb6 kO5 HM5 kT
        go_wp2_with fail
        refine kT6.mono ?_
        rintro e w7 ⟨rfl, hT7⟩
        have kF7 := kF _ hT7
        obtain ⟨c0, c1, c2, c3, c4⟩ := hT7.pl
        clear kT6 hT7 kF
        go_wp2_with fail
        refine kF7.mono ?_
        rintro e w8 ⟨q2, rfl, kY⟩
        clear c0 c1 c2 c3 c4 kF7
        go_wp2_with fail
        refine kY.mono ?_
        rintro e w9 ⟨rfl, hR9⟩
        have HR9 : Hid (AgR B w g n who c (i + 1) w9) := hR9
        clear hR9 kY
        go_wp2_with fail
        go_roundw
        case rel => exact ⟨i + 1, by omega, by omega, by go_num, HR9.out⟩
        case measure => simp [intOf]; omega
    · have hli : ¬ (i : Int) ≤ 1 + (tm : Int) := by omega
      obtain ⟨s1, hW, ⟨gn, cl, ls, T, hO, hL⟩, hbad⟩ := hR.ends (by omega)
      have hp := plK_ok (a := n) (m := 64) (by have := HN.out; omega) (by have := HN.out; omega)
      have kC := A9.Raw_any hW.ar (plK n 64).cv
      rw [show rawA s1 (plK n 64).cv = (useA s1, 8 * (zg c : Int)) from hO.cv] at kC
      have HW : Hid (Wk B w wq s1 g (plK n 64) ∧ s1.bad = false) := ⟨hW, hbad⟩
      have ksz := ks _ hW.ar.tab
      obtain ⟨c0, c1, c2, c3, c4⟩ := hW.pl
      have HO : Hid (On1 (4 * n) 8 s1 gn (zg c) cl ls [] T ∧ ls (4 * who + c) = [0]) := ⟨hO, hL⟩
      have hg8 : grs 64 = 8 := rfl
      clear hR hW hO hL hbad P2
      go_wp2_with fail
      refine (P4 _).mono ?_
      rintro e wq ⟨rfl, rfl⟩
      go_wp2_with fail
      refine kC.mono ?_
      rintro e w4 ⟨rfl, hA4, hF4⟩
      have hW4 := HW.out.1.arena hA4 hF4
      have ks4 := ks _ hW4.ar.tab
      have kf4 := A9.Fault_any hW4.ar
      rw [show (useA s1).bad = false from HW.out.2] at kf4
      have HO4 : Hid (On1 (4 * n) 8 (useA s1) gn (zg c) cl ls [] T) := HO.out.1.used _
      have kL := listO hW4 hp HO4.out (by omega) (k := who) (c := c) (by omega) hc4
      rw [HO.out.2] at kL
      obtain ⟨d0, d1, d2, d3, d4⟩ := hW4.pl
      unfold Pl5.v at kL
      clear c0 c1 c2 c3 c4 hA4 hF4 hW4 kC ksz ks HW
      go_wp2_with fail
      refine ks4.mono ?_
      rintro e w5 ⟨rfl, rfl⟩
      go_wp2_with fail
      refine kf4.mono ?_
      rintro e w5 ⟨rfl, rfl⟩
      go_wp2_with fail
      refine kL.mono ?_
      rintro e w6 ⟨la, lc, u, rfl, -, hW6⟩
      have HW6 : Hid (Below w.heap.size w w6 ∧ HTab w6) := ⟨hW6.low, hW6.ar.tab⟩
      clear hW6 kL d0 d1 d2 d3 d4 ks4 kf4
      simp only [List.length_cons, List.length_nil]
      go_wp2_with fail
      refine (ka _ HW6.out.2).mono ?_
      rintro e w7 ⟨rfl, hb7⟩
      go_wp2_with fail
      go_ret
      exact ⟨rfl, below_then HW6.out.1 hb7⟩
end Go.Proofs.YtiedoeifpmfbbaaDoor
