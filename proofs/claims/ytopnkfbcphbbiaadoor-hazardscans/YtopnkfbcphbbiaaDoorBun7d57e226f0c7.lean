/-
  Helpers: S1Sn, S1Sq, S1Su.
-/
import Derived.Test.YtopnkfbcphbbiaaDoorBun269e8efc6848
import Derived.Test.YtopnkfbcphbbiaaDoorBun7f170c045c6e
import Derived.Deep.CutBlock
import Derived.Deep.DeepCutAuto
import Derived.Deep.Grids
namespace Go.Proofs.YtopnkfbcphbbiaaDoor.S1
open Go.RowKit
open H8 (okP sizeF HTab below_then packV packF isH opA opB opC placeI placeI_bd place_any)
open A9 (Ab ArAt ArMem FrA Ar rawA useA ptrA Ok9 okB bornS retireS retireA diedA diedS inS zN bN Left9 New9 new9 NAt)
open F0 (Pl5 FrS noT noT_new plBox plS plS_of below_next Wk Raw_at tab_new plF)

def grs (m : Nat) : Nat := (m + 7) / 8
def plK (a m : Nat) : Pl5 := ⟨(a : Int), 0, ((4 * a : Nat) : Int), ((4 * a + grs m : Nat) : Int), ((4 * a + grs m + grs m : Nat) : Int)⟩
theorem plK_wk (a m : Nat) : (plK a m).wk = (a : Int) := rfl
theorem plK_ok {a m : Nat} (h1 : 1 ≤ a) (h2 : a ≤ 100) : PlS (4 * a) (grs m) (plK a m) :=
  ⟨by show 4 * (a : Int) = ((4 * a : Nat) : Int); omega, rfl, rfl, by show ((4 * a + grs m : Nat) : Int) = ((4 * a : Nat) : Int) + (grs m : Int); omega, rfl, by omega, by omega⟩
theorem Raw_k {a m : Nat} (h1 : 1 ≤ a) (h2 : a ≤ 100) (h3 : m ≤ 4000) (w : World) : Calls Tryd.prog 21 #[.int .i64 (a : Int), .int .i64 (m : Int)] w fun e w' => e = .returned (.tuple #[(plK a m).v, .int .i64 ((4 * a + grs m + grs m + 1 : Nat) : Int)]) ∧ Below w.heap.size w w' := by
  have he : plF (a : Int) (m : Int) = plK a m := by
    unfold plF plK grs
    rw [show max (a : Int) 0 = (a : Int) by omega, show max (m : Int) 0 = (m : Int) by omega]
    congr 1 <;> omega
  exact Raw_at (plK a m) _ he (by show ((4 * a + grs m + grs m : Nat) : Int) + 1 = _; omega) (by omega) (by omega) w
structure Bg (a m : Nat) (s : Ar) : Prop where
  on : On1 (4 * a) (grs m) s (fun _ => 0) 0 (fun _ => none) (fun _ => []) [] 0
  nw : s.nw = m
  bad : s.bad = false
  us : s.uses = 0
  was : ∀ x, s.was x = false
theorem cut_id {n : Nat} (h : n ≤ 65536) : (A9.cutF (n : Int)).toNat = n := by
  unfold A9.cutF
  omega
theorem new9_nw (r n : Int) (f : Bool) : (new9 r n f).nw = (A9.cutF n).toNat := rfl
theorem new9_nr (r n : Int) (f : Bool) : (new9 r n f).nr = (A9.cutF r).toNat := rfl
theorem Bg.new {a m : Nat} (h2 : a ≤ 100) (h3 : m ≤ 4000) : Bg a m (new9 ((4 * a + grs m + grs m + 1 : Nat) : Int) (m : Int) false) := by
  have hg : grs m ≤ 501 := by unfold grs; omega
  have hr : (new9 ((4 * a + grs m + grs m + 1 : Nat) : Int) (m : Int) false).nr = 4 * a + grs m + grs m + 1 := by
    rw [new9_nr]
    exact cut_id (by omega)
  have hn : (new9 ((4 * a + grs m + grs m + 1 : Nat) : Int) (m : Int) false).nw = m := by
    rw [new9_nw]
    exact cut_id (by omega)
  exact ⟨On1.new _ _ (by rw [hr]; omega) (by omega) (by rw [hn]; unfold grs; omega) (by omega) (by omega), hn, rfl, rfl, fun _ => rfl⟩
/-- all of a class's size -/
theorem sizeF_pos {c : Nat} (h : c < 4) : sizeF (c : Int) ≠ 0 := by
  rw [size_zg h]
  have := zg_bd h
  omega
theorem zN_nm {b c : Nat} {g : Int} (ok : okP (8 * (b : Int)) g c) : zN (nmV b g c) = 8 * zg c := by rw [zN_zg, nm_cl ok]
end Go.Proofs.YtopnkfbcphbbiaaDoor.S1
namespace Go.Proofs.YtopnkfbcphbbiaaDoor.S1
open Go.RowKit
open H8 (okP sizeF HTab below_then packV packF isH opA opB opC placeI placeI_bd place_any)
open A9 (Ab ArAt ArMem FrA Ar rawA useA ptrA Ok9 okB bornS retireS retireA diedA diedS inS zN bN Left9 New9 new9 NAt cntV cntW retire_of)
open F0 (Pl5 FrS noT noT_new plBox plS plS_of below_next Wk tab_new upH upH_same upLs upLs_same upLs_other usedA List_any ListPost LsW basesF basesF_len headF headF_eq)

theorem itL_at {w c : Nat} (hc : c < 4) : ∀ (l a : Nat), a < w → itL (4 * w) (4 * a + c) l = 4 * ((a + l) % w) + c
  | 0, a, ha => by
    show 4 * a + c = _
    rw [Nat.add_zero, Nat.mod_eq_of_lt ha]
  | l + 1, a, ha => by
    show itL (4 * w) ((4 * a + c + 4) % (4 * w)) l = _
    rw [next_list ha hc, itL_at hc l _ (Nat.mod_lt _ (by omega)), Nat.mod_add_mod, show a + 1 + l = a + (l + 1) by omega]
theorem itL_all {w c a b : Nat} (hc : c < 4) (ha : a < w) (hb : b < w) : ∃ l, l ≤ w - 1 ∧ itL (4 * w) (4 * a + c) l = 4 * b + c := by
  by_cases h : a ≤ b
  · refine ⟨b - a, by omega, ?_⟩
    rw [itL_at hc _ _ ha, show a + (b - a) = b by omega, Nat.mod_eq_of_lt hb]
  · refine ⟨b + w - a, by omega, ?_⟩
    rw [itL_at hc _ _ ha, show a + (b + w - a) = b + w by omega, Nat.add_mod_right, Nat.mod_eq_of_lt hb]
/-- a list's bases, in memory -/
def ListO (B : Ab) (W : World) (g : Nat) (p : Pl5) (w : World) (s : Ar) (l : List Nat) (e : Ending) (w' : World) : Prop := ∃ a cap u, e = .returned (.slice a l.length cap) ∧ LsW B w w' (usedA s u) (.slice a l.length cap) (basesF l) ∧ Wk B W w' (usedA s u) g p
theorem listO {B : Ab} {W w : World} {s : Ar} {g : Nat} {p : Pl5} {K M T : Nat} {gn : Nat → Int} {cg : Nat} {cl : Nat → Option Nat} {ls : Nat → List Nat} {hs : List Int} (hW : Wk B W w s g p) (hp : PlS K M p) (hO : On1 K M s gn cg cl ls hs T) (hM : M ≤ 9000) {k c : Nat} (hk : 4 * k + c < K) (hc : c < 4) :
    Calls Tryd.prog 19 #[ptrA B, p.v, .int .i64 (k : Int), .int .i64 (c : Int)] w (ListO B W g p w s (ls (4 * k + c))) := by
  obtain ⟨hd, lk, hR, hL⟩ := hO.lists
  have hm := hp.most
  refine (List_any (k := 4 * k + c) hW.ar hR hp.k hk (by rw [headF_eq hp.k (by omega) (by omega) (by omega) (by omega)]; omega) (hL _ hk) hM).mono fun e w' hh => ?_
  obtain ⟨v, u, e1, hl⟩ := hh
  obtain ⟨a, cap, hv⟩ := A9.own_any hl.row
  rw [basesF_len] at hv
  subst hv
  exact ⟨a, cap, u, e1, hl, hW.arena hl.ar hl.fr⟩
/-- at a round's head: i - 1 rounds are done -/
def AgR (B : Ab) (W : World) (g n who c i : Nat) (w : World) : Prop := ∃ s gn cg cl ls T, Wk B W w s g (plK n 64) ∧ On1 (4 * n) 8 s gn cg cl ls [] T ∧ gn 0 + 1 = (i : Int) ∧ (∀ j, j ≠ 4 * who + c → ls j = []) ∧ ((i = 1 ∧ cg = 0 ∧ ls (4 * who + c) = []) ∨ (1 < i ∧ cg = zg c ∧ ls (4 * who + c) = [0])) ∧ s.bad = false ∧ T ≤ 3 * i ∧ s.nw = 64
/-- one is this actor's -/
def AgM (B : Ab) (W : World) (g n c i : Nat) (w : World) : Prop := okP (8 * ((0 : Nat) : Int)) (i : Int) c ∧ ∃ s gn cl ls T, Wk B W w s g (plK n 64) ∧ On1 (4 * n) 8 s gn (zg c) cl ls [nmV 0 i c] T ∧ gn 0 = (i : Int) ∧ (∀ j, ls j = []) ∧ s.bad = false ∧ T ≤ 3 * i + 2 ∧ s.nw = 64
/-- .. retired -/
def AgT (B : Ab) (W : World) (g n c i : Nat) (w : World) : Prop := okP (8 * ((0 : Nat) : Int)) (i : Int) c ∧ ∃ s gn cl ls T, Wk B W w (retireS s (nmV 0 i c)) g (plK n 64) ∧ On1 (4 * n) 8 s gn (zg c) cl ls [nmV 0 i c] T ∧ gn 0 = (i : Int) ∧ (∀ j, ls j = []) ∧ s.bad = false ∧ T ≤ 3 * i + 2 ∧ s.nw = 64 ∧ Ok9 s
section
variable {B : Ab} {W w w' : World} {g n who c i : Nat}
theorem AgR.begin {s : Ar} (hW : Wk B W w s g (plK n 64)) (hB : Bg n 64 s) : AgR B W g n who c 1 w :=
  ⟨s, _, 0, _, _, 0, hW, hB.on, rfl, fun _ _ => rfl, .inl ⟨rfl, rfl, rfl⟩, hB.bad, by omega, hB.nw⟩
theorem AgR.below (h : AgR B W g n who c i w) (hb : Below w.heap.size w w') : AgR B W g n who c i w' := by obtain ⟨s, gn, cg, cl, ls, T, h1, h2⟩ := h; exact ⟨s, gn, cg, cl, ls, T, h1.below hb, h2⟩
theorem AgR.drew (h : AgR B W g n who c i w) : AgR B W g n who c i w.drew := h.below (Below.refl _ _).drew
theorem AgR.low (h : AgR B W g n who c i w) : Below W.heap.size W w := by obtain ⟨s, gn, cg, cl, ls, T, h1, -⟩ := h; exact h1.low
theorem AgR.tab (h : AgR B W g n who c i w) : HTab w := by obtain ⟨s, gn, cg, cl, ls, T, h1, -⟩ := h; exact h1.ar.tab
theorem AgR.pl (h : AgR B W g n who c i w) : plS g (plK n 64) w := by obtain ⟨s, gn, cg, cl, ls, T, h1, -⟩ := h; exact h1.pl
theorem AgM.below (h : AgM B W g n c i w) (hb : Below w.heap.size w w') : AgM B W g n c i w' := by obtain ⟨ok, s, gn, cl, ls, T, h1, h2⟩ := h; exact ⟨ok, s, gn, cl, ls, T, h1.below hb, h2⟩
theorem AgM.tab (h : AgM B W g n c i w) : HTab w := by obtain ⟨ok, s, gn, cl, ls, T, h1, h2⟩ := h; exact h1.ar.tab
theorem AgM.pl (h : AgM B W g n c i w) : plS g (plK n 64) w := by obtain ⟨ok, s, gn, cl, ls, T, h1, h2⟩ := h; exact h1.pl
theorem AgT.pl (h : AgT B W g n c i w) : plS g (plK n 64) w := by obtain ⟨ok, s, gn, cl, ls, T, h1, h2⟩ := h; exact h1.pl
theorem ag_retire (h : AgM B W g n c i w) : Calls Tryd.prog 29 #[ptrA B, .int .i64 (nmV 0 i c)] w fun e w' => e = .returned (.bool true) ∧ AgT B W g n c i w' := by
  obtain ⟨ok, s, gn, cl, ls, T, hW, hO, h2⟩ := h
  have hl := hO.live (a := nmV 0 i c) (by simp)
  have hk := A9.Retire_any hW.ar (nmV 0 i c)
  rw [retire_of hl] at hk
  refine hk.mono fun e w' hh => ?_
  obtain ⟨e1, hA, hF⟩ := hh
  obtain ⟨a1, a2, a3, a4, a5⟩ := h2
  exact ⟨e1, ok, s, gn, cl, ls, T, hW.arena hA hF, hO, a1, a2, a3, a4, a5, hW.ar.ok⟩
end
end Go.Proofs.YtopnkfbcphbbiaaDoor.S1
namespace Go.Proofs.YtopnkfbcphbbiaaDoor.S1
open Go.RowKit
open H8 (okP sizeF HTab below_then packV packF isH opA opB opC placeI placeI_bd place_any)
open A9 (Ab ArAt ArMem FrA Ar rawA useA ptrA Ok9 okB bornS retireS retireA diedA diedS inS zN bN Left9 New9 new9 NAt cntV cntW retire_of Rw2 SrcN intsV intsV_one infoInt own_kept own_base own_cell own_form own_any isTab tab_lt)
open F0 (Pl5 FrS noT noT_new plBox plS plS_of below_next Wk tab_new upH upH_same upLs upLs_same upLs_other usedA LsW basesF basesF_len)

structure H2 (B : Ab) (W w : World) (s : Ar) (g : Nat) (p : Pl5) (va vb : Value) (xa xb : List Int) : Prop where
  wk : Wk B W w s g p
  R : Rw2 B W w va vb xa xb
  ga : ∀ r, va.ownBlock = some r → r ≠ g
  gb : ∀ r, vb.ownBlock = some r → r ≠ g
section
variable {B : Ab} {W w w' : World} {s s' : Ar} {g : Nat} {p : Pl5} {va vb : Value} {xa xb : List Int}
theorem H2.begin (h : Wk B W w s g p) (hT : HTab W) : H2 B W w s g p (.slice none 0 0) (.slice none 0 0) [] [] := ⟨h, Rw2.nil B W w h.low hT, fun r hr => by simp [Value.ownBlock] at hr, fun r hr => by simp [Value.ownBlock] at hr⟩
theorem H2.swap (h : H2 B W w s g p va vb xa xb) : H2 B W w s g p vb va xb xa := ⟨h.wk, h.R.swap, h.gb, h.ga⟩
theorem H2.arena (h : H2 B W w s g p va vb xa xb) (hA : ArAt B w' s') (hF : FrA B w w') : H2 B W w' s' g p va vb xa xb := ⟨h.wk.arena hA hF, h.R.arena h.wk.own hF, h.ga, h.gb⟩
theorem H2.below (h : H2 B W w s g p va vb xa xb) (hb : Below w.heap.size w w') : H2 B W w' s g p va vb xa xb := ⟨h.wk.below hb, h.R.below hb, h.ga, h.gb⟩
theorem H2.drew (h : H2 B W w s g p va vb xa xb) : H2 B W w.drew s g p va vb xa xb := h.below (Below.refl _ _).drew
theorem H2.alloc (h : H2 B W w s g p va vb xa xb) (o : Obj) : H2 B W (w.alloc o) s g p va vb xa xb := h.below ((Below.refl _ _).alloc (Nat.le_refl _) o)
theorem H2.nilB (h : H2 B W w s g p va vb xa xb) : H2 B W w s g p va (.slice none 0 0) xa [] :=
  ⟨h.wk, ⟨h.R.oa, World.ownsRow_nil _ _ _ _, fun r _ hr => by simp [Value.ownBlock] at hr, h.R.na, fun r hr => by simp [Value.ownBlock] at hr, h.R.low, h.R.tb⟩, h.ga, fun r hr => by simp [Value.ownBlock] at hr⟩
/-- another row takes the second's place -/
theorem H2.setB (h : H2 B W w s g p va vb xa xb) {v : Value} {xs : List Int} (hL : LsW B w w' s' v xs) : H2 B W w' s' g p va v xa xs := by
  have h2 := h.arena hL.ar hL.fr
  have hlt : ∀ r, v.ownBlock = some r → w.heap.size ≤ r := fun r hr => (hL.row.lt r hr).1
  refine ⟨h2.wk, ⟨h2.R.oa, own_base hL.row h.wk.low.size, fun r hr hv => ?_, h2.R.na, fun r hr hb => ?_, h2.R.low, h2.R.tb⟩, h2.ga, fun r hr => ?_⟩
  · have := hlt r hv
    have := (h.R.oa.lt r hr).2
    omega
  · have := hlt r hr
    have := h.wk.ar.lt hb
    omega
  · have := hlt r hr
    have := h.wk.glt
    omega
theorem H2.app (ty : TypeId) (h : H2 B W w s g p va vb xa xb) {ad : Option Addr} {len cap : Nat} {xs : List Int} (hs : SrcN w ad len xs) (hn : xa.length + xs.length ≤ 1000) :
    ∃ va' w', (Builtin.append_ #[22, 22] ty #[va, .slice ad len cap]).run Tryd.prog w = .ok va' w' ∧ H2 B W w' s g p va' vb (xa ++ xs) xb := by
  obtain ⟨va', w', hr, hA, hR⟩ := A9.appA ty h.wk.ar h.R (cap := cap) hs hn
  obtain ⟨i, hi, hz, hz1, hz2⟩ := infoInt
  obtain ⟨hl, a, rfl, hc⟩ := hs
  subst hl
  obtain ⟨v2, w2, hr2, h2, h3, -, h5⟩ := run_append_own_at (P := Tryd.prog) w W.heap.size 22 ty 3 i (.int .i64 0) 1 8 Tryd.underlying22 hi hz hz1 hz2 rfl (by decide) va xa.length (intsV xa) h.R.oa a xs.length cap (intsV xs) (by simp [intsV]) hc intsV_one (by unfold maxLen; omega) (by omega) h.R.low.size
  rw [hr] at hr2
  cases hr2
  have hgl := h.wk.glt
  refine ⟨va', w', hr, ⟨hA, hR.low, h.wk.own, (h3.block g hgl fun e => h.ga g e.symm rfl).trans h.wk.bx, h.wk.gB, h.wk.gW⟩, hR, fun r hr => ?_, h.gb⟩
  rcases h5 with h5 | h5
  · exact h.ga r (by rw [← h5]; exact hr)
  · rw [h5] at hr
    have e : w.heap.size = r := Option.some.inj hr
    omega
theorem step_app2 {ops : Array Oper} {o : Oper} {a : Act} {K : Act → World → Prop} {Q : Exit → Act → World → Prop} {E : Prop} (hgd : o.guard = none) (x y : Operand)
    (ho : o.op = .call { callee := .builtin .append, args := #[x, y], argTypes := #[22, 22] }) (h : H2 B W w s g p va vb xa xb) {ad : Option Addr} {len cap : Nat} {xs : List Int} (hx : a.eval x = va) (hy : a.eval y = .slice ad len cap) (hs : SrcN w ad len xs) (hn : xa.length + xs.length ≤ 1000)
    (hK : ∀ va' w', H2 B W w' s g p va' vb (xa ++ xs) xb → K (a.put o.dst va') w') : if Region.wanted o (yielded ops a.tmps) = true then Oper.wp Tryd.prog o a w K Q else E := by
  have hw : Region.wanted o (yielded ops a.tmps) = true := by simp [Region.wanted, hgd]
  rw [if_pos hw]
  obtain ⟨va', w', hr, h2⟩ := h.app o.type (cap := cap) hs hn
  unfold Oper.wp execOp
  simp only [ho, resolve, invoke, builtin, Sem.run_bind, Sem.run_pure, Result.andThen_ok, List.map_toArray, List.map_cons, List.map_nil, hx, hy, hr]
  exact hK va' w' h2
theorem list_app2 {ops : Array Oper} {rest : List Oper} {o : Oper} {a : Act} {Q : Exit → Act → World → Prop} (hgd : o.guard = none) (x y : Operand)
    (ho : o.op = .call { callee := .builtin .append, args := #[x, y], argTypes := #[22, 22] }) (h : H2 B W w s g p va vb xa xb) {ad : Option Addr} {len cap : Nat} {xs : List Int} (hx : a.eval x = va) (hy : a.eval y = .slice ad len cap) (hs : SrcN w ad len xs) (hn : xa.length + xs.length ≤ 1000)
    (hK : ∀ va' w', H2 B W w' s g p va' vb (xa ++ xs) xb → wpList Tryd.prog ops Q rest (a.put o.dst va') w') : wpList Tryd.prog ops Q (o :: rest) a w := by
  refine wpList_plain hgd fun K' hK' => ?_
  obtain ⟨va', w', hr, h2⟩ := h.app o.type (cap := cap) hs hn
  unfold Oper.wp execOp
  simp only [ho, resolve, invoke, builtin, Sem.run_bind, Sem.run_pure, Result.andThen_ok, List.map_toArray, List.map_cons, List.map_nil, hx, hy, hr]
  exact hK' _ _ (hK va' w' h2)
end
/-- the plain part -/
structure OnP (n m i : Nat) (s : Ar) (gn : Nat → Int) (cg : Nat) (cl : Nat → Option Nat) (ls : Nat → List Nat) (hs : List Int) : Prop where
  ex : ∃ T, On1 (4 * n) (grs m) s gn cg cl ls hs T ∧ T ≤ 3 * i
  bad : s.bad = false
  nw : s.nw = m
/-- what one that was asked for leaves -/
def OnO (n m i : Nat) (gn : Nat → Int) (cg : Nat) (cl : Nat → Option Nat) (ls : Nat → List Nat) (hs : List Int) (who c : Nat) (s' : Ar) (h : Int) : Prop :=
  (∃ b gn' ls' gg, (∃ k, k < n ∧ ls (4 * k + c) ≠ []) ∧ okP (8 * ((b : Nat) : Int)) gg c ∧ h = nmV b gg c ∧ (∀ x l, ls (4 * who + c) = x :: l → x = b) ∧ OnP n m (i + 1) s' gn' cg cl ls' (hs ++ [h])) ∨
  (∃ gn' cl' gg, (∀ k, k < n → ls (4 * k + c) = []) ∧ 8 * cg + 8 * zg c ≤ m ∧ okP (8 * (cg : Int)) gg c ∧ h = nmV cg gg c ∧ OnP n m (i + 1) s' gn' (cg + zg c) cl' ls (hs ++ [h])) ∨
  ((∀ k, k < n → ls (4 * k + c) = []) ∧ ¬ 8 * cg + 8 * zg c ≤ m ∧ h = 0 ∧ OnP n m (i + 1) s' gn cg cl ls hs)
section
variable {B : Ab} {W w w' : World} {s s' : Ar} {g n m i : Nat} {va vb : Value} {xa xb : List Int} {gn : Nat → Int} {cg : Nat} {cl : Nat → Option Nat} {ls : Nat → List Nat}
theorem on_retire (h : H2 B W w s g (plK n m) va vb xa xb) (hP : OnP n m i s gn cg cl ls xa) {a : Int} (ha : a ∈ xa) : Calls Tryd.prog 29 #[ptrA B, .int .i64 a] w fun e w' => e = .returned (.bool true) ∧ H2 B W w' (retireS s a) g (plK n m) va vb xa xb := by
  obtain ⟨T, hO, hT⟩ := hP.ex
  have hk := A9.Retire_any h.wk.ar a
  rw [retire_of (hO.live ha)] at hk
  exact hk.mono fun e w' hh => ⟨hh.1, h.arena hh.2.1 hh.2.2⟩
/-- a list is looked at -/
theorem on_list (h : H2 B W w s g (plK n m) va vb xa xb) (hP : OnP n m i s gn cg cl ls xa) (hm : m ≤ 4000) {k c : Nat} (hn : 1 ≤ n) (hn2 : n ≤ 100) (hk : k < n) (hc : c < 4) :
    Calls Tryd.prog 19 #[ptrA B, (plK n m).v, .int .i64 (k : Int), .int .i64 (c : Int)] w fun e w' => ∃ a cap s', e = .returned (.slice a (ls (4 * k + c)).length cap) ∧ H2 B W w' s' g (plK n m) va (.slice a (ls (4 * k + c)).length cap) xa (basesF (ls (4 * k + c))) ∧ OnP n m i s' gn cg cl ls xa := by
  obtain ⟨T, hO, hT⟩ := hP.ex
  have hp := plK_ok (a := n) (m := m) hn hn2
  refine (listO h.wk hp hO (by unfold grs; omega) (k := k) (c := c) (by omega) hc).mono fun e w' hh => ?_
  obtain ⟨a, cap, u, e1, hL, hW⟩ := hh
  exact ⟨a, cap, usedA s u, e1, h.setB hL, ⟨T, hO.used u, hT⟩, hP.bad, hP.nw⟩
end
end Go.Proofs.YtopnkfbcphbbiaaDoor.S1
