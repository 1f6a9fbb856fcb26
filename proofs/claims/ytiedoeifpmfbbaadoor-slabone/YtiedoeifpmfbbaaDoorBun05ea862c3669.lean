/-
  Helpers: Su, Sv.
-/
import Derived.Test.YtiedoeifpmfbbaaDoorBun67643e3eaafa
namespace Go.Proofs.YtiedoeifpmfbbaaDoor
open Go.RowKit
open H8 (okP sizeF HTab below_then packV packF isH opA opB opC placeI placeI_bd place_any)
open A9 (Ab ArAt ArMem FrA Ar rawA useA ptrA Ok9 okB bornS retireS retireA diedA diedS inS zN bN Left9 New9 new9 NAt cntV cntW retire_of Rw2 SrcN intsV intsV_one infoInt own_kept own_base own_cell own_form own_any isTab tab_lt)
open F0 (Pl5 FrS noT noT_new plBox plS plS_of below_next Wk tab_new upH upH_same upLs upLs_same upLs_other usedA LsW basesF basesF_len)

structure H2 (B : Ab) (W w : World) (s : Ar) (g : Nat) (p : Pl5) (va vb : Value) (xa xb : List Int) : Prop where
  wk : Wk B W w s g p
  R : Rw2 B W w va vb xa xb
  ga : ∀ r, va.ownBlock = some r → r ≠ g
  gb : ∀ r, vb.ownBlock = some r → r ≠ g
section
variable {B : Ab} {W w w' : World} {s s' : Ar} {g : Nat} {p : Pl5} {va vb : Value} {xa xb : List Int}
theorem H2.begin (h : Wk B W w s g p) (hT : HTab W) : H2 B W w s g p (.slice none 0 0) (.slice none 0 0) [] [] := ⟨h, Rw2.nil B W w h.low hT, fun r hr => by simp [Value.ownBlock] at hr, fun r hr => by simp [Value.ownBlock] at hr⟩
theorem H2.swap (h : H2 B W w s g p va vb xa xb) : H2 B W w s g p vb va xb xa := ⟨h.wk, h.R.swap, h.gb, h.ga⟩
theorem H2.arena (h : H2 B W w s g p va vb xa xb) (hA : ArAt B w' s') (hF : FrA B w w') : H2 B W w' s' g p va vb xa xb := ⟨h.wk.arena hA hF, h.R.arena h.wk.own hF, h.ga, h.gb⟩
theorem H2.below (h : H2 B W w s g p va vb xa xb) (hb : Below w.heap.size w w') : H2 B W w' s g p va vb xa xb := ⟨h.wk.below hb, h.R.below hb, h.ga, h.gb⟩
theorem H2.drew (h : H2 B W w s g p va vb xa xb) : H2 B W w.drew s g p va vb xa xb := h.below (Below.refl _ _).drew
theorem H2.alloc (h : H2 B W w s g p va vb xa xb) (o : Obj) : H2 B W (w.alloc o) s g p va vb xa xb := h.below ((Below.refl _ _).alloc (Nat.le_refl _) o)
theorem H2.nilB (h : H2 B W w s g p va vb xa xb) : H2 B W w s g p va (.slice none 0 0) xa [] :=
  ⟨h.wk, ⟨h.R.oa, World.ownsRow_nil _ _ _ _, fun r _ hr => by simp [Value.ownBlock] at hr, h.R.na, fun r hr => by simp [Value.ownBlock] at hr, h.R.low, h.R.tb⟩, h.ga, fun r hr => by simp [Value.ownBlock] at hr⟩
/-- another row takes the second's place -/
theorem H2.setB (h : H2 B W w s g p va vb xa xb) {v : Value} {xs : List Int} (hL : LsW B w w' s' v xs) : H2 B W w' s' g p va v xa xs := by
  have h2 := h.arena hL.ar hL.fr
  have hlt : ∀ r, v.ownBlock = some r → w.heap.size ≤ r := fun r hr => (hL.row.lt r hr).1
  refine ⟨h2.wk, ⟨h2.R.oa, own_base hL.row h.wk.low.size, fun r hr hv => ?_, h2.R.na, fun r hr hb => ?_, h2.R.low, h2.R.tb⟩, h2.ga, fun r hr => ?_⟩
  · have := hlt r hv
    have := (h.R.oa.lt r hr).2
    omega
  · have := hlt r hr
    have := h.wk.ar.lt hb
    omega
  · have := hlt r hr
    have := h.wk.glt
    omega
theorem H2.app (ty : TypeId) (h : H2 B W w s g p va vb xa xb) {ad : Option Addr} {len cap : Nat} {xs : List Int} (hs : SrcN w ad len xs) (hn : xa.length + xs.length ≤ 1000) :
    ∃ va' w', (Builtin.append_ #[22, 22] ty #[va, .slice ad len cap]).run Tryd.prog w = .ok va' w' ∧ H2 B W w' s g p va' vb (xa ++ xs) xb := by
  obtain ⟨va', w', hr, hA, hR⟩ := A9.appA ty h.wk.ar h.R (cap := cap) hs hn
  obtain ⟨i, hi, hz, hz1, hz2⟩ := infoInt
  obtain ⟨hl, a, rfl, hc⟩ := hs
  subst hl
  obtain ⟨v2, w2, hr2, h2, h3, -, h5⟩ := run_append_own_at (P := Tryd.prog) w W.heap.size 22 ty 3 i (.int .i64 0) 1 8 Tryd.underlying22 hi hz hz1 hz2 rfl (by decide) va xa.length (intsV xa) h.R.oa a xs.length cap (intsV xs) (by simp [intsV]) hc intsV_one (by unfold maxLen; omega) (by omega) h.R.low.size
  rw [hr] at hr2
  cases hr2
  have hgl := h.wk.glt
  refine ⟨va', w', hr, ⟨hA, hR.low, h.wk.own, (h3.block g hgl fun e => h.ga g e.symm rfl).trans h.wk.bx, h.wk.gB, h.wk.gW⟩, hR, fun r hr => ?_, h.gb⟩
  rcases h5 with h5 | h5
  · exact h.ga r (by rw [← h5]; exact hr)
  · rw [h5] at hr
    have e : w.heap.size = r := Option.some.inj hr
    omega
theorem step_app2 {ops : Array Oper} {o : Oper} {a : Act} {K : Act → World → Prop} {Q : Exit → Act → World → Prop} {E : Prop} (hgd : o.guard = none) (x y : Operand)
    (ho : o.op = .call { callee := .builtin .append, args := #[x, y], argTypes := #[22, 22] }) (h : H2 B W w s g p va vb xa xb) {ad : Option Addr} {len cap : Nat} {xs : List Int} (hx : a.eval x = va) (hy : a.eval y = .slice ad len cap) (hs : SrcN w ad len xs) (hn : xa.length + xs.length ≤ 1000)
    (hK : ∀ va' w', H2 B W w' s g p va' vb (xa ++ xs) xb → K (a.put o.dst va') w') : if Region.wanted o (yielded ops a.tmps) = true then Oper.wp Tryd.prog o a w K Q else E := by
  have hw : Region.wanted o (yielded ops a.tmps) = true := by simp [Region.wanted, hgd]
  rw [if_pos hw]
  obtain ⟨va', w', hr, h2⟩ := h.app o.type (cap := cap) hs hn
  unfold Oper.wp execOp
  simp only [ho, resolve, invoke, builtin, Sem.run_bind, Sem.run_pure, Result.andThen_ok, List.map_toArray, List.map_cons, List.map_nil, hx, hy, hr]
  exact hK va' w' h2
theorem list_app2 {ops : Array Oper} {rest : List Oper} {o : Oper} {a : Act} {Q : Exit → Act → World → Prop} (hgd : o.guard = none) (x y : Operand)
    (ho : o.op = .call { callee := .builtin .append, args := #[x, y], argTypes := #[22, 22] }) (h : H2 B W w s g p va vb xa xb) {ad : Option Addr} {len cap : Nat} {xs : List Int} (hx : a.eval x = va) (hy : a.eval y = .slice ad len cap) (hs : SrcN w ad len xs) (hn : xa.length + xs.length ≤ 1000)
    (hK : ∀ va' w', H2 B W w' s g p va' vb (xa ++ xs) xb → wpList Tryd.prog ops Q rest (a.put o.dst va') w') : wpList Tryd.prog ops Q (o :: rest) a w := by
  refine wpList_plain hgd fun K' hK' => ?_
  obtain ⟨va', w', hr, h2⟩ := h.app o.type (cap := cap) hs hn
  unfold Oper.wp execOp
  simp only [ho, resolve, invoke, builtin, Sem.run_bind, Sem.run_pure, Result.andThen_ok, List.map_toArray, List.map_cons, List.map_nil, hx, hy, hr]
  exact hK' _ _ (hK va' w' h2)
end
/-- the plain part -/
structure OnP (n m i : Nat) (s : Ar) (gn : Nat → Int) (cg : Nat) (cl : Nat → Option Nat) (ls : Nat → List Nat) (hs : List Int) : Prop where
  ex : ∃ T, On1 (4 * n) (grs m) s gn cg cl ls hs T ∧ T ≤ 3 * i
  bad : s.bad = false
  nw : s.nw = m
/-- what one that was asked for leaves -/
def OnO (n m i : Nat) (gn : Nat → Int) (cg : Nat) (cl : Nat → Option Nat) (ls : Nat → List Nat) (hs : List Int) (who c : Nat) (s' : Ar) (h : Int) : Prop :=
  (∃ b gn' ls' gg, (∃ k, k < n ∧ ls (4 * k + c) ≠ []) ∧ okP (8 * ((b : Nat) : Int)) gg c ∧ h = nmV b gg c ∧ (∀ x l, ls (4 * who + c) = x :: l → x = b) ∧ OnP n m (i + 1) s' gn' cg cl ls' (hs ++ [h])) ∨
  (∃ gn' cl' gg, (∀ k, k < n → ls (4 * k + c) = []) ∧ 8 * cg + 8 * zg c ≤ m ∧ okP (8 * (cg : Int)) gg c ∧ h = nmV cg gg c ∧ OnP n m (i + 1) s' gn' (cg + zg c) cl' ls (hs ++ [h])) ∨
  ((∀ k, k < n → ls (4 * k + c) = []) ∧ ¬ 8 * cg + 8 * zg c ≤ m ∧ h = 0 ∧ OnP n m (i + 1) s' gn cg cl ls hs)
section
variable {B : Ab} {W w w' : World} {s s' : Ar} {g n m i : Nat} {va vb : Value} {xa xb : List Int} {gn : Nat → Int} {cg : Nat} {cl : Nat → Option Nat} {ls : Nat → List Nat}
theorem on_new (h : H2 B W w s g (plK n m) va vb xa xb) (hP : OnP n m i s gn cg cl ls xa) {who c : Nat} (hn : 1 ≤ n) (hn2 : n ≤ 100) (hwho : who < n) (hc : c < 4) (hi : i ≤ 1000) :
    Calls Tryd.prog 15 #[(plK n m).v, .int .i64 (who : Int), .int .i64 (c : Int)] w fun e w' => ∃ q, e = .returned (.pointer (some ⟨q, 0, none⟩)) ∧ Calls Tryd.prog 11 #[ptrA B, ifAl q] w' fun e w2 => e = .returned (.bool true) ∧ ∃ s' h', H2 B W w2 s' g (plK n m) va vb xa xb ∧ AlEnd q w2 (plK n m) h' ∧ OnO n m i gn cg cl ls xa who c s' h' := by
  obtain ⟨T, hO, hT⟩ := hP.ex
  have hp := plK_ok (a := n) (m := m) hn hn2
  refine (newAlW h.wk (by rw [plK_wk]; omega) (by rw [plK_wk]; omega) (sizeF_pos hc)).mono fun e w1 hh => ?_
  obtain ⟨q, e1, hN⟩ := hh
  refine ⟨q, e1, (runAlW hN h.wk hp hO (by omega) (by omega) hc).mono fun e w2 hh => ?_⟩
  obtain ⟨e2, s', o, hPP⟩ := hh
  have hR := hPP.R
  have hbd := hPP.bad.trans hP.bad
  have hall : (∀ l, l ≤ n - 1 → ls (itL (4 * n) (4 * who + c) l) = []) → ∀ k, k < n → ls (4 * k + c) = [] := fun he k hk => by
    obtain ⟨l, hl, e⟩ := itL_all hc hwho hk
    rw [← e]
    exact he l hl
  rw [show 4 * n / 4 - 1 = n - 1 by omega] at hR
  refine ⟨e2, s', outH o, h.arena hPP.wk.ar hPP.fr, hPP.en, ?_⟩
  cases hR with
  | old j b r hj he hl hb ok h6 hn' =>
    refine .inl ⟨b, _, _, _, ⟨(who + j) % n, Nat.mod_lt _ (by omega), ?_⟩, ok, rfl, fun x l hx => ?_, ⟨_, h6, by omega⟩, hbd, hn'.trans hP.nw⟩
    · rw [← itL_at hc _ _ hwho, hl]
      simp
    · cases j with
      | zero =>
        have hl' : ls (4 * who + c) = b :: r := hl
        rw [hl'] at hx
        cases hx
        rfl
      | succ j =>
        have := he 0 (by omega)
        have h0 : ls (4 * who + c) = [] := this
        rw [h0] at hx
        cases hx
  | new he hf ok h6 hn' =>
    rw [hP.nw] at hf
    exact .inr (.inl ⟨_, _, _, hall he, hf, ok, rfl, ⟨_, h6, by omega⟩, hbd, hn'.trans hP.nw⟩)
  | none he hf h6 hn' =>
    rw [hP.nw] at hf
    exact .inr (.inr ⟨hall he, hf, rfl, ⟨_, h6, by omega⟩, hbd, hn'.trans hP.nw⟩)
theorem on_retire (h : H2 B W w s g (plK n m) va vb xa xb) (hP : OnP n m i s gn cg cl ls xa) {a : Int} (ha : a ∈ xa) : Calls Tryd.prog 10 #[ptrA B, .int .i64 a] w fun e w' => e = .returned (.bool true) ∧ H2 B W w' (retireS s a) g (plK n m) va vb xa xb := by
  obtain ⟨T, hO, hT⟩ := hP.ex
  have hk := A9.Retire_any h.wk.ar a
  rw [retire_of (hO.live ha)] at hk
  exact hk.mono fun e w' hh => ⟨hh.1, h.arena hh.2.1 hh.2.2⟩
theorem on_free {a : Int} (h : H2 B W w (retireS s a) g (plK n m) va vb xa xb) (hP : OnP n m i s gn cg cl ls xa) (hok : Ok9 s) {who : Nat} {l1 l2 : List Int} (ha : xa = l1 ++ a :: l2) (hn : 1 ≤ n) (hn2 : n ≤ 100) (hwho : who < n) (hi : i ≤ 1000) :
    Calls Tryd.prog 12 #[(plK n m).v, .int .i64 (who : Int), .int .i64 a] w fun e w' => ∃ q, e = .returned (.pointer (some ⟨q, 0, none⟩)) ∧ H2 B W w' (retireS s a) g (plK n m) va vb xa xb ∧ Calls Tryd.prog 11 #[ptrA B, ifFe q] w' fun e w2 => e = .returned (.bool true) ∧ ∃ s' ls', H2 B W w2 s' g (plK n m) va vb xa xb ∧ s'.st a = 0 ∧ OnP n m (i + 1) s' gn cg cl ls' (l1 ++ l2) := by
  obtain ⟨T, hO, hT⟩ := hP.ex
  have hp := plK_ok (a := n) (m := m) hn hn2
  obtain ⟨x1, x2, x3, -⟩ := hO.name hok (a := a) (by rw [ha]; simp)
  refine (newFeW (a := a) h.wk x1 x2).mono fun e w1 hh => ?_
  obtain ⟨q, e1, hN⟩ := hh
  refine ⟨q, e1, h.below hN.bel, (runFeW hN h.wk hp hO (by omega) ha (by omega)).mono fun e w2 hh => ?_⟩
  obtain ⟨e2, s', hPP⟩ := hh
  exact ⟨e2, s', _, h.arena hPP.wk.ar hPP.fr, hPP.dead, ⟨_, hPP.on, by omega⟩, hPP.bad.trans hP.bad, hPP.nw.trans hP.nw⟩
/-- a list is looked at -/
theorem on_list (h : H2 B W w s g (plK n m) va vb xa xb) (hP : OnP n m i s gn cg cl ls xa) (hm : m ≤ 4000) {k c : Nat} (hn : 1 ≤ n) (hn2 : n ≤ 100) (hk : k < n) (hc : c < 4) :
    Calls Tryd.prog 14 #[ptrA B, (plK n m).v, .int .i64 (k : Int), .int .i64 (c : Int)] w fun e w' => ∃ a cap s', e = .returned (.slice a (ls (4 * k + c)).length cap) ∧ H2 B W w' s' g (plK n m) va (.slice a (ls (4 * k + c)).length cap) xa (basesF (ls (4 * k + c))) ∧ OnP n m i s' gn cg cl ls xa := by
  obtain ⟨T, hO, hT⟩ := hP.ex
  have hp := plK_ok (a := n) (m := m) hn hn2
  refine (listO h.wk hp hO (by unfold grs; omega) (k := k) (c := c) (by omega) hc).mono fun e w' hh => ?_
  obtain ⟨a, cap, u, e1, hL, hW⟩ := hh
  exact ⟨a, cap, usedA s u, e1, h.setB hL, ⟨T, hO.used u, hT⟩, hP.bad, hP.nw⟩
end
end Go.Proofs.YtiedoeifpmfbbaaDoor
namespace Go.Proofs.YtiedoeifpmfbbaaDoor
open Go.RowKit
open H8 (okP sizeF HTab below_then packV packF isH opA opB opC placeI placeI_bd place_any)
open A9 (Ab ArAt ArMem FrA Ar rawA useA ptrA Ok9 okB bornS retireS retireA diedA diedS inS zN bN Left9 New9 new9 NAt cntV cntW retire_of Rw2 SrcN intsV intsV_one infoInt own_kept own_base own_cell own_form own_any isTab tab_lt src_take src_rest src_one)
open F0 (Pl5 FrS noT noT_new plBox plS plS_of below_next Wk tab_new upH upH_same upLs upLs_same upLs_other usedA LsW basesF basesF_len)

def anyF (ls : Nat → List Nat) (c : Nat) : Nat → Bool
  | 0 => false
  | k + 1 => anyF ls c k || decide (0 < (ls (4 * k + c)).length)
theorem anyF_iff {ls : Nat → List Nat} {c : Nat} : ∀ n, anyF ls c n = true ↔ ∃ k, k < n ∧ ls (4 * k + c) ≠ []
  | 0 => by simp [anyF]
  | n + 1 => by
    simp only [anyF, Bool.or_eq_true, decide_eq_true_eq, anyF_iff n]
    constructor
    · rintro (⟨k, h1, h2⟩ | h)
      · exact ⟨k, by omega, h2⟩
      · exact ⟨n, by omega, fun e => by rw [e] at h; simp at h⟩
    · rintro ⟨k, h1, h2⟩
      by_cases e : k = n
      · subst e
        exact .inr (List.length_pos_iff.2 h2)
      · exact .inl ⟨k, by omega, h2⟩
/-- all that holds at a round's head -/
def OnR (B : Ab) (W : World) (g n m i cg : Nat) (hv : Value) (w : World) : Prop := ∃ s gn cl ls hs, H2 B W w s g (plK n m) hv (.slice none 0 0) hs [] ∧ OnP n m i s gn cg cl ls hs ∧ hs.length ≤ i
/-- the cells that a free's regions read -/
def sixS (g r k : Nat) (p : Pl5) (a : Int) (w : World) : Prop := w.cell? ⟨g, 0, none⟩ = some (.int .i64 p.wk) ∧ w.cell? ⟨g, 1, none⟩ = some (.int .i64 p.hd) ∧ w.cell? ⟨g, 2, none⟩ = some (.int .i64 p.ln) ∧ w.cell? ⟨g, 3, none⟩ = some (.int .i64 p.gn) ∧ w.cell? ⟨g, 4, none⟩ = some (.int .i64 p.cv) ∧ w.cell? ⟨r, k, none⟩ = some (.int .i64 a)
theorem H2.row {B : Ab} {W w : World} {s : Ar} {g : Nat} {p : Pl5} {r L cap : Nat} {vb : Value} {xa xb : List Int} (h : H2 B W w s g p (.slice (some ⟨r, 0, none⟩) L cap) vb xa xb) (hL : xa.length = L) : w.ownsRow W.heap.size 3 1 (.slice (some ⟨r, 0, none⟩) L cap) L (intsV xa) := by
  have := h.R.oa
  rwa [hL] at this
theorem H2.six {B : Ab} {W w : World} {s : Ar} {g : Nat} {p : Pl5} {r L cap k : Nat} {a : Int} {vb : Value} {xa xb : List Int} (h : H2 B W w s g p (.slice (some ⟨r, 0, none⟩) L cap) vb xa xb) (hL : xa.length = L) (hk : xa[k]? = some a) : sixS g r k p a w := by
  obtain ⟨c0, c1, c2, c3, c4⟩ := h.wk.pl
  exact ⟨c0, c1, c2, c3, c4, own_cell (h.row hL) hk⟩
set_option maxHeartbeats 16000000 in
set_option maxRecDepth 8000 in
theorem one_walk (a0 a1 : Int) (ad : Option Addr) (len cap : Nat) (hl : len ≤ 9223372036854775807) (w : World) (hN : NAt w ad len) (hT : HTab w) : Calls Tryd.prog 3 #[.int .i64 a0, .int .i64 a1, .slice ad len cap] w fun e w' => e = .returned (.bool true) ∧ Below w.heap.size w w' := by
  have P0 := fun wx => place_any a0 4 wx (by omega) (by omega)
  have P1 := fun wx => place_any a1 40 wx (by omega) (by omega)
  have Pv := fun z wx => place_any z 1048576 wx (by omega) (by omega)
  obtain ⟨y, hy, hy4⟩ : ∃ y : Nat, placeI a0 4 = y ∧ y < 4 := ⟨(placeI a0 4).toNat, by have := placeI_bd a0 4 (by omega); omega, by have := placeI_bd a0 4 (by omega); omega⟩
  obtain ⟨mw, hmw, hmw4⟩ : ∃ t : Nat, placeI a1 40 = t ∧ t < 40 := ⟨(placeI a1 40).toNat, by have := placeI_bd a1 40 (by omega); omega, by have := placeI_bd a1 40 (by omega); omega⟩
  obtain ⟨n, hn⟩ : ∃ n, n = 1 + y := ⟨_, rfl⟩
  obtain ⟨m, hm⟩ : ∃ m, m = 8 * mw := ⟨_, rfl⟩
  have hnI : (1 : Int) + (y : Int) = (n : Int) := by omega
  have hmI : (8 : Int) * (mw : Int) = (m : Int) := by omega
  have hnW : wrap64 (n : Int) = (n : Int) := A9.wr64_id (by omega) (by omega)
  have hmW : wrap64 (m : Int) = (m : Int) := A9.wr64_id (by omega) (by omega)
  rw [hy] at P0
  rw [hmw] at P1
  have HN : Hid (1 ≤ n ∧ n ≤ 4 ∧ m ≤ 400) := ⟨by omega, by omega, by omega⟩
  clear hy hmw
  have kR := fun wx => Raw_k (a := n) (m := m) (by omega) (by omega) (by omega) wx
  have kN := fun wx (hx : HTab wx) => A9.New_any ((4 * n + grs m + grs m + 1 : Nat) : Int) (m : Int) false wx hx
  have hB0 : Hid (Bg n m (new9 ((4 * n + grs m + grs m + 1 : Nat) : Int) (m : Int) false)) := Bg.new (by omega) (by omega)
  have ka := fun wx (hx : HTab wx) => awake_any wx hx
  have ks := fun (c : Nat) (hc : c < 4) wx (hx : HTab wx) => (size_zg hc) ▸ H8.Size_any (c : Int) wx hx
  have HT : Hid (HTab w) := hT
  generalize new9 ((4 * n + grs m + grs m + 1 : Nat) : Int) (m : Int) false = s0 at *
  generalize ((4 * n + grs m + grs m + 1 : Nat) : Int) = n0 at *
  clear hT hn hm hy4 hmw4
  unfold Pl5.v at kR
  go_enter Tryd.func3, Tryd.ntmps3
  go_wp2_with fail
  refine (P0 _).mono ?_
  rintro e w ⟨rfl, rfl⟩
  go_wp2_with fail
  refine (P1 _).mono ?_
  rintro e w ⟨rfl, rfl⟩
  go_wp2_with fail
  refine (kR _).mono ?_
  rintro e w1 ⟨rfl, hb1⟩
  go_wp2_with fail
  refine (kN _ (tab_new HT.out hb1)).mono ?_
  rintro e w2 ⟨B, rfl, hA2, hb2, hlB⟩
  have hW2 : Wk B w w2 s0 w1.heap.size (plK n m) := Wk.begin hb1 hA2 hb2 hlB
  clear hA2 hb2 hlB hb1 kR kN P0 P1
  generalize w1.heap.size = g at *
  have HR0 : Hid (OnR B w g n m 0 0 (.slice none 0 0) w2) := ⟨s0, _, _, _, [], H2.begin hW2 HT.out, ⟨⟨0, hB0.out.on, by omega⟩, hB0.out.bad, hB0.out.nw⟩, Nat.le_refl _⟩
  clear hW2 hB0
  go_wp2_with fail
  go_loopw [12, 13, 14] (fun hv cv iv wr => ∃ i cg : Nat, i ≤ 60 ∧ i ≤ len ∧ cv = .int .i64 (8 * (cg : Int)) ∧ iv = .int .i64 i ∧ OnR B w g n m i cg hv wr) (fun _ _ iv _ => 60 - (intOf iv).toNat)
  case atStart => exact ⟨0, 0, by omega, by omega, rfl, rfl, HR0.out⟩
  case round =>
    obtain ⟨i, cg, hi, hil, rfl, rfl, s, gn, cl, ls, hs, hH, hP, hlen⟩ := hrel
    clear HR0
    obtain ⟨wq, rfl⟩ : ∃ W, W = wr := ⟨wr, rfl⟩
    obtain ⟨L, hL⟩ : ∃ L, hs.length = L := ⟨_, rfl⟩
    by_cases hlt : i < len ∧ i < 60
    · obtain ⟨hlt, hlt60⟩ := hlt
      have hoa := hH.R.oa
      rw [hL] at hoa
      obtain ⟨ha, hc, rfl⟩ := own_any hoa
      clear hoa
      obtain ⟨b, o, z, rfl, hcz⟩ := hN.low hH.wk.low i hlt
      have HN0 : Hid (NAt w (some ⟨b, o, none⟩) len) := hN
      have hli : (i : Int) < (len : Int) := by omega
      have hli6 : (i : Int) < 60 := by omega
      have hnb := HN.out
      obtain ⟨v1, v2⟩ := placeI_bd z 1048576 (by omega)
      have Pz := fun wx => Pv z wx
      generalize placeI z 1048576 = v at *
      have hn0 : ¬ (n : Int) = 0 := by omega
      have hn0b : ((n : Int) == 0) = false := by simp; omega
      obtain ⟨who, hwho, hwn⟩ : ∃ k : Nat, v / 2 % (n : Int) = (k : Int) ∧ k < n := ⟨(v / 2 % (n : Int)).toNat, by have := Int.emod_nonneg (v / 2) hn0; omega, by have := Int.emod_nonneg (v / 2) hn0; have := Int.emod_lt_of_pos (v / 2) (show (0 : Int) < (n : Int) by omega); omega⟩
      obtain ⟨c, hcc, hc3⟩ : ∃ k : Nat, v / 8 % 3 = (k : Int) ∧ k < 3 := ⟨(v / 8 % 3).toNat, by omega, by omega⟩
      have HX : Hid (H2 B w wq s g (plK n m) (.slice ha L hc) (.slice none 0 0) hs [] ∧ OnP n m i s gn cg cl ls hs ∧ hs.length ≤ i ∧ hs.length = L) := ⟨hH, hP, hlen, hL⟩
      clear hN hH hP hlen hL Pv hnb
      go_upto_region 13 with (go_at_call 7; refine (Pz _).mono ?_; rintro e wq ⟨rfl, rfl⟩)
      rw [hwho, hcc]
      clear hwho hcc hcz Pz hn0 hn0b
      by_cases hfree : v % 2 = 1 ∧ 0 < L
      · obtain ⟨hev, hL0⟩ := hfree
        as_aux_lemma =>
          have hevb : (v % 2 == 1) = true := by simpa using hev
          have hLI : (0 : Int) < (L : Int) := by omega
          have hL0n : ¬ (L : Int) = 0 := by omega
          have hL0b : ((L : Int) == 0) = false := by simp; omega
          obtain ⟨k, hk, hkL⟩ : ∃ k : Nat, v / 24 % (L : Int) = (k : Int) ∧ k < L := ⟨(v / 24 % (L : Int)).toNat, by have := Int.emod_nonneg (v / 24) hL0n; omega, by have := Int.emod_nonneg (v / 24) hL0n; have := Int.emod_lt_of_pos (v / 24) hLI; omega⟩
          obtain ⟨r, c9, er, hLc, hcm⟩ := own_form (by have := HX.out.1.R.oa; rw [HX.out.2.2.2] at this; exact this) hL0
          cases er
          unfold maxLen at hcm
          have hkl : k < hs.length := by rw [HX.out.2.2.2]; exact hkL
          obtain ⟨a, hka⟩ : ∃ a, hs[k]? = some a := ⟨hs[k], List.getElem?_eq_getElem hkl⟩
          have hsp : hs = hs.take k ++ a :: hs.drop (k + 1) := by
            have e := List.getElem?_eq_getElem hkl
            rw [hka] at e
            rw [Option.some.inj e, List.getElem_cons_drop, List.take_append_drop]
          have ham : a ∈ hs := by rw [hsp]; simp
          have S0 := HX.out.1.six HX.out.2.2.2 hka
          have hnb := HN.out
          have kRet := fun wx (hx : H2 B w wx s g (plK n m) (.slice (some ⟨r, 0, none⟩) L hc) (.slice none 0 0) hs []) => on_retire hx HX.out.2.1 ham
          have kFr := fun wx (hx : H2 B w wx (retireS s a) g (plK n m) (.slice (some ⟨r, 0, none⟩) L hc) (.slice none 0 0) hs []) => on_free (who := who) hx HX.out.2.1 HX.out.1.wk.ar.ok hsp (by omega) (by omega) hwn (by omega)
          have HK : Hid (hs[k]? = some a ∧ hs.length = L ∧ k < L ∧ hs.length ≤ i ∧ (hs.take k ++ hs.drop (k + 1)).length + 1 = L) := ⟨hka, HX.out.2.2.2, hkL, HX.out.2.2.1, by rw [List.length_append, List.length_take, List.length_drop]; have := HX.out.2.2.2; omega⟩
          have hk0 : (0 : Int) ≤ (k : Int) := by omega
          have hk1 : (k : Int) < (L : Int) := by omega
          have hkc : (k : Int) ≤ (hc : Int) := by omega
          have hk2 : (k : Int) + 1 ≤ (L : Int) := by omega
          have hk3 : (0 : Int) ≤ (k : Int) + 1 := by omega
          have hL60 : L ≤ 60 := by have := HX.out.2.2; omega
          have hwk : IntKind.i64.wrap ((k : Int) + 1) = (k : Int) + 1 := by rw [IntKind.wrap_i64]; omega
          have htn : ((k : Int) + 1).toNat = k + 1 := by omega
          have hLc2 : (L : Int) ≤ (hc : Int) := by omega
          unfold Pl5.v at kFr
          unfold sixS at S0
          clear hka hsp ham hnb hkl
          go_upto_region 15 with fail
          rw [hk]
          clear hk hev hevb hL0n hL0b
          go_region_held3 (fun w' => w'.cell? ⟨g, 0, none⟩ = some (.int .i64 (plK n m).wk) ∧ w'.cell? ⟨g, 1, none⟩ = some (.int .i64 (plK n m).hd) ∧ w'.cell? ⟨g, 2, none⟩ = some (.int .i64 (plK n m).ln) ∧ w'.cell? ⟨g, 3, none⟩ = some (.int .i64 (plK n m).gn) ∧ w'.cell? ⟨g, 4, none⟩ = some (.int .i64 (plK n m).cv) ∧ w'.cell? ⟨r, k, none⟩ = some (.int .i64 a)) (first | exact S0 | exact S4 | exact S5 | exact S6) (first
            | (go_at_call 10; refine (kRet _ (by first | exact HX.out.1 | exact HX.out.1.drew)).mono ?_; rintro e w4 ⟨rfl, hX4⟩; have S4 := hX4.six HK.out.2.1 HK.out.1)
            | (go_at_call 12; refine (kFr _ hX4).mono ?_; rintro e w5 ⟨q, rfl, hX5, kY⟩; have S5 := hX5.six HK.out.2.1 HK.out.1)
            | (go_at_call 11; refine kY.mono ?_; rintro e w6 ⟨rfl, s6, ls6, hX6, hd6, hP6⟩; have S6 := hX6.six HK.out.2.1 HK.out.1; have kSt := A9.State_any hX6.wk.ar a; rw [hd6] at kSt)
            | (go_at_call 13; refine kSt.mono ?_; rintro e w7 ⟨rfl, rfl⟩))
          all_goals
            have HX7 : Hid (H2 B w w7 s6 g (plK n m) (.slice (some ⟨r, 0, none⟩) L hc) (.slice none 0 0) hs [] ∧ OnP n m (i + 1) s6 gn cg cl ls6 (hs.take k ++ hs.drop (k + 1))) := ⟨hX6, hP6⟩
            clear S0 S4 S5 S6 hX4 hX5 hX6 hP6 hd6 kSt kRet kFr kY HX
            go_wp2_with fail
            have hY0 := HX7.out.1.swap.drew
            have hkL2 : k < L := HK.out.2.2.1
            go_region_held3 (fun _ => True) (exact trivial) (first
              | (refine step_app2 rfl _ _ rfl hY0 rfl rfl (src_take (hY0.swap.row HK.out.2.1) k (by have := HK.out; omega)) (by simp; omega) ?_; intro va w8 hY8)
              | (refine step_app2 rfl _ _ rfl hY8 rfl rfl (src_rest (hY8.swap.row HK.out.2.1) HK.out.2.1 hLc hkL2) (by have := HK.out.2.1; simp; omega) ?_; intro vb w9 hY9))
            all_goals
              have HE : Hid (OnR B w g n m (i + 1) cg vb w9) := ⟨s6, gn, cl, ls6, _, hY9.nilB, HX7.out.2, by have h1 := HK.out.2.2.2.2; have h2 := HK.out; show (hs.take k ++ hs.drop (k + 1)).length ≤ i + 1; omega⟩
              clear hY9 hY8 hY0 HX7
              go_wp2_with fail
              go_roundw
              case rel => exact ⟨i + 1, cg, by omega, by omega, rfl, by go_num, HE.out⟩
              case measure => simp [intOf]; omega
      · go_cut [76] (fun cv wx => cv = .bool false ∧ wx = wq)
        case first =>
          by_cases hev : v % 2 = 1
          · have hevb : (v % 2 == 1) = true := by simpa using hev
            have hLI : ¬ (0 : Int) < (L : Int) := by omega
            have hLd : decide ((0 : Int) < (L : Int)) = false := by simpa using hLI
            have hLn : decide (0 < L) = false := decide_eq_false (by omega)
            go_wp2_with fail
            go_meet
            exact ⟨by first | rfl | rw [hLn], rfl⟩
          · have hevb : (v % 2 == 1) = false := by simpa using hev
            go_wp2_with fail
            go_meet
            exact ⟨rfl, rfl⟩
        case rest =>
          as_aux_lemma =>
            obtain ⟨rfl, rfl⟩ := hcut
            obtain ⟨wq, rfl⟩ : ∃ W, W = wc := ⟨wc, rfl⟩
            have HK : Hid (hs.length ≤ i ∧ hs.length = L ∧ i < 60 ∧ 8 * cg ≤ m) := ⟨HX.out.2.2.1, HX.out.2.2.2, by omega, by
              obtain ⟨T, hO, -⟩ := HX.out.2.1.ex
              obtain ⟨hd, lk, own, mc, hS, -⟩ := hO.ex
              have := hS.I.cap
              rw [HX.out.2.1.nw] at this
              exact this⟩
            clear hfree v1 v2
            go_wp2_with fail
            go_loopw [19, 20] (fun av kv wr => ∃ (k : Nat) (s' : Ar), k ≤ n ∧ av = .bool (anyF ls c k) ∧ kv = .int .i64 k ∧ H2 B w wr s' g (plK n m) (.slice ha L hc) (.slice none 0 0) hs [] ∧ OnP n m i s' gn cg cl ls hs) (fun _ kv _ => 4 - (intOf kv).toNat)
            case atStart => exact ⟨0, s, by omega, rfl, rfl, HX.out.1, HX.out.2.1⟩
            case round =>
              obtain ⟨k, s1, hkn, rfl, rfl, hH, hP⟩ := hrel
              clear HX
              obtain ⟨wr, rfl⟩ : ∃ W, W = wr := ⟨wr, rfl⟩
              have hnb := HN.out
              obtain ⟨c0, c1, c2, c3, c4⟩ := hH.wk.pl
              by_cases hk : k < n
              · have hkI : (k : Int) < (n : Int) := by omega
                cases hb : anyF ls c k with
                | true =>
                  have HE : Hid (H2 B w wr s1 g (plK n m) (.slice ha L hc) (.slice none 0 0) hs [] ∧ OnP n m i s1 gn cg cl ls hs ∧ anyF ls c (k + 1) = true) := ⟨hH, hP, by simp [anyF, hb]⟩
                  clear hH hP hb
                  go_wp2_with fail
                  go_roundw
                  case rel => exact ⟨k + 1, s1, by omega, by rw [HE.out.2.2], by go_num, HE.out.1, HE.out.2.1⟩
                  case measure => simp [intOf]; omega
                | false =>
                  have kL := on_list hH hP (by omega) (k := k) (c := c) (by omega) (by omega) hk (by omega)
                  unfold Pl5.v at kL
                  have HF : Hid (anyF ls c (k + 1) = decide (0 < (ls (4 * k + c)).length)) := by
                    show anyF ls c (k + 1) = _
                    simp [anyF, hb]
                  clear hH hP hb
                  generalize ls (4 * k + c) = F at *
                  go_wp2_with fail
                  refine kL.mono ?_
                  rintro e w3 ⟨la, lc, s3, rfl, hH3, hP3⟩
                  have HE : Hid (H2 B w w3 s3 g (plK n m) (.slice ha L hc) (.slice none 0 0) hs [] ∧ OnP n m i s3 gn cg cl ls hs) := ⟨hH3.nilB, hP3⟩
                  clear hH3 hP3 kL c0 c1 c2 c3 c4
                  obtain ⟨fl, hfl⟩ : ∃ fl, F.length = fl := ⟨_, rfl⟩
                  rw [hfl] at HF ⊢
                  by_cases hpos : 0 < fl
                  · have hpI : (0 : Int) < (fl : Int) := by omega
                    have hpd : decide ((0 : Int) < (fl : Int)) = true := by simpa using hpI
                    go_wp2_with fail
                    go_roundw
                    case rel => exact ⟨k + 1, s3, by omega, by rw [HF.out, decide_eq_true hpos], by go_num, HE.out.1, HE.out.2⟩
                    case measure => simp [intOf]; omega
                  · have hpI : ¬ (0 : Int) < (fl : Int) := by omega
                    have hpd : decide ((0 : Int) < (fl : Int)) = false := by simpa using hpI
                    go_wp2_with fail
                    go_roundw
                    case rel => exact ⟨k + 1, s3, by omega, by rw [HF.out, decide_eq_false hpos], by go_num, HE.out.1, HE.out.2⟩
                    case measure => simp [intOf]; omega
              · have hkI : ¬ (k : Int) < (n : Int) := by omega
                obtain ⟨A, hA⟩ : ∃ A, anyF ls c k = A := ⟨_, rfl⟩
                have HA : Hid (A = true ↔ ∃ j, j < n ∧ ls (4 * j + c) ≠ []) := by
                  rw [← hA, show k = n by omega]
                  exact anyF_iff n
                rw [hA]
                clear hA
                have hwn2 := hwn
                have kL := on_list hH hP (by omega) (k := who) (c := c) (by omega) (by omega) hwn (by omega)
                have kA := fun wx s' v xs (hx : H2 B w wx s' g (plK n m) (.slice ha L hc) v hs xs) (hp : OnP n m i s' gn cg cl ls hs) => on_new (who := who) (c := c) hx hp (by omega) (by omega) hwn (by omega) (by omega)
                have HF0 : Hid (∀ x, x = ls (4 * who + c) → ((∃ j, j < n ∧ ls (4 * j + c) ≠ []) → True) ∧ ((∀ j, j < n → ls (4 * j + c) = []) → x = [])) := fun x hx => ⟨fun _ => trivial, fun hh => by rw [hx]; exact hh who hwn⟩
                obtain ⟨F, hF⟩ : ∃ F, F = ls (4 * who + c) := ⟨_, rfl⟩
                have HF1 : Hid ((∀ j, j < n → ls (4 * j + c) = []) → F = []) := (HF0.out F hF).2
                have HFw : Hid (ls (4 * who + c) = F) := hF.symm
                rw [← hF] at kL
                unfold Pl5.v at kL kA
                obtain ⟨fl, hfl⟩ : ∃ fl, F.length = fl := ⟨_, rfl⟩
                rw [hfl] at kL
                have HFl : Hid (F.length = fl) := hfl
                have hzb := zg_bd (show c < 4 by omega)
                have hcm := HK.out.2.2.2
                have hw1 : IntKind.i64.wrap (8 * (cg : Int) + 8 * (zg c : Int)) = 8 * (cg : Int) + 8 * (zg c : Int) := by rw [IntKind.wrap_i64]; omega
                clear hH hP hF HF0 hfl hk hkn
                go_wp2_with fail
                refine kL.mono ?_
                rintro e w4 ⟨la, lc, s4, rfl, hH4, hP4⟩
                have kA4 := kA _ _ _ _ hH4 hP4
                obtain ⟨d0, d1, d2, d3, d4⟩ := hH4.wk.pl
                clear c0 c1 c2 c3 c4 kL kA hH4 hP4
                go_wp2_with fail
                refine kA4.mono ?_
                rintro e w5 ⟨q, rfl, kX⟩
                clear d0 d1 d2 d3 d4 kA4
                go_wp2_with fail
                refine kX.mono ?_
                rintro e w6 ⟨rfl, s6, h, hH6, hen, hO⟩
                clear kX
                rcases hO with ⟨b9, gn', ls', gg, hex, ok, hh, hfst, hP6⟩ | ⟨gn', cl', gg, hno, hfit, ok, hh, hP6⟩ | ⟨hno, hfit, hh, hP6⟩
                · obtain rfl : A = true := HA.out.2 hex
                  obtain ⟨fb, hfb⟩ : ∃ fb, decide (8 * (cg : Int) + 8 * (zg c : Int) ≤ (m : Int)) = fb := ⟨_, rfl⟩
                  have HFS : Hid (∀ x l, F = x :: l → x = b9) := fun x l hx => hfst x l (HFw.out.trans hx)
                  clear hex hfst
                  have kO : ∀ wx, HTab wx → Calls Tryd.prog 17 #[.int .i64 h] wx fun e w' => e = .returned (.tuple #[.int .i64 (8 * (b9 : Int)), .int .i64 gg, .int .i64 (c : Int), .bool true]) ∧ Below wx.heap.size wx w' := fun wx hx => by rw [hh]; exact Open_nm ok wx hx
                  have hnb0 : (h != 0) = true := by rw [hh]; have := nm_ne ok; simpa using this
                  have kH := handleW hen
                  rw [hnb0] at kH
                  have hst : s6.st h = 1 := by
                    obtain ⟨T, hO, -⟩ := hP6.ex
                    exact hO.live (by simp)
                  have HP6 : Hid (OnP n m (i + 1) s6 gn' cg cl ls' (hs ++ [h])) := hP6
                  have HX6 : Hid (H2 B w w6 s6 g (plK n m) (.slice ha L hc) (.slice la fl lc) hs (basesF F)) := hH6
                  have HST : Hid (s6.st h = 1) := hst
                  clear hh ok hnb0 hen hst hP6 hH6
                  go_wp2_with fail
                  refine kH.mono ?_
                  rintro e w7 ⟨rfl, hb7⟩
                  have HX7 : Hid (H2 B w w7 s6 g (plK n m) (.slice ha L hc) (.slice la fl lc) hs (basesF F)) := HX6.out.below hb7
                  have kO7 := kO _ HX7.out.wk.ar.tab
                  clear hb7 kO kH HX6
                  go_wp2_with fail
                  refine kO7.mono ?_
                  rintro e w8 ⟨rfl, hb8⟩
                  have HX8 : Hid (H2 B w w8 s6 g (plK n m) (.slice ha L hc) (.slice la fl lc) hs (basesF F)) := HX7.out.below hb8
                  have ks8 := ks c (by omega) _ HX8.out.wk.ar.tab
                  have kS8 := A9.State_any HX8.out.wk.ar h
                  rw [HST.out] at kS8
                  clear hb8 kO7 HX7
                  go_wp2_with fail
                  refine ks8.mono ?_
                  rintro e w8' ⟨rfl, rfl⟩
                  by_cases hpos : 0 < fl
                  · have hpI : (0 : Int) < (fl : Int) := by omega
                    have hpd : decide ((0 : Int) < (fl : Int)) = true := by simpa using hpI
                    have hrb := HX8.out.R.ob
                    rw [basesF_len, HFl.out] at hrb
                    obtain ⟨fr, fc, er, hfc, -⟩ := own_form hrb hpos
                    cases er
                    have hc0 : w8'.cell? ⟨fr, 0, none⟩ = some (.int .i64 (8 * (b9 : Int))) := by
                      refine own_cell hrb (j := 0) ?_
                      cases hFF : F with
                      | nil => have := HFl.out; rw [hFF] at this; simp at this; omega
                      | cons x l => rw [HFS.out x l hFF]; rfl
                    clear hrb hfc
                    go_wp2_with fail
                    refine kS8.mono ?_
                    rintro e w8 ⟨rfl, rfl⟩
                    go_wp2_with (refine list_app2 rfl _ _ rfl (HX8.out.alloc _) rfl rfl (src_one _ _) (by have := HK.out; simp; omega) ?_; intro va w9 hY9)
                    have HE : Hid (OnR B w g n m (i + 1) cg va w9) := ⟨s6, _, _, _, _, hY9.nilB, HP6.out, by have := HK.out; simp; omega⟩
                    clear hY9
                    go_wp2_with fail
                    go_roundw
                    case rel => exact ⟨i + 1, cg, by omega, by omega, rfl, by go_num, HE.out⟩
                    case measure => simp [intOf]; omega
                  · have hpI : ¬ (0 : Int) < (fl : Int) := by omega
                    have hpd : decide ((0 : Int) < (fl : Int)) = false := by simpa using hpI
                    go_wp2_with fail
                    refine kS8.mono ?_
                    rintro e w8 ⟨rfl, rfl⟩
                    go_wp2_with (refine list_app2 rfl _ _ rfl (HX8.out.alloc _) rfl rfl (src_one _ _) (by have := HK.out; simp; omega) ?_; intro va w9 hY9)
                    have HE : Hid (OnR B w g n m (i + 1) cg va w9) := ⟨s6, _, _, _, _, hY9.nilB, HP6.out, by have := HK.out; simp; omega⟩
                    clear hY9
                    go_wp2_with fail
                    go_roundw
                    case rel => exact ⟨i + 1, cg, by omega, by omega, rfl, by go_num, HE.out⟩
                    case measure => simp [intOf]; omega
                · obtain rfl : A = false := by
                    cases A with
                    | false => rfl
                    | true =>
                      obtain ⟨j, hj, hne⟩ := HA.out.1 rfl
                      exact absurd (hno j hj) hne
                  obtain rfl : fl = 0 := by
                    have h1 := HFl.out
                    rw [HF1.out hno] at h1
                    exact h1.symm
                  have hfi : 8 * (cg : Int) + 8 * (zg c : Int) ≤ (m : Int) := by omega
                  clear hno hfit
                  have kO : ∀ wx, HTab wx → Calls Tryd.prog 17 #[.int .i64 h] wx fun e w' => e = .returned (.tuple #[.int .i64 (8 * (cg : Int)), .int .i64 gg, .int .i64 (c : Int), .bool true]) ∧ Below wx.heap.size wx w' := fun wx hx => by rw [hh]; exact Open_nm ok wx hx
                  have hnb0 : (h != 0) = true := by rw [hh]; have := nm_ne ok; simpa using this
                  have kH := handleW hen
                  rw [hnb0] at kH
                  have hst : s6.st h = 1 := by
                    obtain ⟨T, hO, -⟩ := hP6.ex
                    exact hO.live (by simp)
                  have HP6 : Hid (OnP n m (i + 1) s6 gn' (cg + zg c) cl' ls (hs ++ [h])) := hP6
                  have HX6 : Hid (H2 B w w6 s6 g (plK n m) (.slice ha L hc) (.slice la 0 lc) hs (basesF F)) := hH6
                  have HST : Hid (s6.st h = 1) := hst
                  clear hh ok hnb0 hen hst hP6 hH6
                  go_wp2_with fail
                  refine kH.mono ?_
                  rintro e w7 ⟨rfl, hb7⟩
                  have HX7 : Hid (H2 B w w7 s6 g (plK n m) (.slice ha L hc) (.slice la 0 lc) hs (basesF F)) := HX6.out.below hb7
                  have kO7 := kO _ HX7.out.wk.ar.tab
                  clear hb7 kO kH HX6
                  go_wp2_with fail
                  refine kO7.mono ?_
                  rintro e w8 ⟨rfl, hb8⟩
                  have HX8 : Hid (H2 B w w8 s6 g (plK n m) (.slice ha L hc) (.slice la 0 lc) hs (basesF F)) := HX7.out.below hb8
                  have ks8 := ks c (by omega) _ HX8.out.wk.ar.tab
                  have kS8 := A9.State_any HX8.out.wk.ar h
                  rw [HST.out] at kS8
                  clear hb8 kO7 HX7
                  go_wp2_with fail
                  refine ks8.mono ?_
                  rintro e w8' ⟨rfl, rfl⟩
                  go_wp2_with fail
                  refine kS8.mono ?_
                  rintro e w8 ⟨rfl, rfl⟩
                  go_wp2_with fail
                  refine ks8.mono ?_
                  rintro e w8 ⟨rfl, rfl⟩
                  go_wp2_with (refine list_app2 rfl _ _ rfl (HX8.out.alloc _) rfl rfl (src_one _ _) (by have := HK.out; simp; omega) ?_; intro va w9 hY9)
                  have HE : Hid (OnR B w g n m (i + 1) (cg + zg c) va w9) := ⟨s6, _, _, _, _, hY9.nilB, HP6.out, by have := HK.out; simp; omega⟩
                  clear hY9
                  go_wp2_with fail
                  go_roundw
                  case rel => exact ⟨i + 1, (cg + zg c), by omega, by omega, by first | rfl | go_num | (congr 1; omega), by go_num, HE.out⟩
                  case measure => simp [intOf]; omega
                · obtain rfl : A = false := by
                    cases A with
                    | false => rfl
                    | true =>
                      obtain ⟨j, hj, hne⟩ := HA.out.1 rfl
                      exact absurd (hno j hj) hne
                  subst hh
                  have hfi : ¬ 8 * (cg : Int) + 8 * (zg c : Int) ≤ (m : Int) := by omega
                  have hfd : decide (8 * (cg : Int) + 8 * (zg c : Int) ≤ (m : Int)) = false := by simpa using hfi
                  have kH := handleW hen
                  rw [show ((0 : Int) != 0) = false from rfl] at kH
                  have HX6 : Hid (H2 B w w6 s6 g (plK n m) (.slice ha L hc) (.slice la fl lc) hs (basesF F) ∧ OnP n m (i + 1) s6 gn cg cl ls hs) := ⟨hH6, hP6⟩
                  clear hno hfit hen hH6 hP6
                  go_wp2_with fail
                  refine kH.mono ?_
                  rintro e w7 ⟨rfl, hb7⟩
                  have HX7 : Hid (H2 B w w7 s6 g (plK n m) (.slice ha L hc) (.slice la fl lc) hs (basesF F)) := HX6.out.1.below hb7
                  have kO7 := Open_0 _ HX7.out.wk.ar.tab
                  clear hb7 kH
                  go_wp2_with fail
                  refine kO7.mono ?_
                  rintro e w8 ⟨rfl, hb8⟩
                  have HX8 : Hid (H2 B w w8 s6 g (plK n m) (.slice ha L hc) (.slice la fl lc) hs (basesF F)) := HX7.out.below hb8
                  have ks8 := ks c (by omega) _ HX8.out.wk.ar.tab
                  clear hb8 kO7 HX7
                  go_wp2_with fail
                  refine ks8.mono ?_
                  rintro e w8' ⟨rfl, rfl⟩
                  have HE : Hid (OnR B w g n m (i + 1) cg (.slice ha L hc) w8') := ⟨s6, _, _, _, _, HX8.out.nilB, HX6.out.2, by have := HK.out; omega⟩
                  clear HX8
                  go_wp2_with fail
                  go_roundw
                  case rel => exact ⟨i + 1, cg, by omega, by omega, rfl, by go_num, HE.out⟩
                  case measure => simp [intOf]; omega
    · have HE : Hid (Below w.heap.size w wq ∧ HTab wq) := ⟨hH.wk.low, hH.wk.ar.tab⟩
      have kf := A9.Fault_any hH.wk.ar
      rw [hP.bad] at kf
      have hcv := hP.ex.choose_spec.1.cv
      have kC := A9.Raw_any hH.wk.ar (plK n m).cv
      rw [show rawA s (plK n m).cv = (useA s, 8 * (cg : Int)) from hcv] at kC
      have c4 := hH.wk.pl.2.2.2.2
      have HW : Hid (Wk B w wq s g (plK n m)) := hH.wk
      have hoa := hH.R.oa
      rw [hL] at hoa
      obtain ⟨ha, hc, rfl⟩ := own_any hoa
      clear hoa hH hP hcv ks Pv
      by_cases h1 : i < len
      · have h1i : (i : Int) < (len : Int) := by omega
        have h2i : ¬ (i : Int) < 60 := by omega
        have h2d : decide ((i : Int) < 60) = false := by simpa using h2i
        go_wp2_with fail
        refine kf.mono ?_
        rintro e wq ⟨rfl, rfl⟩
        go_wp2_with fail
        refine kC.mono ?_
        rintro e w4 ⟨rfl, hA4, hF4⟩
        have hW4 := HW.out.arena hA4 hF4
        have HE4 : Hid (Below w.heap.size w w4 ∧ HTab w4) := ⟨hW4.low, hW4.ar.tab⟩
        clear hA4 hF4 hW4 kf kC c4
        go_wp2_with fail
        refine (ka _ HE4.out.2).mono ?_
        rintro e w5 ⟨rfl, hb5⟩
        go_wp2_with fail
        go_ret
        exact ⟨rfl, below_then HE4.out.1 hb5⟩
      · have h1i : ¬ (i : Int) < (len : Int) := by omega
        have h1d : decide ((i : Int) < (len : Int)) = false := by simpa using h1i
        go_wp2_with fail
        refine kf.mono ?_
        rintro e wq ⟨rfl, rfl⟩
        go_wp2_with fail
        refine kC.mono ?_
        rintro e w4 ⟨rfl, hA4, hF4⟩
        have hW4 := HW.out.arena hA4 hF4
        have HE4 : Hid (Below w.heap.size w w4 ∧ HTab w4) := ⟨hW4.low, hW4.ar.tab⟩
        clear hA4 hF4 hW4 kf kC c4
        go_wp2_with fail
        refine (ka _ HE4.out.2).mono ?_
        rintro e w5 ⟨rfl, hb5⟩
        go_wp2_with fail
        go_ret
        exact ⟨rfl, below_then HE4.out.1 hb5⟩
end Go.Proofs.YtiedoeifpmfbbaaDoor
