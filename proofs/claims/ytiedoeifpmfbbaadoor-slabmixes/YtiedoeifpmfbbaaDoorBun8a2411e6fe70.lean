/-
  Helpers: Su.
-/
import Derived.Test.YtiedoeifpmfbbaaDoorBun67643e3eaafa
namespace Go.Proofs.YtiedoeifpmfbbaaDoor
open Go.RowKit
open H8 (okP sizeF HTab below_then packV packF isH opA opB opC placeI placeI_bd place_any)
open A9 (Ab ArAt ArMem FrA Ar rawA useA ptrA Ok9 okB bornS retireS retireA diedA diedS inS zN bN Left9 New9 new9 NAt cntV cntW retire_of Rw2 SrcN intsV intsV_one infoInt own_kept own_base own_cell own_form own_any isTab tab_lt)
open F0 (Pl5 FrS noT noT_new plBox plS plS_of below_next Wk tab_new upH upH_same upLs upLs_same upLs_other usedA LsW basesF basesF_len)

structure H2 (B : Ab) (W w : World) (s : Ar) (g : Nat) (p : Pl5) (va vb : Value) (xa xb : List Int) : Prop where
  wk : Wk B W w s g p
  R : Rw2 B W w va vb xa xb
  ga : ∀ r, va.ownBlock = some r → r ≠ g
  gb : ∀ r, vb.ownBlock = some r → r ≠ g
section
variable {B : Ab} {W w w' : World} {s s' : Ar} {g : Nat} {p : Pl5} {va vb : Value} {xa xb : List Int}
theorem H2.begin (h : Wk B W w s g p) (hT : HTab W) : H2 B W w s g p (.slice none 0 0) (.slice none 0 0) [] [] := ⟨h, Rw2.nil B W w h.low hT, fun r hr => by simp [Value.ownBlock] at hr, fun r hr => by simp [Value.ownBlock] at hr⟩
theorem H2.swap (h : H2 B W w s g p va vb xa xb) : H2 B W w s g p vb va xb xa := ⟨h.wk, h.R.swap, h.gb, h.ga⟩
theorem H2.arena (h : H2 B W w s g p va vb xa xb) (hA : ArAt B w' s') (hF : FrA B w w') : H2 B W w' s' g p va vb xa xb := ⟨h.wk.arena hA hF, h.R.arena h.wk.own hF, h.ga, h.gb⟩
theorem H2.below (h : H2 B W w s g p va vb xa xb) (hb : Below w.heap.size w w') : H2 B W w' s g p va vb xa xb := ⟨h.wk.below hb, h.R.below hb, h.ga, h.gb⟩
theorem H2.drew (h : H2 B W w s g p va vb xa xb) : H2 B W w.drew s g p va vb xa xb := h.below (Below.refl _ _).drew
theorem H2.alloc (h : H2 B W w s g p va vb xa xb) (o : Obj) : H2 B W (w.alloc o) s g p va vb xa xb := h.below ((Below.refl _ _).alloc (Nat.le_refl _) o)
theorem H2.nilB (h : H2 B W w s g p va vb xa xb) : H2 B W w s g p va (.slice none 0 0) xa [] :=
  ⟨h.wk, ⟨h.R.oa, World.ownsRow_nil _ _ _ _, fun r _ hr => by simp [Value.ownBlock] at hr, h.R.na, fun r hr => by simp [Value.ownBlock] at hr, h.R.low, h.R.tb⟩, h.ga, fun r hr => by simp [Value.ownBlock] at hr⟩
/-- another row takes the second's place -/
theorem H2.setB (h : H2 B W w s g p va vb xa xb) {v : Value} {xs : List Int} (hL : LsW B w w' s' v xs) : H2 B W w' s' g p va v xa xs := by
  have h2 := h.arena hL.ar hL.fr
  have hlt : ∀ r, v.ownBlock = some r → w.heap.size ≤ r := fun r hr => (hL.row.lt r hr).1
  refine ⟨h2.wk, ⟨h2.R.oa, own_base hL.row h.wk.low.size, fun r hr hv => ?_, h2.R.na, fun r hr hb => ?_, h2.R.low, h2.R.tb⟩, h2.ga, fun r hr => ?_⟩
  · have := hlt r hv
    have := (h.R.oa.lt r hr).2
    omega
  · have := hlt r hr
    have := h.wk.ar.lt hb
    omega
  · have := hlt r hr
    have := h.wk.glt
    omega
theorem H2.app (ty : TypeId) (h : H2 B W w s g p va vb xa xb) {ad : Option Addr} {len cap : Nat} {xs : List Int} (hs : SrcN w ad len xs) (hn : xa.length + xs.length ≤ 1000) :
    ∃ va' w', (Builtin.append_ #[22, 22] ty #[va, .slice ad len cap]).run Tryd.prog w = .ok va' w' ∧ H2 B W w' s g p va' vb (xa ++ xs) xb := by
  obtain ⟨va', w', hr, hA, hR⟩ := A9.appA ty h.wk.ar h.R (cap := cap) hs hn
  obtain ⟨i, hi, hz, hz1, hz2⟩ := infoInt
  obtain ⟨hl, a, rfl, hc⟩ := hs
  subst hl
  obtain ⟨v2, w2, hr2, h2, h3, -, h5⟩ := run_append_own_at (P := Tryd.prog) w W.heap.size 22 ty 3 i (.int .i64 0) 1 8 Tryd.underlying22 hi hz hz1 hz2 rfl (by decide) va xa.length (intsV xa) h.R.oa a xs.length cap (intsV xs) (by simp [intsV]) hc intsV_one (by unfold maxLen; omega) (by omega) h.R.low.size
  rw [hr] at hr2
  cases hr2
  have hgl := h.wk.glt
  refine ⟨va', w', hr, ⟨hA, hR.low, h.wk.own, (h3.block g hgl fun e => h.ga g e.symm rfl).trans h.wk.bx, h.wk.gB, h.wk.gW⟩, hR, fun r hr => ?_, h.gb⟩
  rcases h5 with h5 | h5
  · exact h.ga r (by rw [← h5]; exact hr)
  · rw [h5] at hr
    have e : w.heap.size = r := Option.some.inj hr
    omega
theorem step_app2 {ops : Array Oper} {o : Oper} {a : Act} {K : Act → World → Prop} {Q : Exit → Act → World → Prop} {E : Prop} (hgd : o.guard = none) (x y : Operand)
    (ho : o.op = .call { callee := .builtin .append, args := #[x, y], argTypes := #[22, 22] }) (h : H2 B W w s g p va vb xa xb) {ad : Option Addr} {len cap : Nat} {xs : List Int} (hx : a.eval x = va) (hy : a.eval y = .slice ad len cap) (hs : SrcN w ad len xs) (hn : xa.length + xs.length ≤ 1000)
    (hK : ∀ va' w', H2 B W w' s g p va' vb (xa ++ xs) xb → K (a.put o.dst va') w') : if Region.wanted o (yielded ops a.tmps) = true then Oper.wp Tryd.prog o a w K Q else E := by
  have hw : Region.wanted o (yielded ops a.tmps) = true := by simp [Region.wanted, hgd]
  rw [if_pos hw]
  obtain ⟨va', w', hr, h2⟩ := h.app o.type (cap := cap) hs hn
  unfold Oper.wp execOp
  simp only [ho, resolve, invoke, builtin, Sem.run_bind, Sem.run_pure, Result.andThen_ok, List.map_toArray, List.map_cons, List.map_nil, hx, hy, hr]
  exact hK va' w' h2
theorem list_app2 {ops : Array Oper} {rest : List Oper} {o : Oper} {a : Act} {Q : Exit → Act → World → Prop} (hgd : o.guard = none) (x y : Operand)
    (ho : o.op = .call { callee := .builtin .append, args := #[x, y], argTypes := #[22, 22] }) (h : H2 B W w s g p va vb xa xb) {ad : Option Addr} {len cap : Nat} {xs : List Int} (hx : a.eval x = va) (hy : a.eval y = .slice ad len cap) (hs : SrcN w ad len xs) (hn : xa.length + xs.length ≤ 1000)
    (hK : ∀ va' w', H2 B W w' s g p va' vb (xa ++ xs) xb → wpList Tryd.prog ops Q rest (a.put o.dst va') w') : wpList Tryd.prog ops Q (o :: rest) a w := by
  refine wpList_plain hgd fun K' hK' => ?_
  obtain ⟨va', w', hr, h2⟩ := h.app o.type (cap := cap) hs hn
  unfold Oper.wp execOp
  simp only [ho, resolve, invoke, builtin, Sem.run_bind, Sem.run_pure, Result.andThen_ok, List.map_toArray, List.map_cons, List.map_nil, hx, hy, hr]
  exact hK' _ _ (hK va' w' h2)
end
/-- the plain part -/
structure OnP (n m i : Nat) (s : Ar) (gn : Nat → Int) (cg : Nat) (cl : Nat → Option Nat) (ls : Nat → List Nat) (hs : List Int) : Prop where
  ex : ∃ T, On1 (4 * n) (grs m) s gn cg cl ls hs T ∧ T ≤ 3 * i
  bad : s.bad = false
  nw : s.nw = m
/-- what one that was asked for leaves -/
def OnO (n m i : Nat) (gn : Nat → Int) (cg : Nat) (cl : Nat → Option Nat) (ls : Nat → List Nat) (hs : List Int) (who c : Nat) (s' : Ar) (h : Int) : Prop :=
  (∃ b gn' ls' gg, (∃ k, k < n ∧ ls (4 * k + c) ≠ []) ∧ okP (8 * ((b : Nat) : Int)) gg c ∧ h = nmV b gg c ∧ (∀ x l, ls (4 * who + c) = x :: l → x = b) ∧ OnP n m (i + 1) s' gn' cg cl ls' (hs ++ [h])) ∨
  (∃ gn' cl' gg, (∀ k, k < n → ls (4 * k + c) = []) ∧ 8 * cg + 8 * zg c ≤ m ∧ okP (8 * (cg : Int)) gg c ∧ h = nmV cg gg c ∧ OnP n m (i + 1) s' gn' (cg + zg c) cl' ls (hs ++ [h])) ∨
  ((∀ k, k < n → ls (4 * k + c) = []) ∧ ¬ 8 * cg + 8 * zg c ≤ m ∧ h = 0 ∧ OnP n m (i + 1) s' gn cg cl ls hs)
section
variable {B : Ab} {W w w' : World} {s s' : Ar} {g n m i : Nat} {va vb : Value} {xa xb : List Int} {gn : Nat → Int} {cg : Nat} {cl : Nat → Option Nat} {ls : Nat → List Nat}
theorem on_new (h : H2 B W w s g (plK n m) va vb xa xb) (hP : OnP n m i s gn cg cl ls xa) {who c : Nat} (hn : 1 ≤ n) (hn2 : n ≤ 100) (hwho : who < n) (hc : c < 4) (hi : i ≤ 1000) :
    Calls Tryd.prog 15 #[(plK n m).v, .int .i64 (who : Int), .int .i64 (c : Int)] w fun e w' => ∃ q, e = .returned (.pointer (some ⟨q, 0, none⟩)) ∧ Calls Tryd.prog 11 #[ptrA B, ifAl q] w' fun e w2 => e = .returned (.bool true) ∧ ∃ s' h', H2 B W w2 s' g (plK n m) va vb xa xb ∧ AlEnd q w2 (plK n m) h' ∧ OnO n m i gn cg cl ls xa who c s' h' := by
  obtain ⟨T, hO, hT⟩ := hP.ex
  have hp := plK_ok (a := n) (m := m) hn hn2
  refine (newAlW h.wk (by rw [plK_wk]; omega) (by rw [plK_wk]; omega) (sizeF_pos hc)).mono fun e w1 hh => ?_
  obtain ⟨q, e1, hN⟩ := hh
  refine ⟨q, e1, (runAlW hN h.wk hp hO (by omega) (by omega) hc).mono fun e w2 hh => ?_⟩
  obtain ⟨e2, s', o, hPP⟩ := hh
  have hR := hPP.R
  have hbd := hPP.bad.trans hP.bad
  have hall : (∀ l, l ≤ n - 1 → ls (itL (4 * n) (4 * who + c) l) = []) → ∀ k, k < n → ls (4 * k + c) = [] := fun he k hk => by
    obtain ⟨l, hl, e⟩ := itL_all hc hwho hk
    rw [← e]
    exact he l hl
  rw [show 4 * n / 4 - 1 = n - 1 by omega] at hR
  refine ⟨e2, s', outH o, h.arena hPP.wk.ar hPP.fr, hPP.en, ?_⟩
  cases hR with
  | old j b r hj he hl hb ok h6 hn' =>
    refine .inl ⟨b, _, _, _, ⟨(who + j) % n, Nat.mod_lt _ (by omega), ?_⟩, ok, rfl, fun x l hx => ?_, ⟨_, h6, by omega⟩, hbd, hn'.trans hP.nw⟩
    · rw [← itL_at hc _ _ hwho, hl]
      simp
    · cases j with
      | zero =>
        have hl' : ls (4 * who + c) = b :: r := hl
        rw [hl'] at hx
        cases hx
        rfl
      | succ j =>
        have := he 0 (by omega)
        have h0 : ls (4 * who + c) = [] := this
        rw [h0] at hx
        cases hx
  | new he hf ok h6 hn' =>
    rw [hP.nw] at hf
    exact .inr (.inl ⟨_, _, _, hall he, hf, ok, rfl, ⟨_, h6, by omega⟩, hbd, hn'.trans hP.nw⟩)
  | none he hf h6 hn' =>
    rw [hP.nw] at hf
    exact .inr (.inr ⟨hall he, hf, rfl, ⟨_, h6, by omega⟩, hbd, hn'.trans hP.nw⟩)
theorem on_retire (h : H2 B W w s g (plK n m) va vb xa xb) (hP : OnP n m i s gn cg cl ls xa) {a : Int} (ha : a ∈ xa) : Calls Tryd.prog 10 #[ptrA B, .int .i64 a] w fun e w' => e = .returned (.bool true) ∧ H2 B W w' (retireS s a) g (plK n m) va vb xa xb := by
  obtain ⟨T, hO, hT⟩ := hP.ex
  have hk := A9.Retire_any h.wk.ar a
  rw [retire_of (hO.live ha)] at hk
  exact hk.mono fun e w' hh => ⟨hh.1, h.arena hh.2.1 hh.2.2⟩
theorem on_free {a : Int} (h : H2 B W w (retireS s a) g (plK n m) va vb xa xb) (hP : OnP n m i s gn cg cl ls xa) (hok : Ok9 s) {who : Nat} {l1 l2 : List Int} (ha : xa = l1 ++ a :: l2) (hn : 1 ≤ n) (hn2 : n ≤ 100) (hwho : who < n) (hi : i ≤ 1000) :
    Calls Tryd.prog 12 #[(plK n m).v, .int .i64 (who : Int), .int .i64 a] w fun e w' => ∃ q, e = .returned (.pointer (some ⟨q, 0, none⟩)) ∧ H2 B W w' (retireS s a) g (plK n m) va vb xa xb ∧ Calls Tryd.prog 11 #[ptrA B, ifFe q] w' fun e w2 => e = .returned (.bool true) ∧ ∃ s' ls', H2 B W w2 s' g (plK n m) va vb xa xb ∧ s'.st a = 0 ∧ OnP n m (i + 1) s' gn cg cl ls' (l1 ++ l2) := by
  obtain ⟨T, hO, hT⟩ := hP.ex
  have hp := plK_ok (a := n) (m := m) hn hn2
  obtain ⟨x1, x2, x3, -⟩ := hO.name hok (a := a) (by rw [ha]; simp)
  refine (newFeW (a := a) h.wk x1 x2).mono fun e w1 hh => ?_
  obtain ⟨q, e1, hN⟩ := hh
  refine ⟨q, e1, h.below hN.bel, (runFeW hN h.wk hp hO (by omega) ha (by omega)).mono fun e w2 hh => ?_⟩
  obtain ⟨e2, s', hPP⟩ := hh
  exact ⟨e2, s', _, h.arena hPP.wk.ar hPP.fr, hPP.dead, ⟨_, hPP.on, by omega⟩, hPP.bad.trans hP.bad, hPP.nw.trans hP.nw⟩
/-- a list is looked at -/
theorem on_list (h : H2 B W w s g (plK n m) va vb xa xb) (hP : OnP n m i s gn cg cl ls xa) (hm : m ≤ 4000) {k c : Nat} (hn : 1 ≤ n) (hn2 : n ≤ 100) (hk : k < n) (hc : c < 4) :
    Calls Tryd.prog 14 #[ptrA B, (plK n m).v, .int .i64 (k : Int), .int .i64 (c : Int)] w fun e w' => ∃ a cap s', e = .returned (.slice a (ls (4 * k + c)).length cap) ∧ H2 B W w' s' g (plK n m) va (.slice a (ls (4 * k + c)).length cap) xa (basesF (ls (4 * k + c))) ∧ OnP n m i s' gn cg cl ls xa := by
  obtain ⟨T, hO, hT⟩ := hP.ex
  have hp := plK_ok (a := n) (m := m) hn hn2
  refine (listO h.wk hp hO (by unfold grs; omega) (k := k) (c := c) (by omega) hc).mono fun e w' hh => ?_
  obtain ⟨a, cap, u, e1, hL, hW⟩ := hh
  exact ⟨a, cap, usedA s u, e1, h.setB hL, ⟨T, hO.used u, hT⟩, hP.bad, hP.nw⟩
end
end Go.Proofs.YtiedoeifpmfbbaaDoor
