/-
  Helpers: A9ArB, A9ArD.
-/
import Derived.Test.YtopnkfbcphbbiaaDoorBun821e415c7222
import Derived.Lib.SliceRun
namespace Go.Proofs.YtopnkfbcphbbiaaDoor.A9
open Go.RowKit
open Go.MapKept
open H8 (okP packV packF opA opB opC isH sizeF szT HTab)

section
variable {P : Program} {ops : Array Oper} {rest : List Oper} {o : Oper} {a : Act} {Q : Exit → Act → World → Prop}
/-- clear(x) -/
theorem list_clear (w : World) (hg : o.guard = none) (x : Operand) (T : TypeId) (hop : o.op = Op.call { callee := Callee.builtin Builtin.clear, args := #[x], argTypes := #[T] }) (v : Value) (hx : a.eval x = v) (w' : World) (hrun : (Builtin.clear_ #[T] o.type #[v]).run P w = .ok (.tuple #[]) w')
    (hq : wpList P ops Q rest (a.put o.dst (.tuple #[])) w') : wpList P ops Q (o :: rest) a w := by
  refine wpList_plain hg fun K' hK' => ?_
  unfold Oper.wp
  simp [execOp, hop, resolve, invoke, builtin, hx, hrun, Result.andThen]
  exact hK' _ _ hq
end
section
variable {B : Ab} {w : World} {s : Ar}
theorem Open_is {k : Int} (hk : isH k) (w : World) (hT : HTab w) : Calls Tryd.prog 63 #[.int .i64 k] w fun e w' => e = .returned (.tuple #[.int .i64 (bN k), .int .i64 (opB k), .int .i64 (opC k), .bool true]) ∧ Below w.heap.size w w' := by
  obtain ⟨ho, e⟩ := isH_parts hk
  have := H8.Open_ok ho w hT
  rw [← e, opA_bN] at this
  exact this
theorem Size_is (k : Int) (w : World) (hT : HTab w) : Calls Tryd.prog 45 #[.int .i64 (opC k)] w fun e w' => e = .returned (.int .i64 (zN k)) ∧ w' = w := by
  have := H8.Size_any (opC k) w hT
  rw [sizeF_zN] at this
  exact this
theorem Size_0 (w : World) (hT : HTab w) : Calls Tryd.prog 45 #[.int .i64 0] w fun e w' => e = .returned (.int .i64 8) ∧ w' = w := H8.Size_any 0 w hT
def clr (f : Nat → Int) (a : Nat) (n : Nat) : Nat → Int := fun p => if a ≤ p ∧ p < a + n then 0 else f p
theorem clr_next (f : Nat → Int) (a n : Nat) : clr (upN f a 0) (a + 1) n = clr f a (n + 1) := by
  funext p
  unfold clr upN
  by_cases h : p = a
  · rw [if_neg (by omega), if_pos h, if_pos (by omega)]
  · by_cases h2 : a + 1 ≤ p ∧ p < a + 1 + n
    · rw [if_pos h2, if_pos (by omega)]
    · rw [if_neg h2, if_neg h, if_neg (by omega)]
theorem ArMem.clear : ∀ (n a : Nat) (w : World) (s : Ar), ArMem B w s → ArMem B (w.setCells B.m a (List.replicate n (.int .i64 0))) { s with mem := clr s.mem a n } ∧ FrA B w (w.setCells B.m a (List.replicate n (.int .i64 0)))
  | 0, a, w, s, h => by
    have e : clr s.mem a 0 = s.mem := by
      funext p
      unfold clr
      rw [if_neg (by omega)]
    rw [e]
    exact ⟨h, FrA.refl _ _⟩
  | n + 1, a, w, s, h => by
    have h2 := ArMem.clear n (a + 1) _ _ (h.setMem a 0)
    simp only [clr_next] at h2
    exact ⟨h2.1, ((FrA.refl B w).setCell (.inr (.inr (.inl rfl))) _ _).trans h2.2⟩
theorem slot_put (B : Ab) (s : Ar) (k x : Int) (hx : x ≠ 0) : upF (slotF B s) k (some (.agg #[.int .i64 x, .slice (some ⟨B.m, bN k, none⟩) (zN k) (zN k)])) = slotF B { s with st := upI s.st k x } := by
  funext j
  unfold upF slotF slotV
  by_cases e : j = k
  · subst e
    simp only [upI_same, if_true]
    rw [if_neg hx]
  · simp only [upI_other _ _ e, if_neg e]
theorem gen_put {f : Int → Option Value} {g : Int → Int} (he : ∀ k, (f k).getD (.int .i64 0) = .int .i64 (g k)) (k x : Int) : ∀ j, (upF f k (some (.int .i64 x)) j).getD (.int .i64 0) = .int .i64 (upI g k x j) := by
  intro j
  unfold upF upI
  split
  · rfl
  · exact he j
/-- what Born leaves, over letters -/
def bornL (s : Ar) (k : Int) (b z : Nat) : Ar :=
  { s with st := upI s.st k 1, gen := upI s.gen b (opB k), was := fun p => if b ≤ p ∧ p < b + z then true else s.was p, tak := fun p => if b ≤ p ∧ p < b + z then true else s.tak p,
           mem := if s.fresh = true then clr s.mem b z else s.mem, cC := wrap64 (s.cC + newC s.was b z), cL := wrap64 (s.cL + z) }
theorem born_eq (s : Ar) (k : Int) : bornS s k = bornL s k (bN k) (zN k) := by
  unfold bornS bornL
  congr 1
  cases hf : s.fresh
  · simp
  · simp only [true_and, if_true]
    rfl
theorem born_keep {s S0 : Ar} {k : Int} {b z : Nat} (hf : s.fresh = false) (h0 : S0 = s) : bornL s k b z = { carveS { S0 with st := upI S0.st k 1, gen := upI s.gen b (opB k) } b z with cL := wrap64 (S0.cL + z) } := by
  subst h0
  unfold bornL carveS
  rw [hf]
  rfl
theorem born_clear {s S0 : Ar} {k : Int} {b z : Nat} (hf : s.fresh = true) (h0 : S0 = { s with mem := clr s.mem b z }) : bornL s k b z = { carveS { S0 with st := upI S0.st k 1, gen := upI s.gen b (opB k) } b z with cL := wrap64 (S0.cL + z) } := by
  subst h0
  unfold bornL carveS
  rw [if_pos hf]
set_option maxHeartbeats 2000000 in
set_option maxRecDepth 4000 in
theorem Born_keep (h : ArAt B w s) (k : Int) (hk : okB s k) (hfr : s.fresh = false) : Calls Tryd.prog 62 #[ptrA B, .int .i64 k] w (Left9 B w (.bool true) (bornS s k)) := by
  have HK : Hid (okB s k) := hk
  obtain ⟨k1, k2, k3, k4⟩ := hk
  have hO := Open_is k1 w h.tab
  have hS := fun wx (hx : HTab wx) => Size_is k wx hx
  have z1 := zN_bd k
  have z2 := bN_bd k
  have HB : Hid (bornS s k = bornL s k (bN k) (zN k)) := born_eq s k
  generalize hb : bN k = b at *
  generalize hz : zN k = z at *
  generalize hg : opB k = g at *
  have HBd : Hid (8 ≤ z ∧ z ≤ 64) := z1
  go_enter Tryd.func62, Tryd.ntmps62
  go_wp2_with fail
  refine hO.mono ?_
  rintro e w1 ⟨rfl, hb1⟩
  have h1 := h.below hb1
  have c1 := h1.cell 1
  have c3 := h1.cell 3
  have c5 := h1.cell 5
  simp [boxA] at c1 c3 c5
  have lg := h1.genAt b
  have hC := Contains_any (w := w1) B.t b z (s.nw - b) s.tak (by omega) (fun j hj => h1.tak.cell (by omega))
  have hany : anyT s.tak b z = false := anyT_no.2 fun j hj => k4 _ ⟨by omega, by omega⟩
  rw [hany] at hC
  have d1 : decide ((s.nw : Int) < (b : Int) + z) = false := by simp; omega
  have d2 : decide (g ≤ s.gen b) = false := by simp; omega
  have hm16 := h.ok.most.1
  go_wp2_with fail
  refine (hS _ h1.tab).mono ?_
  rintro e w2 ⟨rfl, rfl⟩
  go_wp2_with fail
  refine hC.mono ?_
  rintro e w3 ⟨rfl, rfl⟩
  have cf := h1.cell 10
  simp [boxA, hfr] at cf
  have HH : Hid (ArAt B w3 s) := h1
  obtain ⟨W4, hW4⟩ : ∃ W4, W4 = w3 := ⟨_, rfl⟩
  obtain ⟨S0, hS0⟩ : ∃ S0, S0 = s := ⟨_, rfl⟩
  have M4 : ArMem B W4 S0 := by rw [hW4, hS0]; exact h1.toArMem
  have F4 : FrA B w W4 := by rw [hW4]; exact .of_below hb1
  have E1 : S0.nw = s.nw := by rw [hS0]
  have E2 : S0.gen = s.gen := by rw [hS0]
  have E3 : S0.cC = s.cC := by rw [hS0]
  have E4 := E1
  rw [born_keep hfr hS0] at HB
  subst hW4
  clear hC hany hb1 h1 hO hS k1 k3 k4 d1 d2 lg h hfr z1 hS0
  have c4 := M4.cell 4
  have cg := M4.cell 5
  simp [boxA, E4] at c4 cg
  obtain ⟨n1, hn1⟩ := M4.slm
  obtain ⟨f2, n2, hn2, he2⟩ := M4.gnm
  rw [E2] at he2
  have hzz : b + z - b = z := by omega
  have hzn : ¬ b + z = b := by have := HBd.out; omega
  have hsg := (Ab.ne M4.nd).2.2.2.2.2
  have hsb := (Ab.ne M4.nd).1.2.2.2.2.1
  have HP : Hid (∀ w5, MapI w5 B.s (upF (slotF B S0) k (some (.agg #[.int .i64 1, .slice (some ⟨B.m, b, none⟩) z z]))) (n1 + 1) → But B.s W4 w5 → ArMem B w5 { S0 with st := upI S0.st k 1 } ∧ w5.cell? ⟨B.b, 5, none⟩ = some (.map (some B.g)) ∧ MapI w5 B.g f2 n2 ∧ FrA B w w5) := fun w5 hm hbt => by
    rw [← hb, ← hz, slot_put B S0 k 1 (by decide)] at hm
    have := M4.setSlot _ hm hbt
    refine ⟨this, ?_, hn2.same (hbt.block _ (Ne.symm hsg)), F4.trans (.but hbt (.inr (.inr (.inr (.inr (.inr (.inl rfl)))))))⟩
    have c := this.cell 5
    simpa [boxA] using c
  have HQ : Hid (∀ w5 w6, ArMem B w5 { S0 with st := upI S0.st k 1 } → MapI w6 B.g (upF f2 b (some (.int .i64 g))) (n2 + 1) → But B.g w5 w6 → FrA B w w5 → ArMem B w6 { S0 with st := upI S0.st k 1, gen := upI s.gen b g } ∧ FrA B w w6) := fun w5 w6 hM hm hbt hF => by
    exact ⟨hM.setGen _ hm (gen_put he2 _ _) hbt, hF.trans (.but hbt (.inr (.inr (.inr (.inr (.inr (.inr rfl)))))))⟩
  have HC : Hid (∀ w6, ArMem B w6 { S0 with st := upI S0.st k 1, gen := upI s.gen b g } → Calls Tryd.prog 73 #[ptrA B, .int .i64 (b : Int), .int .i64 ((b : Int) + z)] w6 (CarvePost B w6 (carveS { S0 with st := upI S0.st k 1, gen := upI s.gen b g } b z))) := fun w6 hM => carve_any hM b z (by rw [show ({ S0 with st := upI S0.st k 1, gen := upI s.gen b g } : Ar).nw = s.nw from E1]; exact k2) (by rw [show ({ S0 with st := upI S0.st k 1, gen := upI s.gen b g } : Ar).nw = s.nw from E1]; exact hm16) (by rw [show ({ S0 with st := upI S0.st k 1, gen := upI s.gen b g } : Ar).cC = s.cC from E3]; exact HH.out.ok.wr)
  clear he2 M4 F4 hsg hsb E4
  clear E1 E2 E3
  go_wp2_with (first | (at_mapUpdate; refine list_put _ rfl _ _ _ _ rfl _ _ mapSlot undInt rfl k rfl (.agg #[.int .i64 1, .slice (some ⟨B.m, b, none⟩) z z]) rfl hn1 ?_; intro w5 hn5 hb5; obtain ⟨hM5, c5', hg5, hF5⟩ := HP.out w5 hn5 hb5; clear hn5 hb5 c5 c4 cg hn1) | (at_mapUpdate; refine list_put _ rfl _ _ _ _ rfl _ _ mapGen undInt rfl (b : Int) rfl (.int .i64 g) rfl hg5 ?_; intro w6 hn6 hb6; obtain ⟨hM6, hF6⟩ := HQ.out _ w6 hM5 hn6 hb6 hF5; clear hn6 hb6 hM5 hF5 hg5 c5'))
  refine Calls.mono (HC.out w6 hM6) ?_
  rintro e w7 ⟨rfl, hM7, hF7⟩
  have c7 := hM7.cell 7
  have f7 := hM7.frozen 7
  simp [boxA, carveS] at c7
  have HE : Hid (ArAt B (w7.setCell ⟨B.b, 7, none⟩ (.int .i64 (wrap64 (S0.cL + z)))) (bornS s k) ∧ FrA B w (w7.setCell ⟨B.b, 7, none⟩ (.int .i64 (wrap64 (S0.cL + z))))) := by
    have := hM7.setL (wrap64 (S0.cL + z))
    refine ⟨⟨?_, HH.out.ok.born HK.out⟩, (hF6.trans hF7).setCell (.inl rfl) _ _⟩
    rw [HB.out, hg]
    exact this
  clear hM6 hF6 hM7 hF7
  go_wp2_with fail
  go_ret
  exact ⟨rfl, HE.out⟩
set_option maxHeartbeats 2000000 in
set_option maxRecDepth 4000 in
theorem Born_fresh (h : ArAt B w s) (k : Int) (hk : okB s k) (hfr : s.fresh = true) : Calls Tryd.prog 62 #[ptrA B, .int .i64 k] w (Left9 B w (.bool true) (bornS s k)) := by
  have HK : Hid (okB s k) := hk
  obtain ⟨k1, k2, k3, k4⟩ := hk
  have hO := Open_is k1 w h.tab
  have hS := fun wx (hx : HTab wx) => Size_is k wx hx
  have z1 := zN_bd k
  have z2 := bN_bd k
  have HB : Hid (bornS s k = bornL s k (bN k) (zN k)) := born_eq s k
  generalize hb : bN k = b at *
  generalize hz : zN k = z at *
  generalize hg : opB k = g at *
  have HBd : Hid (8 ≤ z ∧ z ≤ 64) := z1
  go_enter Tryd.func62, Tryd.ntmps62
  go_wp2_with fail
  refine hO.mono ?_
  rintro e w1 ⟨rfl, hb1⟩
  have h1 := h.below hb1
  have c1 := h1.cell 1
  have c3 := h1.cell 3
  have c5 := h1.cell 5
  simp [boxA] at c1 c3 c5
  have lg := h1.genAt b
  have hC := Contains_any (w := w1) B.t b z (s.nw - b) s.tak (by omega) (fun j hj => h1.tak.cell (by omega))
  have hany : anyT s.tak b z = false := anyT_no.2 fun j hj => k4 _ ⟨by omega, by omega⟩
  rw [hany] at hC
  have d1 : decide ((s.nw : Int) < (b : Int) + z) = false := by simp; omega
  have d2 : decide (g ≤ s.gen b) = false := by simp; omega
  have hm16 := h.ok.most.1
  go_wp2_with fail
  refine (hS _ h1.tab).mono ?_
  rintro e w2 ⟨rfl, rfl⟩
  go_wp2_with fail
  refine hC.mono ?_
  rintro e w3 ⟨rfl, rfl⟩
  have cf := h1.cell 10
  simp [boxA, hfr] at cf
  have HH : Hid (ArAt B w3 s) := h1
  obtain ⟨W4, hW4⟩ : ∃ W4, W4 = w3.setCells B.m b (List.replicate z (.int .i64 0)) := ⟨_, rfl⟩
  obtain ⟨S0, hS0⟩ : ∃ S0, S0 = { s with mem := clr s.mem b z } := ⟨_, rfl⟩
  have MF := ArMem.clear z b w3 s h1.toArMem
  have M4 : ArMem B W4 S0 := by rw [hW4, hS0]; exact MF.1
  have F4 : FrA B w W4 := by rw [hW4]; exact (FrA.of_below hb1).trans MF.2
  have hclr : ∀ c, (Builtin.clear_ #[22] 0 #[.slice (some ⟨B.m, b, none⟩) z c]).run Tryd.prog w3 = .ok (.tuple #[]) W4 := fun c => by
    rw [hW4]
    exact Lib.run_clear_slice w3 22 3 0 (.int .i64 0) Tryd.underlying22 zeroI rfl rfl B.m b z c (by omega) (fun j hj => by rw [h1.mem.cell (by omega)]; rfl) (fun j _ => h1.mem.frozen _)
  have E1 : S0.nw = s.nw := by rw [hS0]
  have E2 : S0.gen = s.gen := by rw [hS0]
  have E3 : S0.cC = s.cC := by rw [hS0]
  have E4 := E1
  rw [born_clear hfr hS0] at HB
  clear hC hany hb1 h1 hO hS k1 k3 k4 d1 d2 lg h hfr z1 hS0 hW4 MF
  have c4 := M4.cell 4
  have cg := M4.cell 5
  simp [boxA, E4] at c4 cg
  obtain ⟨n1, hn1⟩ := M4.slm
  obtain ⟨f2, n2, hn2, he2⟩ := M4.gnm
  rw [E2] at he2
  have hzz : b + z - b = z := by omega
  have hzn : ¬ b + z = b := by have := HBd.out; omega
  have hsg := (Ab.ne M4.nd).2.2.2.2.2
  have hsb := (Ab.ne M4.nd).1.2.2.2.2.1
  have HP : Hid (∀ w5, MapI w5 B.s (upF (slotF B S0) k (some (.agg #[.int .i64 1, .slice (some ⟨B.m, b, none⟩) z z]))) (n1 + 1) → But B.s W4 w5 → ArMem B w5 { S0 with st := upI S0.st k 1 } ∧ w5.cell? ⟨B.b, 5, none⟩ = some (.map (some B.g)) ∧ MapI w5 B.g f2 n2 ∧ FrA B w w5) := fun w5 hm hbt => by
    rw [← hb, ← hz, slot_put B S0 k 1 (by decide)] at hm
    have := M4.setSlot _ hm hbt
    refine ⟨this, ?_, hn2.same (hbt.block _ (Ne.symm hsg)), F4.trans (.but hbt (.inr (.inr (.inr (.inr (.inr (.inl rfl)))))))⟩
    have c := this.cell 5
    simpa [boxA] using c
  have HQ : Hid (∀ w5 w6, ArMem B w5 { S0 with st := upI S0.st k 1 } → MapI w6 B.g (upF f2 b (some (.int .i64 g))) (n2 + 1) → But B.g w5 w6 → FrA B w w5 → ArMem B w6 { S0 with st := upI S0.st k 1, gen := upI s.gen b g } ∧ FrA B w w6) := fun w5 w6 hM hm hbt hF => by
    exact ⟨hM.setGen _ hm (gen_put he2 _ _) hbt, hF.trans (.but hbt (.inr (.inr (.inr (.inr (.inr (.inr rfl)))))))⟩
  have HC : Hid (∀ w6, ArMem B w6 { S0 with st := upI S0.st k 1, gen := upI s.gen b g } → Calls Tryd.prog 73 #[ptrA B, .int .i64 (b : Int), .int .i64 ((b : Int) + z)] w6 (CarvePost B w6 (carveS { S0 with st := upI S0.st k 1, gen := upI s.gen b g } b z))) := fun w6 hM => carve_any hM b z (by rw [show ({ S0 with st := upI S0.st k 1, gen := upI s.gen b g } : Ar).nw = s.nw from E1]; exact k2) (by rw [show ({ S0 with st := upI S0.st k 1, gen := upI s.gen b g } : Ar).nw = s.nw from E1]; exact hm16) (by rw [show ({ S0 with st := upI S0.st k 1, gen := upI s.gen b g } : Ar).cC = s.cC from E3]; exact HH.out.ok.wr)
  clear he2 M4 F4 hsg hsb E4
  clear E1 E2 E3
  go_wp2_with (first | (refine list_clear _ rfl _ _ rfl (.slice (some ⟨B.m, b, none⟩) (b + z - b) (b + z - b)) rfl W4 (by rw [hzz]; exact hclr _) ?_) | (at_mapUpdate; refine list_put _ rfl _ _ _ _ rfl _ _ mapSlot undInt rfl k rfl (.agg #[.int .i64 1, .slice (some ⟨B.m, b, none⟩) z z]) rfl hn1 ?_; intro w5 hn5 hb5; obtain ⟨hM5, c5', hg5, hF5⟩ := HP.out w5 hn5 hb5; clear hn5 hb5 c5 c4 cg hn1) | (at_mapUpdate; refine list_put _ rfl _ _ _ _ rfl _ _ mapGen undInt rfl (b : Int) rfl (.int .i64 g) rfl hg5 ?_; intro w6 hn6 hb6; obtain ⟨hM6, hF6⟩ := HQ.out _ w6 hM5 hn6 hb6 hF5; clear hn6 hb6 hM5 hF5 hg5 c5'))
  refine Calls.mono (HC.out w6 hM6) ?_
  rintro e w7 ⟨rfl, hM7, hF7⟩
  have c7 := hM7.cell 7
  have f7 := hM7.frozen 7
  simp [boxA, carveS] at c7
  have HE : Hid (ArAt B (w7.setCell ⟨B.b, 7, none⟩ (.int .i64 (wrap64 (S0.cL + z)))) (bornS s k) ∧ FrA B w (w7.setCell ⟨B.b, 7, none⟩ (.int .i64 (wrap64 (S0.cL + z))))) := by
    have := hM7.setL (wrap64 (S0.cL + z))
    refine ⟨⟨?_, HH.out.ok.born HK.out⟩, (hF6.trans hF7).setCell (.inl rfl) _ _⟩
    rw [HB.out, hg]
    exact this
  clear hM6 hF6 hM7 hF7
  go_wp2_with fail
  go_ret
  exact ⟨rfl, HE.out⟩
end
end Go.Proofs.YtopnkfbcphbbiaaDoor.A9
namespace Go.Proofs.YtopnkfbcphbbiaaDoor.A9
open Go.RowKit
open H8 (okP packV packF opA opB opC isH sizeF szT HTab)
section
variable {B : Ab} {w : World} {s : Ar}
theorem Born_not (h : ArAt B w s) (k : Int) (hk : ¬ isH k) : Calls Tryd.prog 62 #[ptrA B, .int .i64 k] w (Left9 B w (.bool false) s) := by
  have hO := H8.Open_no hk w h.tab
  clear hk
  go_enter Tryd.func62, Tryd.ntmps62
  go_wp2_with fail
  refine hO.mono ?_
  rintro e w1 ⟨rfl, hb1⟩
  have h1 := h.below hb1
  have hS := Size_0 w1 h1.tab
  have HE : Hid (ArAt B w1 s ∧ FrA B w w1) := ⟨h1, .of_below hb1⟩
  clear h1 h hO hb1
  go_wp2_with fail
  refine hS.mono ?_
  rintro e w2 ⟨rfl, rfl⟩
  go_wp2_with fail
  go_ret
  exact ⟨rfl, HE.out⟩
theorem Born_no (h : ArAt B w s) (k : Int) (hk : isH k) (hn : ¬ okB s k) : Calls Tryd.prog 62 #[ptrA B, .int .i64 k] w (Left9 B w (.bool false) s) := by
  have hO := Open_is hk w h.tab
  have hS := fun wx (hx : HTab wx) => Size_is k wx hx
  have z1 := zN_bd k
  have z2 := bN_bd k
  have hm16 := h.ok.most.1
  have hcase : s.nw < bN k + zN k ∨ (bN k + zN k ≤ s.nw ∧ opB k ≤ s.gen (bN k)) ∨ (bN k + zN k ≤ s.nw ∧ ¬ opB k ≤ s.gen (bN k) ∧ anyT s.tak (bN k) (zN k) = true) := by
    by_cases h1 : s.nw < bN k + zN k
    · exact .inl h1
    · by_cases h2 : opB k ≤ s.gen (bN k)
      · exact .inr (.inl ⟨by omega, h2⟩)
      · refine .inr (.inr ⟨by omega, h2, ?_⟩)
        cases h3 : anyT s.tak (bN k) (zN k) with
        | true => rfl
        | false =>
          refine absurd ⟨hk, by omega, by omega, fun p hp => ?_⟩ hn
          have := anyT_no.1 h3 (p - bN k) (by have := hp.1; have := hp.2; omega)
          rwa [show bN k + (p - bN k) = p by have := hp.1; omega] at this
  clear hn
  generalize hb : bN k = b at *
  generalize hz : zN k = z at *
  generalize hg : opB k = g at *
  go_enter Tryd.func62, Tryd.ntmps62
  go_wp2_with fail
  refine hO.mono ?_
  rintro e w1 ⟨rfl, hb1⟩
  have h1 := h.below hb1
  have c1 := h1.cell 1
  have c3 := h1.cell 3
  have c5 := h1.cell 5
  simp [boxA] at c1 c3 c5
  have lg := h1.genAt b
  have hSz := hS w1 h1.tab
  have HE : Hid (ArAt B w1 s ∧ FrA B w w1) := ⟨h1, .of_below hb1⟩
  rcases hcase with hc | ⟨hc, hc2⟩ | ⟨hc, hc2, hc3⟩
  · have d1 : decide ((s.nw : Int) < (b : Int) + z) = true := by simp; omega
    clear h1 h hO hb1 hS hc hk
    go_wp2_with fail
    refine hSz.mono ?_
    rintro e w2 ⟨rfl, rfl⟩
    go_wp2_with fail
    go_ret
    exact ⟨rfl, HE.out⟩
  · have d1 : decide ((s.nw : Int) < (b : Int) + z) = false := by simp; omega
    have d2 : decide (g ≤ s.gen b) = true := by simpa using hc2
    clear h1 h hO hb1 hS hk hc2
    go_wp2_with fail
    refine hSz.mono ?_
    rintro e w2 ⟨rfl, rfl⟩
    go_wp2_with fail
    go_ret
    exact ⟨rfl, HE.out⟩
  · have d1 : decide ((s.nw : Int) < (b : Int) + z) = false := by simp; omega
    have d2 : decide (g ≤ s.gen b) = false := by simpa using hc2
    have hC := Contains_any (w := w1) B.t b z (s.nw - b) s.tak (by omega) (fun j hj => h1.tak.cell (by omega))
    rw [hc3] at hC
    clear h1 h hO hb1 hS hk hc2 hc3
    go_wp2_with fail
    refine hSz.mono ?_
    rintro e w2 ⟨rfl, rfl⟩
    go_wp2_with fail
    refine hC.mono ?_
    rintro e w3 ⟨rfl, rfl⟩
    go_wp2_with fail
    go_ret
    exact ⟨rfl, HE.out⟩
theorem Born_any (h : ArAt B w s) (k : Int) : Calls Tryd.prog 62 #[ptrA B, .int .i64 k] w (Left9 B w (.bool (bornA s k).2) (bornA s k).1) := by
  unfold bornA
  by_cases hk : okB s k
  · rw [if_pos hk]
    cases hf : s.fresh with
    | false => exact Born_keep h k hk hf
    | true => exact Born_fresh h k hk hf
  · rw [if_neg hk]
    by_cases hi : isH k
    · exact Born_no h k hi hk
    · exact Born_not h k hi
end
end Go.Proofs.YtopnkfbcphbbiaaDoor.A9
