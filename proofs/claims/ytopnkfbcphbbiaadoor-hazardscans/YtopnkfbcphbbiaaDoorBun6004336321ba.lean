/-
  Helpers: A9ArR, A9ArQ.
-/
import Derived.Test.YtopnkfbcphbbiaaDoorBun4cf1fb75d615
import Derived.Deep.RegionLaw
namespace Go.Proofs.YtopnkfbcphbbiaaDoor.A9
open Go.RowKit
open Go.MapKept
open H8 (okP packV packF opA opB opC isH sizeF szT HTab)
section
variable {B : Ab} {w : World} {s : Ar}
theorem Retire_no (h : ArAt B w s) (k : Int) (hk : s.st k ≠ 1) : Calls Tryd.prog 29 #[ptrA B, .int .i64 k] w (Left9 B w (.bool false) s) := by
  have c4 := h.cell 4
  simp [boxA] at c4
  by_cases h0 : s.st k = 0
  · have hl := h.noSlot k h0
    have HA : Hid (∀ O, ArAt B (w.alloc O) s ∧ FrA B w (w.alloc O)) := fun O => ⟨h.alloc O, (FrA.refl _ _).alloc O⟩
    clear h hk h0
    go_enter Tryd.func29, Tryd.ntmps29
    go_wp2_with fail
    go_ret
    exact ⟨rfl, HA.out _⟩
  · have hl := h.slot k h0
    unfold slotV at hl
    have hd : (s.st k != 1) = true := by simpa using hk
    have HA : Hid (∀ O, ArAt B (w.alloc O) s ∧ FrA B w (w.alloc O)) := fun O => ⟨h.alloc O, (FrA.refl _ _).alloc O⟩
    clear h hk h0
    generalize s.st k = x at *
    go_enter Tryd.func29, Tryd.ntmps29
    go_wp2_with fail
    go_ret
    exact ⟨rfl, HA.out _⟩
theorem Retire_yes (h : ArAt B w s) (k : Int) (hk : s.st k = 1) : Calls Tryd.prog 29 #[ptrA B, .int .i64 k] w (Left9 B w (.bool true) (retireS s k)) := by
  have c4 := h.cell 4
  simp [boxA] at c4
  have hl := h.slot k (by rw [hk]; decide)
  unfold slotV at hl
  rw [hk] at hl
  have HH : Hid (ArAt B w s) := h
  clear h
  go_enter Tryd.func29, Tryd.ntmps29
  go_wp2_with fail
  have hx0 := heap_alloc_new w (.cells #[.int .i64 1, .slice (some ⟨B.m, bN k, none⟩) (zN k) (zN k)] 77 (0, 0))
  have hA := HH.out.alloc (.cells #[.int .i64 1, .slice (some ⟨B.m, bN k, none⟩) (zN k) (zN k)] 77 (0, 0))
  have hF := (FrA.refl B w).alloc (.cells #[.int .i64 1, .slice (some ⟨B.m, bN k, none⟩) (zN k) (zN k)] 77 (0, 0))
  have hnB : ¬ B.has w.heap.size := fun hh => by have := HH.out.lt hh; omega
  generalize w.alloc (.cells #[.int .i64 1, .slice (some ⟨B.m, bN k, none⟩) (zN k) (zN k)] 77 (0, 0)) = w1 at *
  generalize w.heap.size = q at *
  clear hl c4
  have c4 := hA.cell 4
  simp [boxA] at c4
  have q1 : w1.cell? ⟨q, 1, none⟩ = some (.slice (some ⟨B.m, bN k, none⟩) (zN k) (zN k)) := cell_of_row _ _ _ _ _ _ hx0
  obtain ⟨n1, hn1⟩ := hA.slm
  obtain ⟨w2, hput, hn2, hb2⟩ := hn1.drew.put (P := Tryd.prog) mapSlot undInt k (.agg #[.int .i64 2, .slice (some ⟨B.m, bN k, none⟩) (zN k) (zN k)])
  rw [slot_put B s k 2 (by decide)] at hn2
  have hM2 : ArMem B w2 { s with st := upI s.st k 2 } := hA.drew.setSlot _ hn2 hb2
  have hF2 : FrA B w w2 := hF.drew.trans (.but hb2 (.inr (.inr (.inr (.inr (.inr (.inl rfl)))))))
  have hx2 := (hb2.block q (fun e => hnB (by rw [e]; exact .inr (.inr (.inr (.inr (.inr (.inl rfl)))))))).trans hx0
  have hqb : q ≠ B.b := fun e => hnB (.inl e)
  have p7 := hM2.cell 7
  have g7 := hM2.frozen 7
  have g8 := hM2.frozen 8
  have p8 := hM2.cell 8
  simp [boxA] at p7 p8
  have q2 : w2.cell? ⟨q, 1, none⟩ = some (.slice (some ⟨B.m, bN k, none⟩) (zN k) (zN k)) := cell_of_row _ _ _ _ _ _ hx2
  have HE : Hid (ArAt B (((w2.setCell ⟨B.b, 7, none⟩ (.int .i64 (wrap64 (s.cL - zN k)))).setCell ⟨B.b, 8, none⟩ (.int .i64 (wrap64 (s.cR + zN k))))) (retireS s k) ∧ FrA B w (((w2.setCell ⟨B.b, 7, none⟩ (.int .i64 (wrap64 (s.cL - zN k)))).setCell ⟨B.b, 8, none⟩ (.int .i64 (wrap64 (s.cR + zN k)))))) :=
    ⟨⟨(hM2.setL (wrap64 (s.cL - zN k))).setR (wrap64 (s.cR + zN k)), HH.out.ok.retire (by rw [hk]; decide)⟩, (hF2.setCell (.inl rfl) _ _).setCell (.inl rfl) _ _⟩
  clear hn1 hn2 hb2 hA hx0 hF hM2 hF2 hx2 hnB hk
  generalize zN k = z at *
  go_region
  clear q1 hput c4
  go_wp2_with fail
  go_region
  go_wp2_with fail
  go_region
  go_wp2_with fail
  go_ret
  exact ⟨rfl, HE.out.1.drew.drew, HE.out.2.drew.drew⟩
theorem Retire_any (h : ArAt B w s) (k : Int) : Calls Tryd.prog 29 #[ptrA B, .int .i64 k] w (Left9 B w (.bool (retireA s k).2) (retireA s k).1) := by
  unfold retireA
  by_cases hk : s.st k = 1
  · rw [if_pos hk]
    exact Retire_yes h k hk
  · rw [if_neg hk]
    exact Retire_no h k hk
end
end Go.Proofs.YtopnkfbcphbbiaaDoor.A9
namespace Go.Proofs.YtopnkfbcphbbiaaDoor.A9
open Go.RowKit
open Go.MapKept
open H8 (okP packV packF opA opB opC isH sizeF szT HTab)
theorem step_clear {P : Program} {ops : Array Oper} {o : Oper} {a : Act} {w : World} {K : Act → World → Prop} {Q : Exit → Act → World → Prop} {E : Prop} (hg : o.guard = none) (x : Operand) (T : TypeId) (hop : o.op = Op.call { callee := Callee.builtin Builtin.clear, args := #[x], argTypes := #[T] }) (v : Value) (hx : a.eval x = v) (w' : World)
    (hrun : (Builtin.clear_ #[T] o.type #[v]).run P w = .ok (.tuple #[]) w') (h : K (a.put o.dst (.tuple #[])) w') : if Region.wanted o (yielded ops a.tmps) = true then Oper.wp P o a w K Q else E := by
  have hw : Region.wanted o (yielded ops a.tmps) = true := by simp [Region.wanted, hg]
  rw [if_pos hw]
  unfold Oper.wp
  simp [execOp, hop, resolve, invoke, builtin, hx, hrun, Result.andThen]
  exact h
theorem put_none (a : Act) (v : Value) : a.put none v = a := rfl
theorem zeroB (w : World) : (zeroValue 4).run Tryd.prog w = .ok (.bool false) w := by kernel_rfl
section
variable {B : Ab} {w : World} {s : Ar}
def clrB (f : Nat → Bool) (a : Nat) (n : Nat) : Nat → Bool := fun p => if a ≤ p ∧ p < a + n then false else f p
theorem clrB_next (f : Nat → Bool) (a n : Nat) : clrB (fun j => if j = a then false else f j) (a + 1) n = clrB f a (n + 1) := by
  funext p
  unfold clrB
  simp only
  by_cases h : p = a
  · rw [if_neg (by omega), if_pos h, if_pos (by omega)]
  · by_cases h2 : a + 1 ≤ p ∧ p < a + 1 + n
    · rw [if_pos h2, if_pos (by omega)]
    · rw [if_neg h2, if_neg h, if_neg (by omega)]
theorem ArMem.untake : ∀ (n a : Nat) (w : World) (s : Ar), ArMem B w s → ArMem B (w.setCells B.t a (List.replicate n (.bool false))) { s with tak := clrB s.tak a n } ∧ FrA B w (w.setCells B.t a (List.replicate n (.bool false)))
  | 0, a, w, s, h => by
    have e : clrB s.tak a 0 = s.tak := by
      funext p
      unfold clrB
      rw [if_neg (by omega)]
    rw [e]
    exact ⟨h, FrA.refl _ _⟩
  | n + 1, a, w, s, h => by
    have h2 := ArMem.untake n (a + 1) _ _ (h.setTak a false)
    simp only [clrB_next] at h2
    exact ⟨h2.1, ((FrA.refl B w).setCell (.inr (.inr (.inr (.inr (.inl rfl))))) _ _).trans h2.2⟩
theorem slot_del (B : Ab) (s : Ar) (k : Int) : upF (slotF B s) k none = slotF B { s with st := upI s.st k 0 } := by
  funext j
  unfold upF slotF slotV
  by_cases e : j = k
  · subst e
    simp only [upI_same, if_true]
  · simp only [upI_other _ _ e, if_neg e]
theorem Died_no (h : ArAt B w s) (k : Int) (hk : s.st k ≠ 2) : Calls Tryd.prog 66 #[ptrA B, .int .i64 k] w (Left9 B w (.bool false) s) := by
  have c4 := h.cell 4
  simp [boxA] at c4
  by_cases h0 : s.st k = 0
  · have hl := h.noSlot k h0
    have HA : Hid (∀ O, ArAt B (w.alloc O) s ∧ FrA B w (w.alloc O)) := fun O => ⟨h.alloc O, (FrA.refl _ _).alloc O⟩
    clear h hk h0
    go_enter Tryd.func66, Tryd.ntmps66
    go_wp2_with fail
    go_ret
    exact ⟨rfl, HA.out _⟩
  · have hl := h.slot k h0
    unfold slotV at hl
    have hd : (s.st k != 2) = true := by simpa using hk
    have HA : Hid (∀ O, ArAt B (w.alloc O) s ∧ FrA B w (w.alloc O)) := fun O => ⟨h.alloc O, (FrA.refl _ _).alloc O⟩
    clear h hk h0
    generalize s.st k = x at *
    go_enter Tryd.func66, Tryd.ntmps66
    go_wp2_with fail
    go_ret
    exact ⟨rfl, HA.out _⟩
theorem Died_yes (h : ArAt B w s) (k : Int) (hk : s.st k = 2) : Calls Tryd.prog 66 #[ptrA B, .int .i64 k] w (Left9 B w (.bool true) (diedS s k)) := by
  have hne : s.st k ≠ 0 := by rw [hk]; decide
  have c4 := h.cell 4
  simp [boxA] at c4
  have hl := h.slot k hne
  unfold slotV at hl
  rw [hk] at hl
  have HH : Hid (ArAt B w s) := h
  have z1 := zN_bd k
  have z3 := (h.ok.fit k hne).2.1
  have HD : Hid (diedS s k = { s with tak := clrB s.tak (bN k) (zN k), st := upI s.st k 0, cR := wrap64 (s.cR - zN k) }) := rfl
  have hO := fun wx (hx : HTab wx) => Open_is (h.ok.fit k hne).1 wx hx
  have hm16 := h.ok.most.1
  have z2 := bN_bd k
  clear h
  generalize hb : bN k = b at *
  generalize hz : zN k = z at *
  go_enter Tryd.func66, Tryd.ntmps66
  go_wp2_with fail
  have hx0 := heap_alloc_new w (.cells #[.int .i64 2, .slice (some ⟨B.m, b, none⟩) z z] 77 (0, 0))
  have hA := HH.out.alloc (.cells #[.int .i64 2, .slice (some ⟨B.m, b, none⟩) z z] 77 (0, 0))
  have hF := (FrA.refl B w).alloc (.cells #[.int .i64 2, .slice (some ⟨B.m, b, none⟩) z z] 77 (0, 0))
  have hnB : ¬ B.has w.heap.size := fun hh => by have := HH.out.lt hh; omega
  have hq1 : w.heap.size < (w.alloc (.cells #[.int .i64 2, .slice (some ⟨B.m, b, none⟩) z z] 77 (0, 0))).heap.size := by simp
  generalize w.alloc (.cells #[.int .i64 2, .slice (some ⟨B.m, b, none⟩) z z] 77 (0, 0)) = w1 at *
  generalize w.heap.size = q at *
  refine (hO w1 hA.tab).mono ?_
  rintro e w2 ⟨rfl, hb2⟩
  have hA2 := hA.below hb2
  have hF2 := hF.trans (.of_below hb2)
  have hx2 := (hb2.block q hq1).trans hx0
  clear hl c4 hx0 hF hA hO hb2 hq1
  go_wp2_with fail
  have c3 := hA2.cell 3
  simp [boxA] at c3
  have q1 : w2.cell? ⟨q, 1, none⟩ = some (.slice (some ⟨B.m, b, none⟩) z z) := cell_of_row _ _ _ _ _ _ hx2
  obtain ⟨W4, hW4⟩ : ∃ W4, W4 = w2.drew.setCells B.t b (List.replicate z (.bool false)) := ⟨_, rfl⟩
  have MU := ArMem.untake z b w2.drew s hA2.drew.toArMem
  have hclr : ∀ c, (Builtin.clear_ #[63] 0 #[.slice (some ⟨B.t, b, none⟩) z c]).run Tryd.prog w2.drew = .ok (.tuple #[]) W4 := fun c => by
    rw [hW4]
    exact Lib.run_clear_slice w2.drew 63 4 0 (.bool false) Tryd.underlying63 zeroB rfl rfl B.t b z c (by omega) (fun j hj => by rw [hA2.drew.tak.cell (by omega)]; rfl) (fun j _ => hA2.drew.tak.frozen _)
  rw [← hW4] at MU
  obtain ⟨M4, F4⟩ := MU
  have hnBt : q ≠ B.t := fun e => hnB (by rw [e]; exact .inr (.inr (.inr (.inr (.inl rfl)))))
  have hx4 := (F4.block q (lt_of_block hx2) hnB).trans hx2
  have F5 := hF2.drew.trans F4
  have e1 : b + z - b = z := by omega
  have e2 : ¬ s.nw = b := by omega
  have e3 : (b : Int) + z ≤ (s.nw : Int) := by omega
  have e4 : IntKind.i64.wrap ((b : Int) + z) = (b : Int) + z := by rw [IntKind.wrap_i64]; omega
  have e5 : ((b : Int) + z).toNat = b + z := by omega
  have e6 : 0 ≤ (b : Int) + z := by omega
  have k4 := M4.cell 4
  simp [boxA] at k4
  obtain ⟨n1, hn1⟩ := M4.slm
  have HP : Hid (∀ w5, MapI w5 B.s (upF (slotF B { s with tak := clrB s.tak b z }) k none) n1 → But B.s W4 w5 → ArMem B w5 { s with tak := clrB s.tak b z, st := upI s.st k 0 } ∧ w5.heap[q]? = some (.cells #[.int .i64 2, .slice (some ⟨B.m, b, none⟩) z z] 77 (0, 0)) ∧ FrA B w w5) := fun w5 hm hbt => by
    rw [slot_del] at hm
    exact ⟨M4.setSlot _ hm hbt, (hbt.block q fun e => hnB (by rw [e]; exact .inr (.inr (.inr (.inr (.inr (.inl rfl))))))).trans hx4, F5.trans (.but hbt (.inr (.inr (.inr (.inr (.inr (.inl rfl)))))))⟩
  clear hx2 hx4 M4 F4 F5 hA2 hF2 hW4 hm16
  go_region_law (first | (refine step_clear rfl _ _ rfl (.slice (some ⟨B.t, b, none⟩) (b + z - b) (s.nw - b)) rfl W4 (by rw [e1]; exact hclr _) ?_) | (refine step_clear rfl _ _ rfl (.slice (some ⟨B.t, b, none⟩) z (s.nw - b)) rfl W4 (hclr _) ?_))
  all_goals
    clear q1 hclr c3 e1 e2 e3 e4 e5 e6
    go_wp2_with (at_delete; refine list_del _ rfl _ _ _ _ rfl _ mapSlot undInt rfl k rfl hn1 ?_; intro w5 hn5 hb5; obtain ⟨hM5, hx5, hF5⟩ := HP.out w5 hn5 hb5; clear hn5 hb5 hn1)
    simp only [put_none]
    have p8 := hM5.cell 8
    have g8 := hM5.frozen 8
    simp [boxA] at p8
    have q2 : w5.cell? ⟨q, 1, none⟩ = some (.slice (some ⟨B.m, b, none⟩) z z) := cell_of_row _ _ _ _ _ _ hx5
    have HE : Hid (ArAt B (w5.setCell ⟨B.b, 8, none⟩ (.int .i64 (wrap64 (s.cR - z)))) (diedS s k) ∧ FrA B w (w5.setCell ⟨B.b, 8, none⟩ (.int .i64 (wrap64 (s.cR - z))))) := by
      have := hM5.setR (wrap64 (s.cR - z))
      refine ⟨⟨?_, HH.out.ok.died (by rw [hk]; decide)⟩, hF5.setCell (.inl rfl) _ _⟩
      rw [HD.out]
      exact this
    clear hM5 hF5 hx5 k4
    go_region
    go_wp2_with fail
    go_ret
    exact ⟨rfl, HE.out.1.drew, HE.out.2.drew⟩
theorem Died_any (h : ArAt B w s) (k : Int) : Calls Tryd.prog 66 #[ptrA B, .int .i64 k] w (Left9 B w (.bool (diedA s k).2) (diedA s k).1) := by
  unfold diedA
  by_cases hk : s.st k = 2
  · rw [if_pos hk]
    exact Died_yes h k hk
  · rw [if_neg hk]
    exact Died_no h k hk
end
end Go.Proofs.YtopnkfbcphbbiaaDoor.A9
