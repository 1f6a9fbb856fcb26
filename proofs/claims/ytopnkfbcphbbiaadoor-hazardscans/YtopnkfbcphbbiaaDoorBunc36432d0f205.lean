/-
  Helpers: A9ArN.
-/
import Derived.Test.YtopnkfbcphbbiaaDoorBun631bd1a2be4d
import Derived.Test.YtopnkfbcphbbiaaDoorBun626d9c047c0f
namespace Go.Proofs.YtopnkfbcphbbiaaDoor.A9
open Go.RowKit
open H8 (okP packV packF opA opB opC isH sizeF szT HTab)

theorem cut_any (n : Int) (w : World) : Calls Tryd.prog 43 #[.int .i64 n] w fun e w' => e = .returned (.int .i64 (cutF n)) ∧ w' = w := by
  go_enter Tryd.func43, Tryd.ntmps43
  go_wp2_with fail
  all_goals
    go_ret
    exact ⟨H8.ret_i64 (by unfold cutF; omega), rfl⟩
theorem step_make {P : Program} {ops : Array Oper} {o : Oper} {a : Act} {w : World} {K : Act → World → Prop} {Q : Exit → Act → World → Prop} {E : Prop} (hg : o.guard = none) (l c : Operand) (t : TypeId) (hop : o.op = Op.makeSlice t l c) (v : Value) (w' : World)
    (hrun : (Instr.makeSlice t (a.eval l) (a.eval c)).run P w = .ok v w') (h : K (a.put o.dst v) w') : if Region.wanted o (yielded ops a.tmps) = true then Oper.wp P o a w K Q else E := by
  have hw : Region.wanted o (yielded ops a.tmps) = true := by simp [Region.wanted, hg]
  rw [if_pos hw]
  unfold Oper.wp
  simp [execOp, hop, hrun, Result.andThen]
  exact h
theorem step_mkMap {P : Program} {ops : Array Oper} {o : Oper} {a : Act} {w : World} {K : Act → World → Prop} {Q : Exit → Act → World → Prop} {E : Prop} (hg : o.guard = none) (t : TypeId) (hop : o.op = Op.makeMap t none)
    (h : K (a.put o.dst (.map (some w.heap.size))) (w.alloc (.map #[] 0))) : if Region.wanted o (yielded ops a.tmps) = true then Oper.wp P o a w K Q else E := by
  have hw : Region.wanted o (yielded ops a.tmps) = true := by simp [Region.wanted, hg]
  rw [if_pos hw]
  unfold Oper.wp
  have hrun : (Instr.makeMap t none).run P w = .ok (.map (some w.heap.size)) (w.alloc (.map #[] 0)) := rfl
  simp [execOp, hop, hrun, Result.andThen]
  exact h
def newOb (x y : Nat) : Nat → Obj
  | 0 => .cells (madeCells #[.int .i64 0] x) 3
  | 1 => .cells (madeCells #[.int .i64 0] y) 3
  | 2 => .cells (madeCells #[.bool false] y) 4
  | 3 => .cells (madeCells #[.bool false] y) 4
  | _ => .map #[] 0
def newVal (x y : Nat) : Nat → Nat → Value
  | 0, b => .slice (some ⟨b, 0, none⟩) x x
  | 1, b => .slice (some ⟨b, 0, none⟩) y y
  | 2, b => .slice (some ⟨b, 0, none⟩) y y
  | 3, b => .slice (some ⟨b, 0, none⟩) y y
  | _, b => .map (some b)
def newI : Nat → Nat
  | 0 => 1
  | 1 => 3
  | 2 => 5
  | 3 => 7
  | 4 => 8
  | _ => 9
def newL (m : Nat → Bool) : Array Bool := #[true, m 0, true, m 1, true, m 2, true, m 3, m 4, m 5, true, false, false, false]
theorem infoI : (Tryd.prog.info? 3).map (fun i => (i.zero, i.size, i.bytes)) = some (some (.int .i64 0), 1, 8) := by kernel_rfl
theorem infoB : (Tryd.prog.info? 4).map (fun i => (i.zero, i.size, i.bytes)) = some (some (.bool false), 1, 1) := by kernel_rfl
theorem run_makeI (n : Nat) (hn : n ≤ 65536) (w : World) : (Instr.makeSlice 22 (.int .i64 (n : Int)) (.int .i64 (n : Int))).run Tryd.prog w = .ok (.slice (some ⟨w.heap.size, 0, none⟩) n n) (w.alloc (.cells (madeCells #[.int .i64 0] n) 3)) :=
  run_make_row' 22 3 _ 8 Tryd.underlying22 infoI rfl .i64 .i64 n (by omega) (by omega) w
theorem run_makeB (n : Nat) (hn : n ≤ 65536) (w : World) : (Instr.makeSlice 63 (.int .i64 (n : Int)) (.int .i64 (n : Int))).run Tryd.prog w = .ok (.slice (some ⟨w.heap.size, 0, none⟩) n n) (w.alloc (.cells (madeCells #[.bool false] n) 4)) :=
  run_make_row' 63 4 _ 1 Tryd.underlying63 infoB rfl .i64 .i64 n (by omega) (by omega) w
def oneR (a : Bool) (i : Nat) : List Nat := if a = true then [] else [i]
def newR (a0 a1 a2 a3 a4 a5 : Bool) : List Nat := oneR a0 1 ++ (oneR a1 3 ++ (oneR a2 5 ++ (oneR a3 7 ++ (oneR a4 8 ++ oneR a5 9))))
theorem one_mem {a : Bool} {i j : Nat} (h : j ∈ oneR a i) : a = false ∧ j = i := by
  unfold oneR at h
  cases a <;> simp at h
  exact ⟨rfl, h⟩
theorem ready_of {md : Region.Mode} {ops : Array Oper} (hR : ∀ a0 a1 a2 a3 a4 a5 : Bool, (a0 && (a1 && (a2 && (a3 && (a4 && a5))))) = false → Region.ready md ops #[true, a0, true, a1, true, a2, true, a3, a4, a5, true, false, false, false] = newR a0 a1 a2 a3 a4 a5) (m : Nat → Bool) (hm : leftB m 6 ≠ 0) :
    Region.ready md ops (newL m) ≠ [] ∧ ∀ j ∈ Region.ready md ops (newL m), ∃ k, k < 6 ∧ m k = false ∧ j = newI k := by
  have hf : (m 0 && (m 1 && (m 2 && (m 3 && (m 4 && m 5))))) = false := by
    cases h0 : m 0 <;> cases h1 : m 1 <;> cases h2 : m 2 <;> cases h3 : m 3 <;> cases h4 : m 4 <;> cases h5 : m 5 <;> first | rfl | (exact absurd (by simp [leftB, h0, h1, h2, h3, h4, h5]) hm)
  have e : Region.ready md ops (newL m) = newR (m 0) (m 1) (m 2) (m 3) (m 4) (m 5) := hR _ _ _ _ _ _ hf
  rw [e]
  refine ⟨fun h => ?_, fun j hj => ?_⟩
  · unfold newR oneR at h
    cases h0 : m 0 <;> cases h1 : m 1 <;> cases h2 : m 2 <;> cases h3 : m 3 <;> cases h4 : m 4 <;> cases h5 : m 5 <;> simp [h0, h1, h2, h3, h4, h5] at h hf
  · unfold newR at hj
    simp only [List.mem_append] at hj
    rcases hj with hj | hj | hj | hj | hj | hj
    · exact ⟨0, by omega, (one_mem hj).1, (one_mem hj).2⟩
    · exact ⟨1, by omega, (one_mem hj).1, (one_mem hj).2⟩
    · exact ⟨2, by omega, (one_mem hj).1, (one_mem hj).2⟩
    · exact ⟨3, by omega, (one_mem hj).1, (one_mem hj).2⟩
    · exact ⟨4, by omega, (one_mem hj).1, (one_mem hj).2⟩
    · exact ⟨5, by omega, (one_mem hj).1, (one_mem hj).2⟩
/-- what New leaves -/
def New9 (w : World) (s : Ar) (e : Ending) (w' : World) : Prop := ∃ B : Ab, e = .returned (.pointer (some ⟨B.b, 0, none⟩)) ∧ ArAt B w' s ∧ Below w.heap.size w w' ∧ ∀ k, B.has k → w.heap.size ≤ k
theorem cutF_nat (n : Int) : ∃ k : Nat, cutF n = k ∧ k ≤ 65536 ∧ (cutF n).toNat = k := ⟨(cutF n).toNat, by unfold cutF; omega, by unfold cutF; omega, rfl⟩
theorem rows_made {w : World} {b n : Nat} {z : Value} {t : TypeId} (h : w.heap[b]? = some (.cells (madeCells #[z] n) t)) : w.rowIs b t n fun _ => z := ⟨_, h, size_madeCells _ _, fun i hi => by simp [madeCells, hi, Nat.mod_one]⟩
theorem new_end (r n : Int) (fr : Bool) {x y : Nat} (hx : (new9 r n fr).nr = x) (hy : (new9 r n fr).nw = y) {w1 wx : World} (hT : HTab w1) {m : Nat → Bool} {b : Nat → Nat} (hm : ∀ k, k < 6 → m k = true) (hM : Made 6 (newOb x y) w1.drew m b wx) :
    Hid (ArAt ⟨wx.heap.size, b 0, b 1, b 2, b 3, b 4, b 5⟩ (wx.alloc (.cells #[.slice (some ⟨b 0, 0, none⟩) x x, .slice (some ⟨b 1, 0, none⟩) y y, .slice (some ⟨b 2, 0, none⟩) y y, .slice (some ⟨b 3, 0, none⟩) y y, .map (some (b 4)), .map (some (b 5)), .int .i64 0, .int .i64 0, .int .i64 0, .int .i64 0, .bool fr, .bool false, .int .i64 0] 67 (0, 0))) (new9 r n fr) ∧
      Below w1.heap.size w1 (wx.alloc (.cells #[.slice (some ⟨b 0, 0, none⟩) x x, .slice (some ⟨b 1, 0, none⟩) y y, .slice (some ⟨b 2, 0, none⟩) y y, .slice (some ⟨b 3, 0, none⟩) y y, .map (some (b 4)), .map (some (b 5)), .int .i64 0, .int .i64 0, .int .i64 0, .int .i64 0, .bool fr, .bool false, .int .i64 0] 67 (0, 0))) ∧
      ∀ k, (Ab.mk wx.heap.size (b 0) (b 1) (b 2) (b 3) (b 4) (b 5)).has k → w1.heap.size ≤ k) := by
  have hl : Below w1.heap.size w1 wx := ⟨hM.low.os, hM.low.tape, hM.low.output, hM.low.size, hM.low.block⟩
  have ha : ∀ k, k < 6 → wx.heap[b k]? = some (newOb x y k) ∧ w1.heap.size ≤ b k := fun k hk => hM.at_ k hk (hm k hk)
  have hb : ∀ k, k < 6 → b k < wx.heap.size := fun k hk => (Array.getElem?_eq_some_iff.1 (ha k hk).1).1
  have hn : ∀ k l, k < 6 → l < 6 → k ≠ l → b k ≠ b l := fun k l hk hl2 => hM.two k l hk hl2 (hm k hk) (hm l hl2)
  generalize hO : (Obj.cells #[.slice (some ⟨b 0, 0, none⟩) x x, .slice (some ⟨b 1, 0, none⟩) y y, .slice (some ⟨b 2, 0, none⟩) y y, .slice (some ⟨b 3, 0, none⟩) y y, .map (some (b 4)), .map (some (b 5)), .int .i64 0, .int .i64 0, .int .i64 0, .int .i64 0, .bool fr, .bool false, .int .i64 0] 67 (0, 0)) = O
  have hk : ∀ k, k < 6 → (wx.alloc O).heap[b k]? = some (newOb x y k) := fun k hk => (Below.heap_alloc _ _ _ (hb k hk)).trans (ha k hk).1
  have hp := hT.pos
  have hlo : ∀ k, (Ab.mk wx.heap.size (b 0) (b 1) (b 2) (b 3) (b 4) (b 5)).has k → w1.heap.size ≤ k := by
    rintro k (rfl | rfl | rfl | rfl | rfl | rfl | rfl)
    · exact hl.size
    · exact (ha 0 (by omega)).2
    · exact (ha 1 (by omega)).2
    · exact (ha 2 (by omega)).2
    · exact (ha 3 (by omega)).2
    · exact (ha 4 (by omega)).2
    · exact (ha 5 (by omega)).2
  refine ⟨⟨⟨?_, ?_, ?_, ?_, ?_, ?_, ?_, ?_, ?_, fun k hk2 => by have := hlo k hk2; first | omega | exact ⟨trivial, trivial⟩⟩, Ok9.new r n fr⟩, hl.alloc hl.size _, hlo⟩
  · show (wx.alloc O).heap[wx.heap.size]? = _
    rw [(Go.MapKept.heap_alloc wx O).1, ← hO]
    unfold boxA
    rw [hx, hy]
    rfl
  · rw [hx]
    exact rows_made (hk 0 (by omega))
  · rw [hy]
    exact rows_made (hk 1 (by omega))
  · rw [hy]
    exact rows_made (hk 2 (by omega))
  · rw [hy]
    exact rows_made (hk 3 (by omega))
  · exact ⟨0, #[], 0, hk 4 (by omega), by simp, by simp, fun k => by simp [slotF, new9, lookE], Nat.le_refl _⟩
  · exact ⟨fun _ => none, 0, ⟨#[], 0, hk 5 (by omega), by simp, by simp, fun k => rfl, Nat.le_refl _⟩, fun k => rfl⟩
  · have n01 := hn 0 1 (by omega) (by omega) (by omega)
    have n02 := hn 0 2 (by omega) (by omega) (by omega)
    have n03 := hn 0 3 (by omega) (by omega) (by omega)
    have n04 := hn 0 4 (by omega) (by omega) (by omega)
    have n05 := hn 0 5 (by omega) (by omega) (by omega)
    have n12 := hn 1 2 (by omega) (by omega) (by omega)
    have n13 := hn 1 3 (by omega) (by omega) (by omega)
    have n14 := hn 1 4 (by omega) (by omega) (by omega)
    have n15 := hn 1 5 (by omega) (by omega) (by omega)
    have n23 := hn 2 3 (by omega) (by omega) (by omega)
    have n24 := hn 2 4 (by omega) (by omega) (by omega)
    have n25 := hn 2 5 (by omega) (by omega) (by omega)
    have n34 := hn 3 4 (by omega) (by omega) (by omega)
    have n35 := hn 3 5 (by omega) (by omega) (by omega)
    have n45 := hn 4 5 (by omega) (by omega) (by omega)
    have l0 := hb 0 (by omega)
    have l1 := hb 1 (by omega)
    have l2 := hb 2 (by omega)
    have l3 := hb 3 (by omega)
    have l4 := hb 4 (by omega)
    have l5 := hb 5 (by omega)
    simp only [List.nodup_cons, List.mem_cons, List.not_mem_nil, or_false, not_or, List.nodup_nil, not_false_eq_true, and_true]
    refine ⟨⟨?_, ?_, ?_, ?_, ?_, ?_⟩, ⟨?_, ?_, ?_, ?_, ?_⟩, ⟨?_, ?_, ?_, ?_⟩, ⟨?_, ?_, ?_⟩, ⟨?_, ?_⟩, ?_⟩ <;> omega
  · exact hT.below (hl.alloc hl.size _)
set_option maxRecDepth 4000 in
theorem New_any (r n : Int) (fr : Bool) (w : World) (hT : HTab w) : Calls Tryd.prog 23 #[.int .i64 r, .int .i64 n, .bool fr] w (New9 w (new9 r n fr)) := by
  have h1 := fun wx => cut_any r wx
  have h2 := fun wx => cut_any n wx
  obtain ⟨x, hx, x1, x2⟩ := cutF_nat r
  obtain ⟨y, hy, y1, y2⟩ := cutF_nat n
  rw [hx] at h1
  rw [hy] at h2
  have HS : Hid ((new9 r n fr).nr = x ∧ (new9 r n fr).nw = y) := ⟨x2, y2⟩
  clear hx hy x2 y2
  go_enter Tryd.func23, Tryd.ntmps23
  go_wp2_with fail
  refine (h1 _).mono ?_
  rintro e w1 ⟨rfl, rfl⟩
  go_wp2_with fail
  refine (h2 _).mono ?_
  rintro e w1 ⟨rfl, rfl⟩
  go_wp2_with fail
  refine wp_region_any (by kernel_rfl) ?_
  refine wpAny_take (i := 0) (v := .int .i64 x) rfl (by kernel_rfl) (by kernel_rfl) (by kernel_rfl) (fun _ _ _ h => h) (Or.inl ⟨by rfl, fun _ => by rfl⟩) ?_
  refine wpAny_take (i := 2) (v := .int .i64 y) rfl (by kernel_rfl) (by kernel_rfl) (by kernel_rfl) (fun _ _ _ h => h) (Or.inl ⟨by rfl, fun _ => by rfl⟩) ?_
  refine wpAny_take (i := 4) (v := .int .i64 y) rfl (by kernel_rfl) (by kernel_rfl) (by kernel_rfl) (fun _ _ _ h => h) (Or.inl ⟨by rfl, fun _ => by rfl⟩) ?_
  refine wpAny_take (i := 6) (v := .int .i64 y) rfl (by kernel_rfl) (by kernel_rfl) (by kernel_rfl) (fun _ _ _ h => h) (Or.inl ⟨by rfl, fun _ => by rfl⟩) ?_
  refine wpAny_take (i := 10) (v := .bool fr) rfl (by kernel_rfl) (by kernel_rfl) (by kernel_rfl) (fun _ _ _ h => h) (Or.inl ⟨by rfl, fun _ => by rfl⟩) ?_
  refine makes 6 newL (fun v => { tmps := #[.int .i64 x, .int .i64 y, .bool fr, undef, undef, undef, .pointer none, .int .i64 r, .int .i64 x, .int .i64 n, .int .i64 y, .int .i64 x, v 0, .int .i64 y, v 1, .int .i64 y, v 2, .int .i64 y, v 3, v 4, v 5, .bool fr, undef, undef], defers := [] }) newI (newVal x y) (newOb x y) w1.drew 3 ?_ ?_ ?_ ?_ 6 (fun _ => false) (fun _ => 0) (fun _ => undef) w1.drew rfl ⟨fun _ _ h => absurd h Bool.false_ne_true, fun _ _ _ _ h => absurd h Bool.false_ne_true, Below.refl _ _⟩ fun _ _ h => absurd h Bool.false_ne_true
  · intro m hm
    refine ready_of ?_ m hm
    intro a0 a1 a2 a3 a4 a5 ha
    cases a0 <;> cases a1 <;> cases a2 <;> cases a3 <;> cases a4 <;> cases a5 <;> first | exact absurd ha (by decide) | kernel_rfl
  · intro m k hk
    rcases (by omega : k = 0 ∨ k = 1 ∨ k = 2 ∨ k = 3 ∨ k = 4 ∨ k = 5) with rfl | rfl | rfl | rfl | rfl | rfl <;> rfl
  · intro k hk
    rcases (by omega : k = 0 ∨ k = 1 ∨ k = 2 ∨ k = 3 ∨ k = 4 ∨ k = 5) with rfl | rfl | rfl | rfl | rfl | rfl
    · exact ⟨_, rfl, fun v wx K h => step_make rfl _ _ _ rfl _ _ (run_makeI x x1 wx) h⟩
    · exact ⟨_, rfl, fun v wx K h => step_make rfl _ _ _ rfl _ _ (run_makeI y y1 wx) h⟩
    · exact ⟨_, rfl, fun v wx K h => step_make rfl _ _ _ rfl _ _ (run_makeB y y1 wx) h⟩
    · exact ⟨_, rfl, fun v wx K h => step_make rfl _ _ _ rfl _ _ (run_makeB y y1 wx) h⟩
    · exact ⟨_, rfl, fun v wx K h => step_mkMap rfl _ rfl h⟩
    · exact ⟨_, rfl, fun v wx K h => step_mkMap rfl _ rfl h⟩
  · intro m b v wx hm hM hv
    have e0 : v 0 = .slice (some ⟨b 0, 0, none⟩) x x := hv 0 (by omega)
    have e1 : v 1 = .slice (some ⟨b 1, 0, none⟩) y y := hv 1 (by omega)
    have e2 : v 2 = .slice (some ⟨b 2, 0, none⟩) y y := hv 2 (by omega)
    have e3 : v 3 = .slice (some ⟨b 3, 0, none⟩) y y := hv 3 (by omega)
    have e4 : v 4 = .map (some (b 4)) := hv 4 (by omega)
    have e5 : v 5 = .map (some (b 5)) := hv 5 (by omega)
    have eL : newL m = #[true, true, true, true, true, true, true, true, true, true, true, false, false, false] := by
      unfold newL
      rw [hm 0 (by omega), hm 1 (by omega), hm 2 (by omega), hm 3 (by omega), hm 4 (by omega), hm 5 (by omega)]
    rw [e0, e1, e2, e3, e4, e5, eL]
    have HN := new_end r n fr HS.out.1 HS.out.2 hT hm hM
    clear hv hM e0 e1 e2 e3 e4 e5 eL hm hT HS
    refine wpAny_ready (rs := [11]) (by kernel_rfl) (by simp) (AllReady.cons rfl (fun K' hK => ?_) AllReady.nil)
    go_simp
    refine hK _ _ ?_
    clear hK K'
    refine wpAny_ready (rs := [12]) (by kernel_rfl) (by simp) (AllReady.cons rfl (fun K' hK => ?_) AllReady.nil)
    go_simp
    refine hK _ _ ?_
    clear hK K'
    refine wpAny_ready (rs := [13]) (by kernel_rfl) (by simp) (AllReady.cons rfl (fun K' hK => ?_) AllReady.nil)
    go_simp
    refine hK _ _ ?_
    clear hK K'
    refine wpAny_done (by kernel_rfl) ?_ _
    go_wp2_with fail
    go_ret
    exact ⟨_, rfl, HN.out⟩
end Go.Proofs.YtopnkfbcphbbiaaDoor.A9
