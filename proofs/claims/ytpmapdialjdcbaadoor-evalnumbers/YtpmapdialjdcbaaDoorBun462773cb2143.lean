/-
  Helpers: RxP, RxPa, RxPb, RxT.
-/
import Derived.Test.YtpmapdialjdcbaaDoorBun382075a39a16
import Derived.Test.YtpmapdialjdcbaaDoorBuncce5d02cb241
import Derived.Deep.Upon
import Derived.Deep.DeepCutAuto
import Derived.Deep.CutBlock
import Derived.Test.YtpmapdialjdcbaaDoorBun6809e554f664
import Derived.Test.YtpmapdialjdcbaaDoorBune86aa551c2cd
import Derived.Test.YtpmapdialjdcbaaDoorBun0acc1339fc08
import Derived.Test.YtpmapdialjdcbaaDoorBun34bf05cd0c81
namespace Go.Proofs.YtpmapdialjdcbaaDoor
open Go.RowKit
open C2 (In Pr SlF SlI InsAt still_of_below below_then below_alloc Still)

theorem putR_split : ∀ (A B : List Rn) (x : Rn), (∀ a ∈ A, a.key < x.key) → (∀ b, B.head? = some b → ¬ b.key < x.key) → putR (A ++ B) x = A ++ x :: B
  | [], [], x, _, _ => rfl
  | [], b :: B, x, _, h2 => by
    show putR (b :: B) x = _
    unfold putR
    rw [if_neg (h2 b rfl)]
    rfl
  | a :: A, B, x, h1, h2 => by
    show putR (a :: (A ++ B)) x = _
    unfold putR
    rw [if_pos (h1 a (by simp)), putR_split A B x (fun b hb => h1 b (by simp [hb])) h2]
    rfl
theorem putR_at {L : List Rn} {x : Rn} {k : Nat} (hk : k ≤ L.length) (h1 : ∀ j (h : j < L.length), j < k → L[j].key < x.key) (h2 : ∀ h : k < L.length, ¬ L[k].key < x.key) : putR L x = L.take k ++ x :: L.drop k := by
  have := putR_split (L.take k) (L.drop k) x (fun a ha => by
    obtain ⟨j, hj, rfl⟩ := List.getElem_of_mem ha
    rw [List.length_take] at hj
    rw [List.getElem_take]
    exact h1 j (by omega) (by omega)) (fun b hb => by
    by_cases hl : k < L.length
    · rw [List.head?_drop, List.getElem?_eq_getElem hl] at hb
      cases hb
      exact h2 hl
    · rw [List.drop_eq_nil_of_le (by omega)] at hb
      cases hb)
  rw [List.take_append_drop] at this
  exact this
theorem cellsR_at {xs : List Rn} {k : Nat} (hk : k < xs.length) (r : Nat) (hr : r < 5) : (cellsR xs)[k * 5 + r]? = (rnC xs[k])[r]? := by
  have e : xs = xs.take k ++ (xs[k] :: xs.drop (k + 1)) := by rw [← List.drop_eq_getElem_cons hk, List.take_append_drop]
  have hl : (cellsR (xs.take k)).length = k * 5 := by rw [cellsR_length, List.length_take]; congr 1; omega
  conv => lhs; rw [e, cellsR_mid]
  rw [List.getElem?_append_right (by omega), hl, show k * 5 + r - k * 5 = r by omega, List.getElem?_append_left (by simp [rnC]; omega)]
theorem slR_cells {w : World} {xs : List Rn} {g f : Nat} (h : ∀ k (hk : k < xs.length), RanAt w g (f + k * 5) xs[k]) : ∀ j u, (cellsR xs)[j]? = some u → w.cell? ((⟨g, f, none⟩ : Addr).add j) = some u := by
  intro j u hu
  have hj : j < (cellsR xs).length := (List.getElem?_eq_some_iff.1 hu).1
  rw [cellsR_length] at hj
  have hk : j / 5 < xs.length := by omega
  have e : j = j / 5 * 5 + j % 5 := by omega
  have hr : j % 5 < 5 := by omega
  rw [e, cellsR_at hk (j % 5) hr] at hu
  have hA := h (j / 5) hk
  have ea : (⟨g, f, none⟩ : Addr).add j = ⟨g, f + j / 5 * 5 + j % 5, none⟩ := by
    rw [Go.WideShapes.add_plain]
    congr 1
    omega
  rw [ea, ← hu]
  rcases (by omega : j % 5 = 0 ∨ j % 5 = 1 ∨ j % 5 = 2 ∨ j % 5 = 3 ∨ j % 5 = 4) with e | e | e | e | e <;> rw [e]
  · simpa [rnC] using hA.c0
  · simpa [rnC] using hA.c1
  · simpa [rnC] using hA.c2
  · simpa [rnC] using hA.c3
  · simpa [rnC] using hA.c4
theorem cellsR_one (xs : List Rn) : ∀ u ∈ cellsR xs, u.oneCell' = true := by
  intro u hu
  simp only [cellsR, List.mem_flatten, List.mem_map] at hu
  obtain ⟨l, ⟨x, -, rfl⟩, hu⟩ := hu
  exact rnC_one x u hu
theorem cellsR_append (xs ys : List Rn) : cellsR (xs ++ ys) = cellsR xs ++ cellsR ys := by simp [cellsR]
/-- append(v, u...) onto a row of one's own, whatever u has -/
theorem app_run (ty : TypeId) (w : World) {B : Nat} (hB : B ≤ w.heap.size) (v u : Value) (xs ys : List Rn) (hv : w.ownsRow B 60 5 v xs.length (cellsR xs)) (hu : SlR w u ys) (hn : xs.length + ys.length ≤ 1000000) :
    ∃ va vc w', (Builtin.append_ #[30, 30] ty #[v, u]).run Tryd.prog w = .ok (.slice va (xs.length + ys.length) vc) w' ∧ w'.ownsRow B 60 5 (.slice va (xs.length + ys.length) vc) (xs ++ ys).length (cellsR (xs ++ ys)) ∧ w.grownBy w' v.ownBlock := by
  obtain ⟨i0, hi, hz0, hz1', hz2⟩ := info_parts infoRan
  obtain ⟨ad, cap, rfl, hx⟩ := hu
  by_cases h0 : ys = []
  · subst h0
    have hsrc : Src Tryd.prog i0.size 30 (.slice ad ([] : List Rn).length cap) 0 [] w := by
      cases ad with
      | none => exact Src.ofNil _ Tryd.underlying30 _
      | some a => exact Src.ofSlice _ Tryd.underlying30 a 0 cap [] (by simp) (by simp) (by simp)
    have hg : w.grownBy w v.ownBlock := ⟨rfl, rfl, rfl, Nat.le_refl _, fun _ _ _ => rfl⟩
    have hrun := fun base n c hle => run_append_nothing (P := Tryd.prog) w 30 30 ty 60 i0 Tryd.underlying30 hi base n c hle _ hsrc
    rw [List.append_nil]
    rcases hv.2 with ⟨rfl, h1⟩ | ⟨g, c, cur, rfl, h1, h2, h3, -⟩
    · refine ⟨none, 0, w, ?_, ?_, hg⟩
      · have h := hrun none 0 0 (Nat.le_refl _)
        rw [h1]
        exact h
      · rw [h1]
        rw [h1] at hv
        exact hv
    · exact ⟨some ⟨g, 0, none⟩, c, w, hrun _ _ _ h3, hv, hg⟩
  · have hp : 0 < ys.length := List.length_pos_iff.2 h0
    obtain ⟨g, f, rfl, -⟩ := hx 0 hp
    have hx' : ∀ k (hk : k < ys.length), RanAt w g (f + k * 5) ys[k] := fun k hk => by
      obtain ⟨g', f', e, hA⟩ := hx k hk
      simp at e
      obtain ⟨rfl, rfl⟩ := e
      exact hA
    obtain ⟨v', w', hr, ho, hg, -, -⟩ := run_append_own_at (P := Tryd.prog) w B 30 ty 60 i0 (.agg #[.int .i64 0, .int .i64 0, .int .i64 0, .int .i64 0, .int .i64 0]) 5 40 Tryd.underlying30 hi hz0 hz1' hz2 rfl (by decide) v xs.length (cellsR xs) hv ⟨g, f, none⟩ ys.length cap (cellsR ys) (cellsR_length ys) (slR_cells hx') (cellsR_one ys) (by unfold maxLen; omega) (by omega) hB
    obtain ⟨gg, cc, rfl, -, -⟩ := ho.form (by omega)
    refine ⟨_, _, w', hr, ?_, hg⟩
    rw [List.length_append, cellsR_append]
    exact ho
theorem list_app {ops : Array Oper} {rest : List Oper} {o : Oper} {a : Act} {Q : Exit → Act → World → Prop} (w : World) (hgd : o.guard = none) (s x : Operand)
    (ho : o.op = .call { callee := .builtin .append, args := #[s, x], argTypes := #[30, 30] }) {B : Nat} (hB : B ≤ w.heap.size) (v u : Value) (xs ys : List Rn) (hs : a.eval s = v) (hx : a.eval x = u) (hv : w.ownsRow B 60 5 v xs.length (cellsR xs)) (hu : SlR w u ys) (hn : xs.length + ys.length ≤ 1000000) (n : Nat) (hl : xs.length + ys.length = n)
    (h : ∀ va vc w', w'.ownsRow B 60 5 (.slice va n vc) n (cellsR (xs ++ ys)) → w.grownBy w' v.ownBlock → wpList Tryd.prog ops Q rest (a.put o.dst (.slice va n vc)) w') : wpList Tryd.prog ops Q (o :: rest) a w :=
  wpList_plain hgd fun K hK => by
    obtain ⟨va, vc, w', hr, h2, h3⟩ := app_run o.type w hB v u xs ys hv hu hn
    unfold Oper.wp execOp
    simp only [ho, resolve, invoke, builtin, Sem.run_bind, Sem.run_pure, Result.andThen_ok, List.map_toArray, List.map_cons, List.map_nil, hs, hx, hr]
    rw [List.length_append] at h2
    subst hl
    exact hK _ _ (h va vc w' h2 h3)
theorem step_app {ops : Array Oper} {o : Oper} {a : Act} {K : Act → World → Prop} {Q : Exit → Act → World → Prop} {D : Prop} (w : World) (hgd : o.guard = none) (s x : Operand)
    (ho : o.op = .call { callee := .builtin .append, args := #[s, x], argTypes := #[30, 30] }) {B : Nat} (hB : B ≤ w.heap.size) (v u : Value) (xs ys : List Rn) (hs : a.eval s = v) (hx : a.eval x = u) (hv : w.ownsRow B 60 5 v xs.length (cellsR xs)) (hu : SlR w u ys) (hn : xs.length + ys.length ≤ 1000000) (n : Nat) (hl : xs.length + ys.length = n)
    (h : ∀ va vc w', w'.ownsRow B 60 5 (.slice va n vc) n (cellsR (xs ++ ys)) → w.grownBy w' v.ownBlock → K (a.put o.dst (.slice va n vc)) w') :
    if Region.wanted o (yielded ops a.tmps) = true then Oper.wp Tryd.prog o a w K Q else D := by
  have hw : Region.wanted o (yielded ops a.tmps) = true := by simp [Region.wanted, hgd]
  rw [if_pos hw]
  obtain ⟨va, vc, w', hr, h2, h3⟩ := app_run o.type w hB v u xs ys hv hu hn
  unfold Oper.wp execOp
  simp only [ho, resolve, invoke, builtin, Sem.run_bind, Sem.run_pure, Result.andThen_ok, List.map_toArray, List.map_cons, List.map_nil, hs, hx, hr]
  rw [List.length_append] at h2
  subst hl
  exact h va vc w' h2 h3
/-- a part of a slice of what ran -/
theorem SlR.part {w : World} {g f cap : Nat} {L : List Rn} (h : ∀ k (hk : k < L.length), RanAt w g (f + k * 5) L[k]) (i : Nat) {m : Nat} (hm : m = (L.drop i).length) : SlR w (.slice (some ⟨g, f + i * 5, none⟩) m cap) (L.drop i) := by
  subst hm
  refine ⟨_, _, rfl, fun k hk => ⟨g, f + i * 5, rfl, ?_⟩⟩
  rw [List.length_drop] at hk
  have := h (i + k) (by omega)
  rw [List.getElem_drop]
  rw [show f + i * 5 + k * 5 = f + (i + k) * 5 by omega]
  exact this
theorem SlR.first {w : World} {g f cap : Nat} {L : List Rn} (h : ∀ k (hk : k < L.length), RanAt w g (f + k * 5) L[k]) {i : Nat} (hi : i ≤ L.length) : SlR w (.slice (some ⟨g, f, none⟩) i cap) (L.take i) := by
  have e : (L.take i).length = i := by rw [List.length_take]; omega
  refine ⟨_, cap, by rw [e], fun k hk => ⟨g, f, rfl, ?_⟩⟩
  rw [List.getElem_take]
  exact h k (by omega)
end Go.Proofs.YtpmapdialjdcbaaDoor
namespace Go.Proofs.YtpmapdialjdcbaaDoor
open Go.RowKit
open C2 (In Pr SlF SlI InsAt still_of_below below_then below_alloc Still)

def PutPost (L : List Rn) (x : Rn) (w : World) (B : Nat) (e : Ending) (w' : World) : Prop := ∃ v', e = .returned v' ∧ w'.ownsRow B 60 5 v' (putR L x).length (cellsR (putR L x)) ∧ Below w.heap.size w w'
theorem Below.of_grown {w w' : World} {v : Value} {n : Nat} (h : w.grownBy w' v.ownBlock) (hv : ∀ g, v.ownBlock = some g → n ≤ g) (hn : n ≤ w.heap.size) : Below n w w' :=
  ⟨h.os, h.tape, h.output, h.size, fun k hk => h.block k (by omega) fun e => by have := hv k e.symm; omega⟩
theorem ran_new {w : World} {b : Nat} {x : Rn} {T : TypeId} {fz : Nat × Nat} (h : w.heap[b]? = some (.cells #[.int .i64 x.key, .int .i64 x.fn, .int .i64 x.arg, .int .i64 x.e.h, .int .i64 x.e.v] T fz)) : SlR w (.slice (some ⟨b, 0, none⟩) 1 1) [x] := by
  refine ⟨_, 1, rfl, fun k hk => ⟨b, 0, rfl, ?_⟩⟩
  obtain rfl : k = 0 := by simp at hk; exact hk
  constructor <;> rw [cell_of_row _ _ _ _ _ _ h] <;> rfl
/-- where the loop stands when it ends -/
structure At7 (L : List Rn) (x : Rn) (w : World) (k : Nat) (wr : World) : Prop where
  le : k ≤ L.length
  lo : ∀ j (h : j < L.length), j < k → L[j].key < x.key
  hi : ∀ h : k < L.length, ¬ L[k].key < x.key
  below : Below w.heap.size w wr
theorem put_b6 {w w3 w6 : World} {va : Option Addr} {k vc n : Nat} {o : Obj} {xs : List Value} (h : (w3.alloc o).drew.ownsRow w.heap.size 60 5 (.slice va k vc) n xs) (hg : (w3.alloc o).drew.grownBy w6 (Value.slice va k vc).ownBlock) (hle : w.heap.size ≤ w3.heap.size) : Below w.heap.size w3 w6 := by
  have h1 : Below w.heap.size w3 (w3.alloc o).drew := ((Below.refl _ _).alloc hle o).drew
  exact h1.trans (Below.of_grown hg (fun g hg => (h.lt g hg).1) (Nat.le_trans hle h1.size))
theorem put_end {L : List Rn} {x : Rn} {w w1 wr w3 w6 w7 : World} {k vc2 vc3 : Nat} {va2 va3 : Option Addr} (hA : At7 L x w1 k wr) (hbW : Below w.heap.size w w3) (hb6 : Below w.heap.size w3 w6) (h6 : w6.ownsRow w.heap.size 60 5 (.slice va2 (k + 1) vc2) (k + 1) (cellsR (L.take k ++ [x]))) (hg : w6.grownBy w7 (Value.slice va2 (k + 1) vc2).ownBlock)
    (h7 : w7.ownsRow w.heap.size 60 5 (.slice va3 (L.length + 1) vc3) (L.length + 1) (cellsR (L.take k ++ [x] ++ L.drop k))) : PutPost L x w w.heap.size (.returned (.slice va3 (L.length + 1) vc3)) w7 := by
  have hp := putR_at hA.le hA.lo hA.hi
  have e : L.take k ++ [x] ++ L.drop k = putR L x := by rw [hp, List.append_assoc]; rfl
  have hl : (putR L x).length = L.length + 1 := by rw [hp, List.length_append, List.length_cons, List.length_take, List.length_drop]; have := hA.le; omega
  have h36 := hbW.trans hb6
  refine ⟨_, rfl, by rw [hl, ← e]; exact h7, h36.trans (Below.of_grown hg (fun g hg => (h6.lt g hg).1) ?_)⟩
  have := h36.size
  omega
set_option maxHeartbeats 1000000 in
theorem put_some {L : List Rn} {g cap : Nat} (x : Rn) (w : World) {B : Nat} (hL : w.ownsRow B 60 5 (.slice (some ⟨g, 0, none⟩) L.length cap) L.length (cellsR L)) (hn : L.length ≤ 100000) (hc : L.length ≤ cap) : Calls Tryd.prog 37 #[.slice (some ⟨g, 0, none⟩) L.length cap, .agg #[.int .i64 x.key, .int .i64 x.fn, .int .i64 x.arg, .int .i64 x.e.h, .int .i64 x.e.v]] w fun e w' => PutPost L x w w.heap.size e w' := by
  have hbx := heap_alloc_new w (.cells #[.int .i64 x.key, .int .i64 x.fn, .int .i64 x.arg, .int .i64 x.e.h, .int .i64 x.e.v] 60)
  have hb1 := below_alloc (Below.refl w.heap.size w) (.cells #[.int .i64 x.key, .int .i64 x.fn, .int .i64 x.arg, .int .i64 x.e.h, .int .i64 x.e.v] 60)
  have hS := own_slR hL
  go_enter Tryd.func37, Tryd.ntmps37
  go_wp2_with fail
  have hS1 : SlR (w.alloc (.cells #[.int .i64 x.key, .int .i64 x.fn, .int .i64 x.arg, .int .i64 x.e.h, .int .i64 x.e.v] 60)) (.slice (some ⟨g, 0, none⟩) L.length cap) L := hS.still (still_of_below hb1)
  have hz1 : (w.alloc (.cells #[.int .i64 x.key, .int .i64 x.fn, .int .i64 x.arg, .int .i64 x.e.h, .int .i64 x.e.v] 60)).heap.size = w.heap.size + 1 := by simp
  generalize w.alloc (.cells #[.int .i64 x.key, .int .i64 x.fn, .int .i64 x.arg, .int .i64 x.e.h, .int .i64 x.e.v] 60) = w1 at *
  have HL : Hid (w.ownsRow B 60 5 (.slice (some ⟨g, 0, none⟩) L.length cap) L.length (cellsR L)) := hL
  clear hS hL
  go_loopw [5] (fun kv wr => ∃ k : Nat, kv = .int .i64 k ∧ k ≤ L.length ∧ (∀ j (h : j < L.length), j < k → L[j].key < x.key) ∧ Below w1.heap.size w1 wr) (fun kv _ => L.length - (intOf kv).toNat)
  case atStart => exact ⟨0, rfl, by omega, fun j h h0 => by omega, Below.refl _ _⟩
  case round =>
    obtain ⟨k, rfl, hk, hlo, hBw⟩ := hrel
    have hbr := (hBw.block w.heap.size (by omega)).trans hbx
    have k0 : wr.cell? ⟨w.heap.size, 0, none⟩ = some (.int .i64 x.key) := cell_of_row _ _ _ _ _ _ hbr
    have HBR : Hid (wr.heap[w.heap.size]? = some (.cells #[.int .i64 x.key, .int .i64 x.fn, .int .i64 x.arg, .int .i64 x.e.h, .int .i64 x.e.v] 60 (0, 0))) := hbr
    have hSr := hS1.still (still_of_below hBw)
    clear hbr
    by_cases hlt : k < L.length
    · have hlti : (k : Int) < (L.length : Int) := by omega
      obtain ⟨ad', cap', hv', hcs⟩ := id hSr
      cases hv'
      obtain ⟨g', f', hgf, q0, q1, q2, q3, q4⟩ := hcs k hlt
      cases hgf
      simp only [Nat.zero_add] at q0
      by_cases hkey : L[k].key < x.key
      · have hlo2 : ∀ j (h : j < L.length), j < k + 1 → L[j].key < x.key := fun j h h0 => by
          by_cases e : j = k
          · subst e; exact hkey
          · exact hlo j h (by omega)
        have HLO : Hid (∀ j (h : j < L.length), j < k + 1 → L[j].key < x.key) := hlo2
        clear hlo hlo2 hcs q1 q2 q3 q4
        generalize L[k].key = kk at *
        go_wp2_with fail
        go_quiet (fail)
        go_wp2_with fail
        go_roundw
        case rel => exact ⟨k + 1, by go_num, by omega, HLO.out, C2.below_drewN hBw _⟩
        case measure => simp [intOf]; omega
      · have HA : Hid (At7 L x w1 k wr) := ⟨hk, hlo, fun _ => hkey, hBw⟩
        have HS : Hid (SlR wr (.slice (some ⟨g, 0, none⟩) L.length cap) L) := hSr
        clear hlo hcs q1 q2 q3 q4 hSr hS1
        generalize L[k].key = kk at *
        have hkd : decide (kk < x.key) = false := by simpa using hkey
        clear hkey
        go_wp2_with fail
        go_quiet (fail)
        have hck : ¬ cap = k := by omega
        go_wp2_with (at_builtin; refine list_app _ rfl (.const (.slice none 0 0)) (.tmp 25) rfl (B := w.heap.size) ?c1 (.slice none 0 0) (.slice (some ⟨g, 0, none⟩) k cap) [] (L.take k) (by simp [Act.eval]) (by simp [Act.eval]) (World.ownsRow_nil _ _ _ _) ?c2 ?c3 k ?c4 ?_)
        case c1 => have := hBw.size; show w.heap.size ≤ wr.heap.size; omega
        case c2 =>
          obtain ⟨ad', cap', hv', hcs⟩ := HS.out
          cases hv'
          exact SlR.first (w := wr.drewN nq) (fun j hj => by obtain ⟨g', f', e, q⟩ := hcs j hj; cases e; exact ⟨q.c0, q.c1, q.c2, q.c3, q.c4⟩) hk
        case c3 => rw [List.length_take]; simp only [List.length_nil]; omega
        case c4 => rw [List.length_take]; simp only [List.length_nil]; omega
        intro va vc w3 hown hgrow
        have hb3 : Below wr.heap.size wr w3 := below_then (C2.below_drewN (Below.refl _ _) nq) (Below.of_grown (w := wr.drewN nq) (v := .slice none 0 0) hgrow (fun g h => by simp [Value.ownBlock] at h) (Nat.le_refl _))
        have hbr3 := (hb3.block _ (by have := hBw.size; omega)).trans HBR.out
        have x0 : w3.cell? ⟨w.heap.size, 0, none⟩ = some (.int .i64 x.key) := cell_of_row _ _ _ _ _ _ hbr3
        have x1 : w3.cell? ⟨w.heap.size, 1, none⟩ = some (.int .i64 x.fn) := cell_of_row _ _ _ _ _ _ hbr3
        have x2 : w3.cell? ⟨w.heap.size, 2, none⟩ = some (.int .i64 x.arg) := cell_of_row _ _ _ _ _ _ hbr3
        have x3 : w3.cell? ⟨w.heap.size, 3, none⟩ = some (.int .i64 x.e.h) := cell_of_row _ _ _ _ _ _ hbr3
        have x4 : w3.cell? ⟨w.heap.size, 4, none⟩ = some (.int .i64 x.e.v) := cell_of_row _ _ _ _ _ _ hbr3
        have hz3 : w.heap.size ≤ w3.heap.size := by have := hb3.size; have := hBw.size; omega
        have HK : Hid (k ≤ L.length ∧ L.length ≤ 100000 ∧ w.heap.size ≤ w3.heap.size) := ⟨hk, hn, hz3⟩
        have hbW : Below w.heap.size w w3 := below_then hb1 (below_then hBw hb3)
        have HS6 : Hid (∀ w', Below w.heap.size w w' → SlR w' (.slice (some ⟨g, k * 5, none⟩) (L.length - k) (cap - k)) (L.drop k)) := fun w' hb => by
          obtain ⟨ad', cap', hv', hcs⟩ := own_slR (own_same7 HL.out fun g hg => hb.block g (HL.out.lt g hg).2)
          cases hv'
          have := SlR.part (f := 0) (cap := cap - k) (fun j hj => by obtain ⟨g', f', e, q⟩ := hcs j hj; cases e; exact q) k (m := L.length - k) (by rw [List.length_drop])
          rw [Nat.zero_add] at this
          exact this
        have HT : Hid ((L.take k).length = k ∧ (L.drop k).length = L.length - k) := ⟨by rw [List.length_take]; omega, List.length_drop⟩
        have hown4 : (w3.alloc (.cells #[.int .i64 x.key, .int .i64 x.fn, .int .i64 x.arg, .int .i64 x.e.h, .int .i64 x.e.v] 60)).drew.ownsRow w.heap.size 60 5 (.slice va k vc) (L.take k).length (cellsR (L.take k)) := by rw [HT.out.1]; first | exact hown.alloc _ | (rw [List.take_length]; exact hown.alloc _)
        have hx4 : SlR (w3.alloc (.cells #[.int .i64 x.key, .int .i64 x.fn, .int .i64 x.arg, .int .i64 x.e.h, .int .i64 x.e.v] 60)).drew (.slice (some ⟨w3.heap.size, 0, none⟩) 1 1) [x] := ran_new (heap_alloc_new w3 _)
        clear hown hbr3 hb3 hBw hn hz3
        go_wp2_with fail
        go_region_law (first | (refine step_app _ rfl (.tmp 27) (.tmp 29) rfl (B := w.heap.size) (by have := HK.out.2.2; show w.heap.size ≤ (w3.alloc _).heap.size; simp; omega) (.slice va k vc) (.slice (some ⟨w3.heap.size, 0, none⟩) 1 1) (L.take k) [x] (by simp [Act.eval]) (by simp [Act.eval]) hown4 hx4 (by have := HK.out; have := HT.out; simp only [List.length_cons, List.length_nil]; omega) (k + 1) (by have := HT.out; simp only [List.length_cons, List.length_nil]; omega) ?_; intro va2 vc2 w6 hown6 hgrow6; have hb6 := put_b6 hown4 hgrow6 HK.out.2.2; have hS6 := HS6.out _ (hbW.trans hb6)) | (refine step_app _ rfl (.tmp 30) (.tmp 33) rfl (B := w.heap.size) (by have := hb6.size; have := HK.out.2.2; omega) (.slice va2 (k + 1) vc2) (.slice (some ⟨g, k * 5, none⟩) (L.length - k) (cap - k)) (L.take k ++ [x]) (L.drop k) (by simp [Act.eval]) (by simp [Act.eval]) (by rw [List.length_append, HT.out.1]; exact hown6) hS6 (by have := HK.out; have := HT.out; simp only [List.length_append, List.length_cons, List.length_nil]; omega) (L.length + 1) (by have := HK.out; have := HT.out; simp only [List.length_append, List.length_cons, List.length_nil]; omega) ?_; intro va3 vc3 w7 hown7 hgrow7))
        all_goals
          go_wp2_with fail
          go_ret
          exact put_end HA.out hbW hb6 hown6 hgrow7 hown7
    · obtain rfl : k = L.length := by omega
      have hnl : ¬ (L.length : Int) < (L.length : Int) := by omega
      have HA : Hid (At7 L x w1 L.length wr) := ⟨hk, hlo, fun h => absurd h hlt, hBw⟩
      have HS : Hid (SlR wr (.slice (some ⟨g, 0, none⟩) L.length cap) L) := hSr
      clear hlo hSr hS1
      go_wp2_with fail
      go_quiet (fail)
      by_cases hck : cap = L.length
      · subst hck
        go_wp2_with (at_builtin; refine list_app _ rfl (.const (.slice none 0 0)) (.tmp 25) rfl (B := w.heap.size) ?c1 (.slice none 0 0) (.slice (some ⟨g, 0, none⟩) L.length L.length) [] (L.take L.length) (by simp [Act.eval]) (by simp [Act.eval]) (World.ownsRow_nil _ _ _ _) ?c2 ?c3 L.length ?c4 ?_)
        case c1 => have := hBw.size; show w.heap.size ≤ wr.heap.size; omega
        case c2 =>
          obtain ⟨ad', cap', hv', hcs⟩ := HS.out
          cases hv'
          exact SlR.first (w := wr.drewN nq) (fun j hj => by obtain ⟨g', f', e, q⟩ := hcs j hj; cases e; exact ⟨q.c0, q.c1, q.c2, q.c3, q.c4⟩) hk
        case c3 => rw [List.length_take]; simp only [List.length_nil]; omega
        case c4 => rw [List.length_take]; simp only [List.length_nil]; omega
        intro va vc w3 hown hgrow
        have hb3 : Below wr.heap.size wr w3 := below_then (C2.below_drewN (Below.refl _ _) nq) (Below.of_grown (w := wr.drewN nq) (v := .slice none 0 0) hgrow (fun g h => by simp [Value.ownBlock] at h) (Nat.le_refl _))
        have hbr3 := (hb3.block _ (by have := hBw.size; omega)).trans HBR.out
        have x0 : w3.cell? ⟨w.heap.size, 0, none⟩ = some (.int .i64 x.key) := cell_of_row _ _ _ _ _ _ hbr3
        have x1 : w3.cell? ⟨w.heap.size, 1, none⟩ = some (.int .i64 x.fn) := cell_of_row _ _ _ _ _ _ hbr3
        have x2 : w3.cell? ⟨w.heap.size, 2, none⟩ = some (.int .i64 x.arg) := cell_of_row _ _ _ _ _ _ hbr3
        have x3 : w3.cell? ⟨w.heap.size, 3, none⟩ = some (.int .i64 x.e.h) := cell_of_row _ _ _ _ _ _ hbr3
        have x4 : w3.cell? ⟨w.heap.size, 4, none⟩ = some (.int .i64 x.e.v) := cell_of_row _ _ _ _ _ _ hbr3
        have hz3 : w.heap.size ≤ w3.heap.size := by have := hb3.size; have := hBw.size; omega
        have HK : Hid (L.length ≤ L.length ∧ L.length ≤ 100000 ∧ w.heap.size ≤ w3.heap.size) := ⟨hk, hn, hz3⟩
        have hbW : Below w.heap.size w w3 := below_then hb1 (below_then hBw hb3)
        have HS6 : Hid (∀ w', Below w.heap.size w w' → SlR w' (.slice (some ⟨g, 0, none⟩) 0 0) (L.drop L.length)) := fun w' hb => by
          rw [List.drop_eq_nil_of_le (Nat.le_refl _)]
          exact ⟨_, _, rfl, fun j hj => by simp at hj⟩
        have HT : Hid ((L.take L.length).length = L.length ∧ (L.drop L.length).length = L.length - L.length) := ⟨by rw [List.length_take]; omega, List.length_drop⟩
        have hown4 : (w3.alloc (.cells #[.int .i64 x.key, .int .i64 x.fn, .int .i64 x.arg, .int .i64 x.e.h, .int .i64 x.e.v] 60)).drew.ownsRow w.heap.size 60 5 (.slice va L.length vc) (L.take L.length).length (cellsR (L.take L.length)) := by rw [HT.out.1]; first | exact hown.alloc _ | (rw [List.take_length]; exact hown.alloc _)
        have hx4 : SlR (w3.alloc (.cells #[.int .i64 x.key, .int .i64 x.fn, .int .i64 x.arg, .int .i64 x.e.h, .int .i64 x.e.v] 60)).drew (.slice (some ⟨w3.heap.size, 0, none⟩) 1 1) [x] := ran_new (heap_alloc_new w3 _)
        clear hown hbr3 hb3 hBw hn hz3
        go_wp2_with fail
        go_region_law (first | (refine step_app _ rfl (.tmp 27) (.tmp 29) rfl (B := w.heap.size) (by have := HK.out.2.2; show w.heap.size ≤ (w3.alloc _).heap.size; simp; omega) (.slice va L.length vc) (.slice (some ⟨w3.heap.size, 0, none⟩) 1 1) (L.take L.length) [x] (by simp [Act.eval]) (by simp [Act.eval]) hown4 hx4 (by have := HK.out; have := HT.out; simp only [List.length_cons, List.length_nil]; omega) (L.length + 1) (by have := HT.out; simp only [List.length_cons, List.length_nil]; omega) ?_; intro va2 vc2 w6 hown6 hgrow6; have hb6 := put_b6 hown4 hgrow6 HK.out.2.2; have hS6 := HS6.out _ (hbW.trans hb6)) | (refine step_app _ rfl (.tmp 30) (.tmp 33) rfl (B := w.heap.size) (by have := hb6.size; have := HK.out.2.2; omega) (.slice va2 (L.length + 1) vc2) (.slice (some ⟨g, 0, none⟩) 0 0) (L.take L.length ++ [x]) (L.drop L.length) (by simp [Act.eval]) (by simp [Act.eval]) (by rw [List.length_append, HT.out.1]; exact hown6) hS6 (by have := HK.out; have := HT.out; simp only [List.length_append, List.length_cons, List.length_nil]; omega) (L.length + 1) (by have := HK.out; have := HT.out; simp only [List.length_append, List.length_cons, List.length_nil]; omega) ?_; intro va3 vc3 w7 hown7 hgrow7))
        all_goals
          go_wp2_with fail
          go_ret
          exact put_end HA.out hbW hb6 hown6 hgrow7 hown7
      · go_wp2_with (at_builtin; refine list_app _ rfl (.const (.slice none 0 0)) (.tmp 25) rfl (B := w.heap.size) ?c1 (.slice none 0 0) (.slice (some ⟨g, 0, none⟩) L.length cap) [] (L.take L.length) (by simp [Act.eval]) (by simp [Act.eval]) (World.ownsRow_nil _ _ _ _) ?c2 ?c3 L.length ?c4 ?_)
        case c1 => have := hBw.size; show w.heap.size ≤ wr.heap.size; omega
        case c2 =>
          obtain ⟨ad', cap', hv', hcs⟩ := HS.out
          cases hv'
          exact SlR.first (w := wr.drewN nq) (fun j hj => by obtain ⟨g', f', e, q⟩ := hcs j hj; cases e; exact ⟨q.c0, q.c1, q.c2, q.c3, q.c4⟩) hk
        case c3 => rw [List.length_take]; simp only [List.length_nil]; omega
        case c4 => rw [List.length_take]; simp only [List.length_nil]; omega
        intro va vc w3 hown hgrow
        have hb3 : Below wr.heap.size wr w3 := below_then (C2.below_drewN (Below.refl _ _) nq) (Below.of_grown (w := wr.drewN nq) (v := .slice none 0 0) hgrow (fun g h => by simp [Value.ownBlock] at h) (Nat.le_refl _))
        have hbr3 := (hb3.block _ (by have := hBw.size; omega)).trans HBR.out
        have x0 : w3.cell? ⟨w.heap.size, 0, none⟩ = some (.int .i64 x.key) := cell_of_row _ _ _ _ _ _ hbr3
        have x1 : w3.cell? ⟨w.heap.size, 1, none⟩ = some (.int .i64 x.fn) := cell_of_row _ _ _ _ _ _ hbr3
        have x2 : w3.cell? ⟨w.heap.size, 2, none⟩ = some (.int .i64 x.arg) := cell_of_row _ _ _ _ _ _ hbr3
        have x3 : w3.cell? ⟨w.heap.size, 3, none⟩ = some (.int .i64 x.e.h) := cell_of_row _ _ _ _ _ _ hbr3
        have x4 : w3.cell? ⟨w.heap.size, 4, none⟩ = some (.int .i64 x.e.v) := cell_of_row _ _ _ _ _ _ hbr3
        have hz3 : w.heap.size ≤ w3.heap.size := by have := hb3.size; have := hBw.size; omega
        have HK : Hid (L.length ≤ L.length ∧ L.length ≤ 100000 ∧ w.heap.size ≤ w3.heap.size) := ⟨hk, hn, hz3⟩
        have hbW : Below w.heap.size w w3 := below_then hb1 (below_then hBw hb3)
        have HS6 : Hid (∀ w', Below w.heap.size w w' → SlR w' (.slice (some ⟨g, L.length * 5, none⟩) 0 (cap - L.length)) (L.drop L.length)) := fun w' hb => by
          rw [List.drop_eq_nil_of_le (Nat.le_refl _)]
          exact ⟨_, _, rfl, fun j hj => by simp at hj⟩
        have HT : Hid ((L.take L.length).length = L.length ∧ (L.drop L.length).length = L.length - L.length) := ⟨by rw [List.length_take]; omega, List.length_drop⟩
        have hown4 : (w3.alloc (.cells #[.int .i64 x.key, .int .i64 x.fn, .int .i64 x.arg, .int .i64 x.e.h, .int .i64 x.e.v] 60)).drew.ownsRow w.heap.size 60 5 (.slice va L.length vc) (L.take L.length).length (cellsR (L.take L.length)) := by rw [HT.out.1]; first | exact hown.alloc _ | (rw [List.take_length]; exact hown.alloc _)
        have hx4 : SlR (w3.alloc (.cells #[.int .i64 x.key, .int .i64 x.fn, .int .i64 x.arg, .int .i64 x.e.h, .int .i64 x.e.v] 60)).drew (.slice (some ⟨w3.heap.size, 0, none⟩) 1 1) [x] := ran_new (heap_alloc_new w3 _)
        clear hown hbr3 hb3 hBw hn hz3
        go_wp2_with fail
        go_region_law (first | (refine step_app _ rfl (.tmp 27) (.tmp 29) rfl (B := w.heap.size) (by have := HK.out.2.2; show w.heap.size ≤ (w3.alloc _).heap.size; simp; omega) (.slice va L.length vc) (.slice (some ⟨w3.heap.size, 0, none⟩) 1 1) (L.take L.length) [x] (by simp [Act.eval]) (by simp [Act.eval]) hown4 hx4 (by have := HK.out; have := HT.out; simp only [List.length_cons, List.length_nil]; omega) (L.length + 1) (by have := HT.out; simp only [List.length_cons, List.length_nil]; omega) ?_; intro va2 vc2 w6 hown6 hgrow6; have hb6 := put_b6 hown4 hgrow6 HK.out.2.2; have hS6 := HS6.out _ (hbW.trans hb6)) | (refine step_app _ rfl (.tmp 30) (.tmp 33) rfl (B := w.heap.size) (by have := hb6.size; have := HK.out.2.2; omega) (.slice va2 (L.length + 1) vc2) (.slice (some ⟨g, L.length * 5, none⟩) 0 (cap - L.length)) (L.take L.length ++ [x]) (L.drop L.length) (by simp [Act.eval]) (by simp [Act.eval]) (by rw [List.length_append, HT.out.1]; exact hown6) hS6 (by have := HK.out; have := HT.out; simp only [List.length_append, List.length_cons, List.length_nil]; omega) (L.length + 1) (by have := HK.out; have := HT.out; simp only [List.length_append, List.length_cons, List.length_nil]; omega) ?_; intro va3 vc3 w7 hown7 hgrow7))
        all_goals
          go_wp2_with fail
          go_ret
          exact put_end HA.out hbW hb6 hown6 hgrow7 hown7
end Go.Proofs.YtpmapdialjdcbaaDoor
namespace Go.Proofs.YtpmapdialjdcbaaDoor
open Go.RowKit
open C2 (In Pr SlF SlI InsAt still_of_below below_then below_alloc Still)

set_option maxHeartbeats 1000000 in
theorem put_none (x : Rn) (w : World) : Calls Tryd.prog 37 #[.slice none 0 0, .agg #[.int .i64 x.key, .int .i64 x.fn, .int .i64 x.arg, .int .i64 x.e.h, .int .i64 x.e.v]] w fun e w' => PutPost [] x w w.heap.size e w' := by
  have hbx := heap_alloc_new w (.cells #[.int .i64 x.key, .int .i64 x.fn, .int .i64 x.arg, .int .i64 x.e.h, .int .i64 x.e.v] 60)
  have hb1 := below_alloc (Below.refl w.heap.size w) (.cells #[.int .i64 x.key, .int .i64 x.fn, .int .i64 x.arg, .int .i64 x.e.h, .int .i64 x.e.v] 60)
  go_enter Tryd.func37, Tryd.ntmps37
  go_wp2_with fail
  have hz1 : (w.alloc (.cells #[.int .i64 x.key, .int .i64 x.fn, .int .i64 x.arg, .int .i64 x.e.h, .int .i64 x.e.v] 60)).heap.size = w.heap.size + 1 := by simp
  generalize w.alloc (.cells #[.int .i64 x.key, .int .i64 x.fn, .int .i64 x.arg, .int .i64 x.e.h, .int .i64 x.e.v] 60) = w1 at *
  go_loopw [5] (fun kv wr => kv = .int .i64 0 ∧ Below w1.heap.size w1 wr) (fun _ _ => 0)
  case atStart => exact ⟨rfl, Below.refl _ _⟩
  case round =>
    obtain ⟨rfl, hBw⟩ := hrel
    have hbr := (hBw.block w.heap.size (by omega)).trans hbx
    have HBR : Hid (wr.heap[w.heap.size]? = some (.cells #[.int .i64 x.key, .int .i64 x.fn, .int .i64 x.arg, .int .i64 x.e.h, .int .i64 x.e.v] 60 (0, 0))) := hbr
    have HA : Hid (At7 [] x w1 0 wr) := ⟨Nat.le_refl _, fun j h => by simp at h, fun h => by simp at h, hBw⟩
    clear hbr
    go_wp2_with fail
    go_quiet (fail)
    go_wp2_with (at_builtin; refine list_app _ rfl (.const (.slice none 0 0)) (.tmp 25) rfl (B := w.heap.size) ?c1 (.slice none 0 0) (.slice none 0 0) [] [] (by simp [Act.eval]) (by simp [Act.eval]) (World.ownsRow_nil _ _ _ _) ⟨none, 0, rfl, fun k hk => by simp at hk⟩ (by simp) 0 (by simp) ?_)
    case c1 => have := hBw.size; show w.heap.size ≤ wr.heap.size; omega
    intro va vc w3 hown hgrow
    have hb3 : Below wr.heap.size wr w3 := below_then (C2.below_drewN (Below.refl _ _) nq) (Below.of_grown (w := wr.drewN nq) (v := .slice none 0 0) hgrow (fun g h => by simp [Value.ownBlock] at h) (Nat.le_refl _))
    have hbr3 := (hb3.block _ (by have := hBw.size; omega)).trans HBR.out
    have x0 : w3.cell? ⟨w.heap.size, 0, none⟩ = some (.int .i64 x.key) := cell_of_row _ _ _ _ _ _ hbr3
    have x1 : w3.cell? ⟨w.heap.size, 1, none⟩ = some (.int .i64 x.fn) := cell_of_row _ _ _ _ _ _ hbr3
    have x2 : w3.cell? ⟨w.heap.size, 2, none⟩ = some (.int .i64 x.arg) := cell_of_row _ _ _ _ _ _ hbr3
    have x3 : w3.cell? ⟨w.heap.size, 3, none⟩ = some (.int .i64 x.e.h) := cell_of_row _ _ _ _ _ _ hbr3
    have x4 : w3.cell? ⟨w.heap.size, 4, none⟩ = some (.int .i64 x.e.v) := cell_of_row _ _ _ _ _ _ hbr3
    have hz3 : w.heap.size ≤ w3.heap.size := by have := hb3.size; have := hBw.size; omega
    have HK : Hid (w.heap.size ≤ w3.heap.size) := hz3
    have hbW : Below w.heap.size w w3 := below_then hb1 (below_then hBw hb3)
    have hown4 : (w3.alloc (.cells #[.int .i64 x.key, .int .i64 x.fn, .int .i64 x.arg, .int .i64 x.e.h, .int .i64 x.e.v] 60)).drew.ownsRow w.heap.size 60 5 (.slice va 0 vc) ([] : List Rn).length (cellsR []) := hown.alloc _
    have hx4 : SlR (w3.alloc (.cells #[.int .i64 x.key, .int .i64 x.fn, .int .i64 x.arg, .int .i64 x.e.h, .int .i64 x.e.v] 60)).drew (.slice (some ⟨w3.heap.size, 0, none⟩) 1 1) [x] := ran_new (heap_alloc_new w3 _)
    clear hown hbr3 hb3 hBw hz3
    go_wp2_with fail
    go_region_law (first | (refine step_app _ rfl (.tmp 27) (.tmp 29) rfl (B := w.heap.size) (by have := HK.out; show w.heap.size ≤ (w3.alloc _).heap.size; simp; omega) (.slice va 0 vc) (.slice (some ⟨w3.heap.size, 0, none⟩) 1 1) [] [x] (by simp [Act.eval]) (by simp [Act.eval]) hown4 hx4 (by simp) 1 (by simp) ?_; intro va2 vc2 w6 hown6 hgrow6; have hb6 := put_b6 hown4 hgrow6 HK.out) | (refine step_app _ rfl (.tmp 30) (.tmp 33) rfl (B := w.heap.size) (by have := hb6.size; have := HK.out; omega) (.slice va2 1 vc2) (.slice none 0 0) [x] [] (by simp [Act.eval]) (by simp [Act.eval]) hown6 ⟨none, 0, rfl, fun k hk => by simp at hk⟩ (by simp) 1 (by simp) ?_; intro va3 vc3 w7 hown7 hgrow7))
    all_goals
      go_wp2_with fail
      go_ret
      exact put_end HA.out hbW hb6 hown6 hgrow7 hown7
theorem put_any {L : List Rn} {lv : Value} (x : Rn) (w : World) {B : Nat} (hL : w.ownsRow B 60 5 lv L.length (cellsR L)) (hn : L.length ≤ 100000) : Calls Tryd.prog 37 #[lv, .agg #[.int .i64 x.key, .int .i64 x.fn, .int .i64 x.arg, .int .i64 x.e.h, .int .i64 x.e.v]] w fun e w' => PutPost L x w w.heap.size e w' := by
  rcases hL.2 with ⟨rfl, h0⟩ | ⟨g, cap, cur, rfl, h1, h2, h3, -⟩
  · obtain rfl : L = [] := List.eq_nil_of_length_eq_zero h0
    exact put_none x w
  · exact put_some x w hL hn h3
end Go.Proofs.YtpmapdialjdcbaaDoor
namespace Go.Proofs.YtpmapdialjdcbaaDoor
open Go.RowKit
open C2 (In Pr SlF SlI InsAt still_of_below below_then below_alloc Still)
open K6 (Ky)

/-- what a run of the reference leaves -/
def RTask (E : Ev7) (w : World) (r : Rs) (fn : Nat) (arg k : Int) (e : Ending) (w' : World) : Prop :=
  ∃ rv', e = .returned (endV (ev7 E.p E.M r (ts0 fn arg k E.p.fuel.toNat)).2.e) ∧ Rh E w' rv' (told (ev7 E.p E.M r (ts0 fn arg k E.p.fuel.toNat)).1 fn arg k (ev7 E.p E.M r (ts0 fn arg k E.p.fuel.toNat)).2.e) ∧ FrR E none w w'
def RTaskOk (E : Ev7) (n : Nat) : Prop := ∀ (w : World) (rv : Value) (r : Rs) (kk : Ky) (fn : Nat) (arg : Int), Rh E w rv r → St7 E.p r (ts0 fn arg kk.key E.p.fuel.toNat) kk → r.over = false → r.ran.length ≤ r.steps → r.forks ≤ r.steps → E.M - r.steps ≤ n → r.steps ≤ E.M →
  Calls Tryd.prog 26 #[.pointer (some ⟨E.bw, 0, none⟩), .int .i64 fn, .int .i64 arg, .int .i64 kk.key] w fun e w' => RTask E w r fn arg kk.key e w'
/-- one instruction that is no fork, whatever it is -/
theorem rone_any {E : Ev7} (hp : Ok7 E.p) {w : World} {rv : Value} {r : Rs} {t : Ts} {bt : Nat} {tk : Ky} (hw : Rh E w rv (up1 r)) (ht : Tr E w bt (down1 t)) (h : St7 E.p r t tk) (h0 : t.e.h = 0) (h9 : (ins7 E.p t).o ≠ 9) :
    Calls Tryd.prog 36 #[.pointer (some ⟨E.bw, 0, none⟩), .pointer (some ⟨bt, 0, none⟩), .agg #[.int .i64 (ins7 E.p t).o, .int .i64 (ins7 E.p t).a, .int .i64 (ins7 E.p t).b, .int .i64 (ins7 E.p t).c]] w fun e w' => ROne E bt rv w (oneP (up1 r) (down1 t) (ins7 E.p t)) e w' := by
  have hx := (hp.fn _ h.fnm).2.2.2 _ (h.insm h0)
  have hs := shape_facts hx.1
  have hr := V5.right_iff.1 hx.2
  have hl : (down1 t).reg.length = 8 := h.reg
  have h32 : ∀ x ∈ (down1 t).reg, wrp x = x := h.r32
  have hh : (down1 t).has.length = 4 := h.has
  have hn : (down1 t).hand.length = 4 := h.hand
  have hwl := h.wl
  have hfl := h.fl
  have hu0 := hp.u0
  generalize ins7 E.p t = x at *
  obtain ⟨xo, xa, xb, xc⟩ := x
  simp only at *
  have hfl2 : (up1 r).futs.length = (up1 r).was.length := by show r.futs.length = r.was.length; rw [hfl, hwl]
  have h1 := hs.o1
  have h15 := hs.o15
  have a0 := hs.a0
  have b0 := hs.b0
  have c0 := hs.c0
  have hr8 := hs.r
  have hb7 := hs.b7
  have hc7 := hs.c7
  have ha3 := hs.a3
  have hb3 := hs.b3
  simp only at *
  rcases (by omega : xo = 1 ∨ xo = 2 ∨ xo = 3 ∨ xo = 4 ∨ xo = 5 ∨ xo = 6 ∨ xo = 7 ∨ xo = 8 ∨ xo = 10 ∨ xo = 11 ∨ xo = 12 ∨ xo = 13 ∨ xo = 14 ∨ xo = 15) with rfl | rfl | rfl | rfl | rfl | rfl | rfl | rfl | rfl | rfl | rfl | rfl | rfl | rfl
  · obtain ⟨a, rfl⟩ : ∃ a : Nat, xa = a := ⟨xa.toNat, by omega⟩
    exact rone_1 hw ht hl h32 hh hn (by have := hr8 (by omega) (by omega); omega)
  · obtain ⟨a, rfl⟩ : ∃ a : Nat, xa = a := ⟨xa.toNat, by omega⟩
    obtain ⟨b, rfl⟩ : ∃ b : Nat, xb = b := ⟨xb.toNat, by have := b0 (by omega); omega⟩
    obtain ⟨c, rfl⟩ : ∃ c : Nat, xc = c := ⟨xc.toNat, by omega⟩
    exact rone_2 hw ht hl h32 hh hn (by have := hr8 (by omega) (by omega); omega) (by have := hb7 (by omega) (by omega) (by omega) (by omega); omega) (by omega)
  · obtain ⟨a, rfl⟩ : ∃ a : Nat, xa = a := ⟨xa.toNat, by omega⟩
    obtain ⟨b, rfl⟩ : ∃ b : Nat, xb = b := ⟨xb.toNat, by have := b0 (by omega); omega⟩
    obtain ⟨c, rfl⟩ : ∃ c : Nat, xc = c := ⟨xc.toNat, by omega⟩
    exact rone_3 hw ht hl h32 hh hn (by have := hr8 (by omega) (by omega); omega) (by have := hb7 (by omega) (by omega) (by omega) (by omega); omega) (by omega)
  · obtain ⟨a, rfl⟩ : ∃ a : Nat, xa = a := ⟨xa.toNat, by omega⟩
    obtain ⟨b, rfl⟩ : ∃ b : Nat, xb = b := ⟨xb.toNat, by have := b0 (by omega); omega⟩
    obtain ⟨c, rfl⟩ : ∃ c : Nat, xc = c := ⟨xc.toNat, by omega⟩
    exact rone_4 hw ht hl h32 hh hn (by have := hr8 (by omega) (by omega); omega) (by have := hb7 (by omega) (by omega) (by omega) (by omega); omega) (by omega)
  · obtain ⟨a, rfl⟩ : ∃ a : Nat, xa = a := ⟨xa.toNat, by omega⟩
    obtain ⟨b, rfl⟩ : ∃ b : Nat, xb = b := ⟨xb.toNat, by have := b0 (by omega); omega⟩
    obtain ⟨c, rfl⟩ : ∃ c : Nat, xc = c := ⟨xc.toNat, by omega⟩
    exact rone_5 hw ht hl h32 hh hn (by have := hr8 (by omega) (by omega); omega) (by have := hb7 (by omega) (by omega) (by omega) (by omega); omega) (by omega)
  · obtain ⟨a, rfl⟩ : ∃ a : Nat, xa = a := ⟨xa.toNat, by omega⟩
    obtain ⟨b, rfl⟩ : ∃ b : Nat, xb = b := ⟨xb.toNat, by have := b0 (by omega); omega⟩
    obtain ⟨c, rfl⟩ : ∃ c : Nat, xc = c := ⟨xc.toNat, by omega⟩
    exact rone_6 hw ht hl h32 hh hn (by have := hr8 (by omega) (by omega); omega) (by have := hb7 (by omega) (by omega) (by omega) (by omega); omega) (by omega)
  · obtain ⟨a, rfl⟩ : ∃ a : Nat, xa = a := ⟨xa.toNat, by omega⟩
    exact rone_7 hw ht hl h32 hh hn 
  · obtain ⟨a, rfl⟩ : ∃ a : Nat, xa = a := ⟨xa.toNat, by omega⟩
    obtain ⟨b, rfl⟩ : ∃ b : Nat, xb = b := ⟨xb.toNat, by have := b0 (by omega); omega⟩
    exact rone_8 hw ht hl h32 hh hn (by have := hr8 (by omega) (by omega); omega)
  · obtain ⟨a, rfl⟩ : ∃ a : Nat, xa = a := ⟨xa.toNat, by omega⟩
    obtain ⟨b, rfl⟩ : ∃ b : Nat, xb = b := ⟨xb.toNat, by have := b0 (by omega); omega⟩
    exact rone_10 hw ht hl h32 hh hn (by have := hr8 (by omega) (by omega); omega) (by have := hb3 rfl; omega)
  · obtain ⟨a, rfl⟩ : ∃ a : Nat, xa = a := ⟨xa.toNat, by omega⟩
    obtain ⟨b, rfl⟩ : ∃ b : Nat, xb = b := ⟨xb.toNat, by have := b0 (by omega); omega⟩
    exact rone_11 hw ht hl h32 hh hn (by have := hb7 (by omega) (by omega) (by omega) (by omega); omega) (by show _ < r.was.length; have := hr.2.2.2.1 rfl; omega) hfl2
  · obtain ⟨a, rfl⟩ : ∃ a : Nat, xa = a := ⟨xa.toNat, by omega⟩
    obtain ⟨b, rfl⟩ : ∃ b : Nat, xb = b := ⟨xb.toNat, by have := b0 (by omega); omega⟩
    exact rone_12 hw ht hl h32 hh hn (by have := hr8 (by omega) (by omega); omega) (by show _ < r.was.length; have := hr.2.2.2.2 rfl; omega) hfl2
  · obtain ⟨a, rfl⟩ : ∃ a : Nat, xa = a := ⟨xa.toNat, by omega⟩
    exact rone_13 hw ht hl h32 hh hn (by have := ha3 (.inr rfl); omega)
  · exact rone_14 hw ht hl h32 hh hn 
  · obtain ⟨a, rfl⟩ : ∃ a : Nat, xa = a := ⟨xa.toNat, by omega⟩
    exact rone_15 hw ht hl h32 hh hn (by have := hr8 (by omega) (by omega); omega)
end Go.Proofs.YtpmapdialjdcbaaDoor
