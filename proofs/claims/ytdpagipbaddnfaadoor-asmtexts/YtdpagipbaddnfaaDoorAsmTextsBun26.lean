/-
  Helpers: Ins, Read, Stm, Stm2, Stm3, Range, LexT.
-/
import Derived.Test.YtdpagipbaddnfaaDoorAsmTextsBun25
import Derived.Laws.CopyOwn
namespace Go.Proofs.YtdpagipbaddnfaaDoor
open Go.RowKit L3
open C2 (In insV)

/-- a slice of numbers -/
def SlN (w : World) (v : Value) (xs : List Int) : Prop := ∃ a c, v = .slice a xs.length c ∧ ∀ k (h : k < xs.length), ∃ g f, a = some ⟨g, f, none⟩ ∧ w.cell? ⟨g, f + k, none⟩ = some (.int .i64 xs[k])
def cellsN (xs : List Int) : List Value := xs.map (Value.int .i64)
theorem own_slN {w : World} {B : Nat} {v : Value} {xs : List Int} (h : w.ownsRow B 3 1 v xs.length (cellsN xs)) : SlN w v xs := by
  rcases h.2 with ⟨rfl, h0⟩ | ⟨g, cap, cur, rfl, _⟩
  · exact ⟨none, 0, by rw [h0], fun k hk => by omega⟩
  · refine ⟨some ⟨g, 0, none⟩, cap, rfl, fun k hk => ⟨g, 0, rfl, ?_⟩⟩
    rw [Nat.zero_add, h.cellAt _ (by omega)]
    simp [cellsN, hk]
theorem SlN.kept {w w' : World} {v : Value} {xs : List Int} (h : SlN w v xs) (hb : Below w.heap.size w w') : SlN w' v xs := by
  obtain ⟨a, c, e, hk⟩ := h
  refine ⟨a, c, e, fun k h => ?_⟩
  obtain ⟨g, f, e2, ht⟩ := hk k h
  refine ⟨g, f, e2, ?_⟩
  rw [World.cell?_of_block (hb.block _ (World.block_lt_of_cell? w _ ht))]
  exact ht
/-- nothing but the block r is turned -/
structure Only (r : Nat) (w w' : World) : Prop where
  os : w'.os = w.os
  tape : w'.tape = w.tape
  output : w'.output = w.output
  size : w'.heap.size = w.heap.size
  block : ∀ k, k ≠ r → w'.heap[k]? = w.heap[k]?
theorem Only.refl (r : Nat) (w : World) : Only r w w := ⟨rfl, rfl, rfl, rfl, fun _ _ => rfl⟩
theorem Only.trans {r : Nat} {a b c : World} (h : Only r a b) (k : Only r b c) : Only r a c := ⟨k.os.trans h.os, k.tape.trans h.tape, k.output.trans h.output, k.size.trans h.size, fun i hi => (k.block i hi).trans (h.block i hi)⟩
theorem Only.set {r : Nat} (w : World) (f : Nat) (v : Value) : Only r w (w.setCell ⟨r, f, none⟩ v) := ⟨rfl, rfl, rfl, by simp [World.setCell], fun k hk => Below.heap_setCell _ _ _ _ hk⟩
theorem Only.below {r : Nat} {w w' : World} (h : Only r w w') {B : Nat} (hr : B ≤ r) : Below B w w' := ⟨h.os, h.tape, h.output, by rw [h.size]; exact Nat.le_refl _, fun k hk => h.block k (by omega)⟩
theorem setRow_at {w : World} {g : Nat} {cur : Array Value} {t : TypeId} {fr : Nat × Nat} (hg : w.heap[g]? = some (.cells cur t fr)) (cs : Array Value) : (w.setRow g cs).heap[g]? = some (.cells cs t fr) := by
  simp [World.setRow, Array.getElem?_modify, hg]
theorem setRow_only (w : World) (g : Nat) (cs : Array Value) : Only g w (w.setRow g cs) :=
  ⟨rfl, rfl, rfl, by simp [World.setRow], fun k hk => by simp [World.setRow, Array.getElem?_modify, Ne.symm hk]⟩
def pad3 (xs : List Int) : Array Value := #[.int .i64 (xs.getD 0 0), .int .i64 (xs.getD 1 0), .int .i64 (xs.getD 2 0)]
theorem sizeInt : (Tryd.prog.info? 3).map (·.size) = some 1 := by kernel_rfl
theorem addr_add (g f j : Nat) : (⟨g, f, none⟩ : Addr).add j = ⟨g, f + j, none⟩ := by
  unfold Addr.add
  split
  · rename_i h
    simp_all
  · rfl
theorem copy3_run (w : World) (g : Nat) (v : Value) (xs : List Int) (hx : xs.length ≤ 3) (hS : SlN w v xs)
    (hg : w.heap[g]? = some (.cells #[.int .i64 0, .int .i64 0, .int .i64 0] 87 (0, 0))) :
    ∃ w1, (Builtin.copy_ #[34, 34] 3 #[.slice (some ⟨g, 0, none⟩) 3 3, v]).run Tryd.prog w = .ok (goInt xs.length) w1 ∧ w1.heap[g]? = some (.cells (pad3 xs) 87 (0, 0)) ∧ Only g w w1 := by
  obtain ⟨ad, c, rfl, hk⟩ := hS
  by_cases h0 : xs.length = 0
  · obtain rfl : xs = [] := List.length_eq_zero_iff.1 h0
    exact ⟨w, run_copy_none w _ _ _ 3 _ _ _ _ _ _ Tryd.underlying34 sizeInt (by simp), hg, Only.refl _ _⟩
  · obtain ⟨g1, f1, rfl, _⟩ := hk 0 (by omega)
    have hr := run_copy_row (P := Tryd.prog) w 34 34 3 3 g 0 3 3 ⟨g1, f1, none⟩ xs.length c _ _ (cellsN xs) Tryd.underlying34 sizeInt hg (by rw [show Nat.min xs.length 3 = xs.length from Nat.min_eq_left hx]; simp [cellsN]) (fun j u hj => by
      have hj' : j < xs.length := by
        have := (List.getElem?_eq_some_iff.1 hj).1
        simpa [cellsN] using this
      obtain ⟨g2, f2, e2, hc⟩ := hk j hj'
      simp at e2
      obtain ⟨rfl, rfl⟩ := e2
      simp [cellsN, hj'] at hj
      subst hj
      rw [addr_add]
      exact hc) (by simp [cellsN]; omega) (fun u hu => by
      simp [cellsN] at hu
      obtain ⟨z, _, rfl⟩ := hu
      rfl)
    have e : (List.take 0 (#[.int .i64 0, .int .i64 0, .int .i64 0] : Array Value).toList ++ cellsN xs ++ List.drop (0 + (cellsN xs).length) (#[.int .i64 0, .int .i64 0, .int .i64 0] : Array Value).toList).toArray = pad3 xs := by
      match xs, hx with
      | [], _ => rfl
      | [a], _ => rfl
      | [a, b], _ => rfl
      | [a, b, c], _ => rfl
      | a :: b :: c :: d :: r, h => simp at h
    rw [e, show (cellsN xs).length = xs.length by simp [cellsN]] at hr
    exact ⟨_, hr, setRow_at hg _, setRow_only _ _ _⟩
set_option maxRecDepth 4000 in
theorem instruction_any (k : Nat) (xs : List Int) (v : Value) (w : World) (hx : xs.length ≤ 3) (hS : SlN w v xs) :
    Calls Tryd.prog 46 #[.int .i64 (k : Int), v] w fun e w' => e = .returned (insV (insOf k xs)) ∧ Below w.heap.size w w' := by
  have hS2 : SlN ((w.alloc (.cells #[.int .i64 0, .int .i64 0, .int .i64 0, .int .i64 0] 50)).alloc (.cells #[.int .i64 0, .int .i64 0, .int .i64 0] 87)) v xs := hS.kept (((Below.refl _ _).alloc (Nat.le_refl _) _).alloc (by simp) _)
  obtain ⟨w1, hrun, hg1, ho1⟩ := copy3_run _ (w.heap.size + 1) v xs hx hS2 (heap_alloc2_new _ _ _)
  have hr1 : w1.heap[w.heap.size]? = some (.cells #[.int .i64 0, .int .i64 0, .int .i64 0, .int .i64 0] 50 (0, 0)) := (ho1.block _ (by omega)).trans (heap_alloc2_old _ _ _)
  have c0 := cell_of_row w1 _ 0 _ _ _ hg1
  have c1 := cell_of_row w1 _ 1 _ _ _ hg1
  have c2 := cell_of_row w1 _ 2 _ _ _ hg1
  have d0 := cell_of_row w1 _ 0 _ _ _ hr1
  have d1 := cell_of_row w1 _ 1 _ _ _ hr1
  have d2 := cell_of_row w1 _ 2 _ _ _ hr1
  have d3 := cell_of_row w1 _ 3 _ _ _ hr1
  have f0 := frozen_of_row w1 _ 0 _ _ hr1
  have f1 := frozen_of_row w1 _ 1 _ _ hr1
  have f2 := frozen_of_row w1 _ 2 _ _ hr1
  have f3 := frozen_of_row w1 _ 3 _ _ hr1
  simp [pad3] at c0 c1 c2 d0 d1 d2 d3
  have hb : Below w.heap.size w w1 := (((Below.refl _ _).alloc (Nat.le_refl _) _).alloc (by simp) _).trans (ho1.below (by omega))
  have HP : Hid (Below w.heap.size w w1) := hb
  clear hg1 hr1 ho1 hS2 hb
  go_enter Tryd.func46, Tryd.ntmps46
  go_wp2_with fail
  exact bodyPost_ret (v := insV (insOf k xs)) (by simp [results, Tryd.results46, go_sem, d0, d1, d2, d3, insV, insOf]) rfl ⟨rfl, (((HP.out.setCell (by simp) _).setCell (by simp) _).setCell (by simp) _).setCell (by simp) _⟩
end Go.Proofs.YtdpagipbaddnfaaDoor
namespace Go.Proofs.YtdpagipbaddnfaaDoor
open Go.RowKit L3 Go.Maps
open C2 (owns_mono)

theorem ints_info : (Tryd.prog.info? 3).map (fun i => (i.zero, i.size, i.bytes)) = some (some (.int .i64 0), 1, 8) := by kernel_rfl
theorem cellsN_snoc (xs : List Int) (x : Int) : cellsN (xs ++ [x]) = cellsN xs ++ [.int .i64 x] := by simp [cellsN]
def noneV : Value := .agg #[.int .i64 0, .slice none 0 0, .int .i64 0]
def ReadPost (ts : List Tk) (w : World) (e : Ending) (w' : World) : Prop :=
  Below w.heap.size w w' ∧ ((readF ts = none ∧ e = .returned (.tuple #[noneV, .bool false])) ∨
    ∃ k xs oa ol oc, readF ts = some (k, xs) ∧ e = .returned (.tuple #[.agg #[.int .i64 (k : Int), .slice oa ol oc, .int .i64 (lineOf ts)], .bool true]) ∧ w'.ownsRow w.heap.size 3 1 (.slice oa ol oc) xs.length (cellsN xs))
theorem altG_at {k : Nat} {r : List Tk} (h : k < r.length) : altG k (r.drop k) = if k % 2 = 0 then (if r[k].k = 2 then (altG (k + 1) (r.drop (k + 1))).map (r[k].n :: ·) else none) else (if r[k].s = [44] then altG (k + 1) (r.drop (k + 1)) else none) := by
  rw [List.drop_eq_getElem_cons h]
  rfl
/-- the loop over the operands, behind k tokens -/
structure Rdg (w : World) (R : List Tk) (kd : Nat) (ln : Int) (wr : World) (k : Nat) (ys : List Int) (oa : Option Addr) (ol oc : Nat) : Prop where
  out : wr.heap[w.heap.size]? = some (.cells #[.int .i64 0, .slice none 0 0, .int .i64 0] 102 (0, 0))
  st : wr.heap[w.heap.size + 2]? = some (.cells #[.int .i64 (kd : Int), .slice oa ol oc, .int .i64 ln] 102 (0, 0))
  own : wr.ownsRow (w.heap.size + 3) 3 1 (.slice oa ol oc) ys.length (cellsN ys)
  low : Below w.heap.size w wr
  go : altG 0 R = (altG k (R.drop k)).map (ys ++ ·)
  len : ys.length ≤ k
theorem own_blk {w : World} {B e size n : Nat} {v : Value} {xs : List Value} (h : w.ownsRow B e size v n xs) {g : Nat} (hg : v.ownBlock = some g) : B ≤ g := (h.lt g hg).1
theorem row_some {w : World} {B e size n : Nat} {v : Value} {xs : List Value} (h : w.ownsRow B e size v (n + 1) xs) : ∃ g cap, v = .slice (some ⟨g, 0, none⟩) (n + 1) cap := by
  rcases h.2 with ⟨_, h0⟩ | ⟨g, cap, cur, rfl, _⟩
  · omega
  · exact ⟨g, cap, rfl⟩
section
variable {w wr : World} {R : List Tk} {kd k : Nat} {ln : Int} {ys : List Int} {oa : Option Addr} {ol oc : Nat}
theorem Rdg.next (h : Rdg w R kd ln wr k ys oa ol oc) (o : Obj) (hg : altG 0 R = (altG (k + 1) (R.drop (k + 1))).map (ys ++ ·)) : Rdg w R kd ln (wr.alloc o) (k + 1) ys oa ol oc :=
  ⟨(Below.heap_alloc _ _ _ (lt_of_block h.out)).trans h.out, (Below.heap_alloc _ _ _ (lt_of_block h.st)).trans h.st, h.own.alloc _, h.low.alloc h.low.size _, hg, by have := h.len; omega⟩
theorem Rdg.push (h : Rdg w R kd ln wr k ys oa ol oc) (o1 o2 : Obj) {w4 : World} {gg cap : Nat} {x : Int} (hgrow : ((wr.alloc o1).alloc o2).grownBy w4 (Value.slice oa ol oc).ownBlock)
    (hown : w4.ownsRow (w.heap.size + 3) 3 1 (.slice (some ⟨gg, 0, none⟩) (ys.length + 1) cap) (ys.length + 1) (cellsN ys ++ [.int .i64 x]))
    (hg : altG 0 R = (altG (k + 1) (R.drop (k + 1))).map ((ys ++ [x]) ++ ·)) :
    Rdg w R kd ln (w4.setCell ⟨w.heap.size + 2, 1, none⟩ (.slice (some ⟨gg, 0, none⟩) (ys.length + 1) cap)) (k + 1) (ys ++ [x]) (some ⟨gg, 0, none⟩) (ys.length + 1) cap := by
  have l1 := lt_of_block h.st
  have hb : ∀ j, j < w.heap.size + 3 → w4.heap[j]? = wr.heap[j]? := fun j hj => by
    rw [hgrow.block j (by simp; omega) (fun e => by have := own_blk h.own e.symm; omega), Below.heap_alloc _ _ _ (by simp; omega), Below.heap_alloc _ _ _ (by omega)]
  have hgg : w.heap.size + 3 ≤ gg := own_blk hown rfl
  refine ⟨?_, ?_, ?_, ?_, hg, by have := h.len; simp; omega⟩
  · rw [Below.heap_setCell _ _ _ _ (by simp), hb _ (by omega)]
    exact h.out
  · rw [heap_setCell_same _ _ _ _ _ _ ((hb _ (by omega)).trans h.st)]
    rfl
  · have e : (ys ++ [x]).length = ys.length + 1 := by simp
    rw [e, cellsN_snoc]
    exact owns_same hown fun g hg => Below.heap_setCell _ _ _ _ (by have := own_blk hown hg; show g ≠ w.heap.size + 2; omega)
  · have hs := hgrow.size
    simp at hs
    exact (h.low.trans ⟨hgrow.os, hgrow.tape, hgrow.output, by omega, fun j hj => hb j (by omega)⟩).setCell (by simp) _
end
theorem alloc3_new (w : World) (a b c : Obj) : (((w.alloc a).alloc b).alloc c).heap[w.heap.size + 2]? = some c := by
  have := heap_alloc_new ((w.alloc a).alloc b) c
  rw [show ((w.alloc a).alloc b).heap.size = w.heap.size + 2 by simp] at this
  exact this
theorem str_eq {a b : ByteArray} (h : a = b) : (a.toList == b.toList) = true := by rw [h]; simp
theorem str_ne {a b : ByteArray} (h : ¬ a = b) : (a.toList == b.toList) = false := by
  rw [beq_eq_false_iff_ne]
  intro e
  exact h (WideShapes.bytes_inj (by simpa [ByteArray.toList_eq] using e))
set_option maxHeartbeats 1000000 in
theorem comma_eq {l : List UInt8} (h : l = [44]) : ((strB l).toList == [44]) = true := by simp [ByteArray.toList_eq, strB, h]
theorem comma_ne {l : List UInt8} (h : ¬ l = [44]) : ((strB l).toList == [44]) = false := by simp [ByteArray.toList_eq, strB, h]
theorem two_old {w : World} (o1 o2 : Obj) : Below w.heap.size w ((w.alloc o1).alloc o2) := ((Below.refl _ _).alloc (Nat.le_refl _) _).alloc (by simp) _
theorem tkAt_kept {w w' : World} {g f : Nat} {t : Tk} (h : TkAt w g f t) (hb : Below w.heap.size w w') : TkAt w' g f t := by
  have st : ∀ {x : Addr} {u : Value}, w.cell? x = some u → w'.cell? x = some u := fun {x} {u} hx => by
    rw [World.cell?_of_block (hb.block _ (World.block_lt_of_cell? w x hx))]
    exact hx
  exact ⟨st h.k, st h.s, st h.n, st h.l⟩
def tkRow (t : Tk) : Array Value := #[.int .i64 t.k, .string (strB t.s), .int .i64 t.n, .int .i64 t.l]
theorem sl_from (g f n c : Nat) (h : n + 1 ≤ c) (hm : c ≤ 9223372036854775807) : ∃ ra, (∀ w, (Instr.slice 51 (.slice (some ⟨g, f, none⟩) (n + 1) c) (some (.int .i64 1)) none none).run Tryd.prog w = .ok (.slice ra n (c - 1)) w) ∧ (0 < n → ra = some ⟨g, f + 4, none⟩) := by
  by_cases h1 : c = 1
  · obtain rfl : n = 0 := by omega
    subst h1
    exact ⟨some ⟨g, f, none⟩, fun w => by go_simp, by omega⟩
  · refine ⟨some ⟨g, f + 4, none⟩, fun w => ?_, fun _ => rfl⟩
    go_simp
    intro h2
    omega
theorem readF_none {t : Tk} {r : List Tk} (h : kindOf t.s = 0) : readF (t :: r) = none := by simp [readF, h]
theorem readF_len {t : Tk} {r : List Tk} {kd : Nat} (hk : kindOf t.s = kd) (h : ¬ (r.length : Int) = restOf kd) : readF (t :: r) = none := by simp [readF, hk, h]
theorem readF_at {t : Tk} {r : List Tk} {kd : Nat} (hk : kindOf t.s = kd) (h0 : kd ≠ 0) (h : (r.length : Int) = restOf kd) : readF (t :: r) = (altG 0 r).map fun xs => (kd, xs) := by simp [readF, hk, h0, h]
set_option maxRecDepth 4000 in
set_option maxHeartbeats 1000000 in
theorem read_any (t : Tk) (r : List Tk) (g f c B : Nat) (w : World) (hS : TkAt w g f t) (hR : ∀ k (h : k < r.length), TkAt w g (f + 4 + k * 4) r[k]) (hc : r.length + 1 ≤ c) (hcm : c ≤ 9223372036854775807) (hK : KMap w B) (hF : FTab w) (hts : t.s.length ≤ 9000) :
    Calls Tryd.prog 44 #[.slice (some ⟨g, f, none⟩) (r.length + 1) c, .map (some B)] w fun e w' => ReadPost (t :: r) w e w' := by
  obtain ⟨a0, a1, a2, a3⟩ := hS
  have hgl : g < w.heap.size := block_lt_of_cell a0
  obtain ⟨kd, hkd⟩ : ∃ kd, kindOf t.s = kd := ⟨_, rfl⟩
  have hk19 : kd ≤ 19 := by rw [← hkd]; exact kindOf_le _
  have hat19 := map19_at t.s
  have hhas := map19_has t.s
  rw [hkd] at hat19 hhas
  have HAT : Hid (map19.atKey (.string t.s) (.lit (.int .i64 0)) = .lit (.int .i64 (kd : Int))) := hat19
  obtain ⟨S, hSd⟩ : ∃ S, S = strB t.s := ⟨_, rfl⟩
  have hkey : keyOf Tryd.prog 9 (.string S) = some (.string t.s) := by
    rw [WideMaps.keyOf_string_mk Tryd.underlying9 (by rw [hSd, strB_size]; unfold maxLen; omega), hSd, strB_data]
  rw [← hSd] at a1
  have hK2 : KMap (((w.alloc (.cells #[.int .i64 0, .slice none 0 0, .int .i64 0] 102)).alloc (.cells #[.int .i64 t.k, .string S, .int .i64 t.n, .int .i64 t.l] 100))) B := hK.below (two_old _ _)
  obtain ⟨ra, hsl, hra⟩ := sl_from g f r.length c hc hcm
  have hlow0 : Below w.heap.size w (((w.alloc (.cells #[.int .i64 0, .slice none 0 0, .int .i64 0] 102)).alloc (.cells #[.int .i64 t.k, .string S, .int .i64 t.n, .int .i64 t.l] 100))).drew := (two_old _ _).drew
  have HKD : Hid (kindOf t.s = kd) := hkd
  clear hSd hat19 hkd
  by_cases h0 : kd = 0
  · have hhas0 : Maps.has map19 (.string t.s) = false := by rw [hhas, h0]; rfl
    have HP : Hid (ReadPost (t :: r) w (.returned (.tuple #[noneV, .bool false])) (((w.alloc (.cells #[.int .i64 0, .slice none 0 0, .int .i64 0] 102)).alloc (.cells #[.int .i64 t.k, .string S, .int .i64 t.n, .int .i64 t.l] 100))).drew) := ⟨hlow0, .inl ⟨readF_none (by rw [HKD.out, h0]), rfl⟩⟩
    clear hhas hlow0 hra hR
    go_enter Tryd.func44, Tryd.ntmps44
    go_wp2_with fail
    go_region
    go_wp2_with (first | (at_lookup; refine wpList_lookup_own_ok_int _ rfl _ _ 97 rfl 9 3 .i64 keyLaw Tryd.underlying97 Tryd.underlying3 (zeroInt _) B 19 map19 rfl (World.ownsMap.drew hK2) _ _ rfl hkey ?_; intro c' hat hwc))
    exact bodyPost_ret (v := .tuple #[noneV, .bool false]) (by simp [results, Tryd.results44, go_sem, noneV]) rfl HP.out
  · have hhas1 : Maps.has map19 (.string t.s) = true := by rw [hhas]; simpa using h0
    have hF2 := (hF.below (two_old (w := w) (.cells #[.int .i64 0, .slice none 0 0, .int .i64 0] 102) (.cells #[.int .i64 t.k, .string S, .int .i64 t.n, .int .i64 t.l] 100)) kd (by omega)).2
    obtain ⟨ob1, ob2⟩ := opsOf_bd kd
    obtain ⟨op, hop⟩ : ∃ op, opsOf kd = op := ⟨_, rfl⟩
    obtain ⟨q, hq⟩ : ∃ q, (if 0 < 2 * op - 1 then 2 * op - 1 else 0) = q := ⟨_, rfl⟩
    have hrest : restOf kd = q := by rw [restOf, hop, ← hq]; split <;> omega
    have hq1 : 0 ≤ q ∧ q ≤ 5 := by rw [← hq]; split <;> omega
    have hmx : ∀ (w : World), (Builtin.max_ #[3, 3] 3 #[.int .i64 0, .int .i64 (2 * op - 1)]).run Tryd.prog w = .ok (.int .i64 q) w := fun w => by
      rw [run_max_int2, ← hq]
    rw [hop] at hF2 ob1 ob2
    clear hhas hop hq
    by_cases hlen : (r.length : Int) = q
    · have hd : ((r.length : Int) != q) = false := by simpa using hlen
      have hrd := readF_at HKD.out h0 (by rw [hrest]; exact hlen)
      have HRD : Hid (readF (t :: r) = (altG 0 r).map fun xs => (kd, xs)) := hrd
      have HLOW : Hid (Below w.heap.size w (((w.alloc (.cells #[.int .i64 0, .slice none 0 0, .int .i64 0] 102)).alloc (.cells #[.int .i64 t.k, .string S, .int .i64 t.n, .int .i64 t.l] 100))).drew) := hlow0
      clear hlow0 hrest hrd
      go_enter Tryd.func44, Tryd.ntmps44
      go_wp2_with fail
      go_region
      go_wp2_with (first | (at_lookup; refine wpList_lookup_own_ok_int _ rfl _ _ 97 rfl 9 3 .i64 keyLaw Tryd.underlying97 Tryd.underlying3 (zeroInt _) B 19 map19 rfl (World.ownsMap.drew hK2) _ _ rfl hkey ?_; intro c' hat hwc; obtain rfl : (kd : Int) = c' := by (have := HAT.out.symm.trans hat; simpa using this)))
      have hL0 : Rdg w r kd t.l ((((w.alloc (.cells #[.int .i64 0, .slice none 0 0, .int .i64 0] 102)).alloc (.cells #[.int .i64 t.k, .string S, .int .i64 t.n, .int .i64 t.l] 100))).alloc (.cells #[.int .i64 (kd : Int), .slice none 0 0, .int .i64 t.l] 102)).drew 0 [] none 0 0 :=
        ⟨(Below.heap_alloc _ _ _ (by simp; omega)).trans (heap_alloc2_old w _ _), alloc3_new w _ _ _, World.ownsRow_nil _ _ _ _, ((two_old _ _).alloc (by simp; omega) _).drew, by simp, by simp⟩
      clear hK2 hkey a0 a1 a2 a3 hd hF2 hmx hsl ob1 ob2 HAT hhas1
      obtain ⟨i0, hi, hz0, hz1, hz2⟩ := info_parts ints_info
      go_loopw [46] (fun i wr => ∃ (k : Nat) (ys : List Int) (oa : Option Addr) (ol oc : Nat), k ≤ r.length ∧ i = .int .i64 k ∧ Rdg w r kd t.l wr k ys oa ol oc) (fun i _ => r.length - (intOf i).toNat)
      case atStart => exact ⟨0, [], none, 0, 0, by omega, rfl, hL0⟩
      case round =>
        obtain ⟨k, ys, oa, ol, oc, hk, rfl, hL⟩ := hrel
        clear hL0
        have s0 := cell_of_row wr _ 0 _ _ _ hL.st
        have s1 := cell_of_row wr _ 1 _ _ _ hL.st
        have s2 := cell_of_row wr _ 2 _ _ _ hL.st
        have g1 := frozen_of_row wr _ 1 _ _ hL.st
        have o0 := cell_of_row wr _ 0 _ _ _ hL.out
        have o1 := cell_of_row wr _ 1 _ _ _ hL.out
        have o2 := cell_of_row wr _ 2 _ _ _ hL.out
        have q0 := frozen_of_row wr _ 0 _ _ hL.out
        have q1 := frozen_of_row wr _ 1 _ _ hL.out
        have q2 := frozen_of_row wr _ 2 _ _ hL.out
        simp at s0 s1 s2 o0 o1 o2
        have hst := lt_of_block hL.st
        have hout := lt_of_block hL.out
        have hst' : w.heap.size + 1 + 1 < wr.heap.size := hst
        have s1' : wr.cell? ⟨w.heap.size + 1 + 1, 1, none⟩ = some (.slice oa ol oc) := s1
        have g1' : wr.frozen? ⟨w.heap.size + 1 + 1, 1, none⟩ = false := g1
        by_cases hlt : k < r.length
        · obtain rfl := hra (by omega)
          obtain ⟨b0, b1, b2, b3⟩ := tkAt_kept (hR k hlt) hL.low
          have hgo := hL.go
          rw [altG_at hlt] at hgo
          have hgw := block_lt_of_cell b0
          obtain ⟨u, hu⟩ : ∃ u, r[k] = u := ⟨_, rfl⟩
          rw [hu] at hgo b0 b1 b2 b3
          have hm2 : k % 2 = 0 ∨ k % 2 = 1 := by omega
          have HN : Hid (∀ (W : World), Below w.heap.size w W → altG 0 r = none → ReadPost (t :: r) w (.returned (.tuple #[noneV, .bool false])) W) := fun W hb hn => ⟨hb, .inl ⟨by rw [HRD.out, hn]; rfl, rfl⟩⟩
          have hwl : w.heap.size ≤ wr.heap.size := by omega
          rcases hm2 with hm | hm
          · have e1 : (k : Int) % 2 = 0 := by omega
            by_cases hu2 : u.k = 2
            · have e2 : (u.k == 2) = true := by simp [hu2]
              rw [if_pos hm, if_pos hu2, Option.map_map] at hgo
              have HGO : Hid (altG 0 r = (altG (k + 1) (r.drop (k + 1))).map ((ys ++ [u.n]) ++ ·)) := hgo.trans (by congr 1; funext z; simp)
              have hown2 := (hL.own.alloc (.cells #[.int .i64 u.k, .string (strB u.s), .int .i64 u.n, .int .i64 u.l] 100)).alloc (.cells #[.int .i64 u.n] 3)
              have hyl : ys.length ≤ 20000 := by have := hL.len; omega
              clear hgo hu hu2
              go_wp2_with (at_builtin; refine wpList_append_own _ rfl _ _ 34 rfl (w.heap.size + 3) 3 i0 (.int .i64 0) 1 8 Tryd.underlying34 hi hz0 hz1 hz2 rfl (by decide) _ _ _ rfl hown2 ⟨wr.heap.size + 1, 0, none⟩ 1 1 [.int .i64 u.n] rfl rfl ?d1 ?d2 ?d3 ?d4 ?d5 ?_)
              case d2 => rfl
              case d3 => unfold maxLen; omega
              case d4 => omega
              case d5 => omega
              intro v' w4 hown4 hgrow _
              obtain ⟨gg, cap, rfl⟩ := row_some hown4
              have hLn : Hid (Rdg w r kd t.l (w4.setCell ⟨w.heap.size + 2, 1, none⟩ (.slice (some ⟨gg, 0, none⟩) (ys.length + 1) cap)) (k + 1) (ys ++ [u.n]) (some ⟨gg, 0, none⟩) (ys.length + 1) cap) := hL.push _ _ hgrow hown4 HGO.out
              have hst4 : w4.heap[w.heap.size + 2]? = _ := (hgrow.block _ (by simp; omega) (fun e => by have := own_blk hL.own e.symm; omega)).trans ((Below.heap_alloc _ _ _ (by simp; omega)).trans ((Below.heap_alloc _ _ _ (by omega)).trans hL.st))
              have t1 := cell_of_row w4 _ 1 _ _ _ hst4
              have t2 := frozen_of_row w4 _ 1 _ _ hst4
              simp at t1
              have t1' : w4.cell? ⟨w.heap.size + 1 + 1, 1, none⟩ = some (.slice oa ol oc) := t1
              have t2' : w4.frozen? ⟨w.heap.size + 1 + 1, 1, none⟩ = false := t2
              clear hst4 hown4 hgrow hown2 hL
              go_wp2_with fail
              go_roundw
              case rel => exact ⟨k + 1, ys ++ [u.n], _, _, _, by omega, by go_num, hLn.out⟩
              case measure => simp [intOf]; omega
            · have e2 : (u.k == 2) = false := by simp [hu2]
              rw [if_pos hm, if_neg hu2] at hgo
              simp only [Option.map_none] at hgo
              have HP2 : Hid (ReadPost (t :: r) w (.returned (.tuple #[noneV, .bool false])) ((((wr.setCell ⟨w.heap.size, 0, none⟩ (.int .i64 0)).setCell ⟨w.heap.size, 1, none⟩ (.slice none 0 0)).setCell ⟨w.heap.size, 2, none⟩ (.int .i64 0)).alloc (.cells #[.int .i64 u.k, .string (strB u.s), .int .i64 u.n, .int .i64 u.l] 100))) := HN.out _ ((((hL.low.setCell (by simp) _).setCell (by simp) _).setCell (by simp) _).alloc (by simp [World.setCell]; omega) _) hgo
              clear hgo hu hL
              go_wp2_with fail
              exact bodyPost_ret (v := .tuple #[noneV, .bool false]) (by simp [results, Tryd.results44, go_sem, noneV, o0, o1, o2, hout]) rfl HP2.out
          · have e1 : (k : Int) % 2 = 1 := by omega
            by_cases hu2 : u.s = [44]
            · have e2 := comma_eq hu2
              rw [if_neg (by omega), if_pos hu2] at hgo
              have hLn : Hid (Rdg w r kd t.l (wr.alloc (.cells #[.int .i64 u.k, .string (strB u.s), .int .i64 u.n, .int .i64 u.l] 100)) (k + 1) ys oa ol oc) := hL.next _ hgo
              clear hgo hu hu2 hL
              go_wp2_with fail
              go_roundw
              case rel => exact ⟨k + 1, ys, _, _, _, by omega, by go_num, hLn.out⟩
              case measure => simp [intOf]; omega
            · have e2 := comma_ne hu2
              rw [if_neg (by omega), if_neg hu2] at hgo
              simp only [Option.map_none] at hgo
              have HP2 : Hid (ReadPost (t :: r) w (.returned (.tuple #[noneV, .bool false])) ((((wr.setCell ⟨w.heap.size, 0, none⟩ (.int .i64 0)).setCell ⟨w.heap.size, 1, none⟩ (.slice none 0 0)).setCell ⟨w.heap.size, 2, none⟩ (.int .i64 0)).alloc (.cells #[.int .i64 u.k, .string (strB u.s), .int .i64 u.n, .int .i64 u.l] 100))) := HN.out _ ((((hL.low.setCell (by simp) _).setCell (by simp) _).setCell (by simp) _).alloc (by simp [World.setCell]; omega) _) hgo
              clear hgo hu hL
              go_wp2_with fail
              exact bodyPost_ret (v := .tuple #[noneV, .bool false]) (by simp [results, Tryd.results44, go_sem, noneV, o0, o1, o2, hout]) rfl HP2.out
        · obtain rfl : k = r.length := by omega
          have hgo := hL.go
          rw [List.drop_length] at hgo
          simp only [altG, Option.map_some, List.append_nil] at hgo
          have hrd := HRD.out
          rw [hgo] at hrd
          have HP : Hid (ReadPost (t :: r) w (.returned (.tuple #[.agg #[.int .i64 (kd : Int), .slice oa ol oc, .int .i64 t.l], .bool true])) (((wr.setCell ⟨w.heap.size, 0, none⟩ (.int .i64 (kd : Int))).setCell ⟨w.heap.size, 1, none⟩ (.slice oa ol oc)).setCell ⟨w.heap.size, 2, none⟩ (.int .i64 t.l))) := by
            refine ⟨((hL.low.setCell (by simp) _).setCell (by simp) _).setCell (by simp) _, .inr ⟨kd, ys, oa, ol, oc, hrd, rfl, ?_⟩⟩
            refine owns_mono (owns_same hL.own fun g hg => ?_) (by omega)
            have := own_blk hL.own hg
            rw [Below.heap_setCell _ _ _ _ (by simp; omega), Below.heap_setCell _ _ _ _ (by simp; omega), Below.heap_setCell _ _ _ _ (by simp; omega)]
          clear hgo hrd
          go_wp2_with fail
          exact bodyPost_ret (v := .tuple #[.agg #[.int .i64 (kd : Int), .slice oa ol oc, .int .i64 t.l], .bool true]) (by simp [results, Tryd.results44, go_sem, o0, o1, o2]) rfl HP.out
    · have hd : ((r.length : Int) != q) = true := by simpa using hlen
      have HP : Hid (ReadPost (t :: r) w (.returned (.tuple #[noneV, .bool false])) (((w.alloc (.cells #[.int .i64 0, .slice none 0 0, .int .i64 0] 102)).alloc (.cells #[.int .i64 t.k, .string S, .int .i64 t.n, .int .i64 t.l] 100))).drew) := ⟨hlow0, .inl ⟨readF_len HKD.out (by rw [hrest]; exact hlen), rfl⟩⟩
      clear hlow0 hra hR hrest
      go_enter Tryd.func44, Tryd.ntmps44
      go_wp2_with fail
      go_region
      go_wp2_with (first | (at_lookup; refine wpList_lookup_own_ok_int _ rfl _ _ 97 rfl 9 3 .i64 keyLaw Tryd.underlying97 Tryd.underlying3 (zeroInt _) B 19 map19 rfl (World.ownsMap.drew hK2) _ _ rfl hkey ?_; intro c' hat hwc; obtain rfl : (kd : Int) = c' := by (have := HAT.out.symm.trans hat; simpa using this)))
      exact bodyPost_ret (v := .tuple #[noneV, .bool false]) (by simp [results, Tryd.results44, go_sem, noneV]) rfl HP.out
end Go.Proofs.YtdpagipbaddnfaaDoor
namespace Go.Proofs.YtdpagipbaddnfaaDoor
open Go.RowKit L3 Go.Maps

/-- no End stands first, none behind another -/
def goodT : Bool → List Tk → Prop
  | _, [] => True
  | o, t :: r => if t.k = 4 then o = true ∧ goodT false r else goodT true r
theorem goodT_end {o : Bool} {t : Tk} {r : List Tk} (h : goodT o (t :: r)) (h4 : t.k = 4) : o = true ∧ goodT false r := by simpa [goodT, h4] using h
theorem goodT_on {o : Bool} {t : Tk} {r : List Tk} (h : goodT o (t :: r)) (h4 : ¬ t.k = 4) : goodT true r := by simpa [goodT, h4] using h
/-- the cells of lines -/
def cellsS : List Sm → List Value → List Value
  | s :: r, v :: vs => .int .i64 (s.k : Int) :: v :: .int .i64 s.l :: cellsS r vs
  | _, _ => []
theorem cellsS_snoc : ∀ (all : List Sm) (vals : List Value) (s : Sm) (v : Value), vals.length = all.length → cellsS (all ++ [s]) (vals ++ [v]) = cellsS all vals ++ [.int .i64 (s.k : Int), v, .int .i64 s.l]
  | [], [], s, v, _ => rfl
  | [], _ :: _, _, _, h => by simp at h
  | _ :: _, [], _, _, h => by simp at h
  | a :: all, u :: vals, s, v, h => by
    simp only [List.cons_append, cellsS]
    rw [cellsS_snoc all vals s v (by simpa using h)]
theorem cellsS_at : ∀ (all : List Sm) (vals : List Value) (k : Nat) (h : k < all.length) (h' : k < vals.length), (cellsS all vals)[k * 3]? = some (.int .i64 (all[k].k : Int)) ∧ (cellsS all vals)[k * 3 + 1]? = some vals[k] ∧ (cellsS all vals)[k * 3 + 2]? = some (.int .i64 all[k].l)
  | [], _, k, h, _ => by simp at h
  | _ :: _, [], k, _, h => by simp at h
  | a :: all, u :: vals, 0, _, _ => by simp [cellsS]
  | a :: all, u :: vals, k + 1, h, h' => by
    have := cellsS_at all vals k (by simpa using h) (by simpa using h')
    simp only [cellsS, List.getElem_cons_succ]
    rw [show (k + 1) * 3 = k * 3 + 1 + 1 + 1 by omega]
    simpa using this
/-- a slice of lines, each with its numbers -/
def SlS (w : World) (v : Value) (all : List Sm) : Prop := ∃ a c, v = .slice a all.length c ∧ ∀ k (h : k < all.length), ∃ g f oa ol oc, a = some ⟨g, f, none⟩ ∧ w.cell? ⟨g, f + k * 3, none⟩ = some (.int .i64 (all[k].k : Int)) ∧ w.cell? ⟨g, f + k * 3 + 1, none⟩ = some (.slice oa ol oc) ∧ w.cell? ⟨g, f + k * 3 + 2, none⟩ = some (.int .i64 all[k].l) ∧ SlN w (.slice oa ol oc) all[k].xs
theorem SlS.kept {w w' : World} {v : Value} {all : List Sm} (h : SlS w v all) (hb : Below w.heap.size w w') : SlS w' v all := by
  obtain ⟨a, c, e, hk⟩ := h
  refine ⟨a, c, e, fun k h => ?_⟩
  obtain ⟨g, f, oa, ol, oc, e2, h1, h2, h3, h4⟩ := hk k h
  have st : ∀ {x : Addr} {u : Value}, w.cell? x = some u → w'.cell? x = some u := fun {x} {u} hx => by
    rw [World.cell?_of_block (hb.block _ (World.block_lt_of_cell? w x hx))]
    exact hx
  exact ⟨g, f, oa, ol, oc, e2, st h1, st h2, st h3, h4.kept hb⟩
/-- lines that a call owns -/
structure OwnS (w : World) (B : Nat) (v : Value) (all : List Sm) (vals : List Value) : Prop where
  len : vals.length = all.length
  row : w.ownsRow B 102 3 v all.length (cellsS all vals)
  ops : ∀ k (h : k < all.length) (h' : k < vals.length), ∃ oa ol oc, vals[k] = .slice oa ol oc ∧ w.ownsRow B 3 1 vals[k] all[k].xs.length (cellsN all[k].xs)
theorem OwnS.slS {w : World} {B : Nat} {v : Value} {all : List Sm} {vals : List Value} (h : OwnS w B v all vals) : SlS w v all := by
  rcases h.row.2 with ⟨rfl, h0⟩ | ⟨g, cap, cur, rfl, _⟩
  · exact ⟨none, 0, by rw [h0], fun k hk => by omega⟩
  · refine ⟨some ⟨g, 0, none⟩, cap, rfl, fun k hk => ?_⟩
    have hk' : k < vals.length := by rw [h.len]; exact hk
    obtain ⟨oa, ol, oc, e, ho⟩ := h.ops k hk hk'
    obtain ⟨c0, c1, c2⟩ := cellsS_at all vals k hk hk'
    have at' : ∀ j, j < 3 → w.cell? ⟨g, 0 + k * 3 + j, none⟩ = (cellsS all vals)[k * 3 + j]? := fun j hj => by rw [Nat.zero_add, h.row.cellAt _ (by omega)]
    rw [e] at ho c1
    exact ⟨g, 0, oa, ol, oc, rfl, (at' 0 (by omega)).trans c0, (at' 1 (by omega)).trans c1, (at' 2 (by omega)).trans c2, own_slN ho⟩
theorem OwnS.kept {w w' : World} {B : Nat} {v : Value} {all : List Sm} {vals : List Value} (h : OwnS w B v all vals) (hb : Below w.heap.size w w') : OwnS w' B v all vals :=
  ⟨h.len, owns_same h.row fun g hg => hb.block g (h.row.lt g hg).2, fun k h1 h2 => by
    obtain ⟨oa, ol, oc, e, ho⟩ := h.ops k h1 h2
    exact ⟨oa, ol, oc, e, owns_same ho fun g hg => hb.block g (ho.lt g hg).2⟩⟩
theorem OwnS.push {w w1 w4 : World} {B : Nat} {v v' ov : Value} {all : List Sm} {vals : List Value} {s : Sm} (h : OwnS w B v all vals) (hw : Below w.heap.size w w1) (hgrow : w1.grownBy w4 v.ownBlock)
    (hown : w4.ownsRow B 102 3 v' (all.length + 1) (cellsS all vals ++ [.int .i64 (s.k : Int), ov, .int .i64 s.l]))
    (ho : w1.ownsRow B 3 1 ov s.xs.length (cellsN s.xs)) (hs : ∃ oa ol oc, ov = .slice oa ol oc) : OwnS w4 B v' (all ++ [s]) (vals ++ [ov]) := by
  have hk := h.kept hw
  have keep : ∀ {u : Value} {xs : List Int}, w1.ownsRow B 3 1 u xs.length (cellsN xs) → w4.ownsRow B 3 1 u xs.length (cellsN xs) := fun {u} {xs} hu => owns_same hu fun g hg => hgrow.block g (hu.lt g hg).2 (fun e => own_ne hu hk.row (by decide) g hg e.symm)
  refine ⟨by simp [h.len], ?_, fun k h1 h2 => ?_⟩
  · rw [cellsS_snoc _ _ _ _ h.len]
    simpa using hown
  · by_cases hkk : k < all.length
    · have hk2 : k < vals.length := by rw [h.len]; exact hkk
      rw [List.getElem_append_left hkk, List.getElem_append_left hk2]
      obtain ⟨oa, ol, oc, e, ho'⟩ := hk.ops k hkk hk2
      exact ⟨oa, ol, oc, e, keep ho'⟩
    · have e1 : k = all.length := by simp at h1; omega
      subst e1
      have e2 : (all ++ [s])[all.length]'h1 = s := by simp
      have e3 : (vals ++ [ov])[all.length]'h2 = ov := by rw [List.getElem_append_right (by rw [h.len]; omega)]; simp
      rw [e2, e3]
      obtain ⟨oa, ol, oc, e⟩ := hs
      exact ⟨oa, ol, oc, e, keep ho⟩
def StmPost (T : List Tk) (w : World) (e : Ending) (w' : World) : Prop :=
  Below w.heap.size w w' ∧ ((∃ x, stmF [] [] 0 T = .inl x ∧ e = .returned (.tuple #[.slice none 0 0, .int .i64 x])) ∨
    ∃ all sa sc, stmF [] [] 0 T = .inr all ∧ e = .returned (.tuple #[.slice sa all.length sc, .int .i64 0]) ∧ SlS w' (.slice sa all.length sc) all)
/-- the loop over the tokens, behind k of them -/
structure Stg (w : World) (T : List Tk) (wr : World) (k bg : Nat) (all : List Sm) (last : Int) (v : Value) (vals : List Value) : Prop where
  map : KMap wr w.heap.size
  own : OwnS wr (w.heap.size + 1) v all vals
  low : Below w.heap.size w wr
  big : w.heap.size < wr.heap.size
  bgk : bg ≤ k
  kle : k ≤ T.length
  go : stmF [] [] 0 T = stmF ((T.take k).drop bg) all last (T.drop k)
  good : goodT (decide (bg < k)) (T.drop k)
  l0 : 0 ≤ last
  l1 : last ≤ 9000
  cnt : all.length ≤ k
end Go.Proofs.YtdpagipbaddnfaaDoor
namespace Go.Proofs.YtdpagipbaddnfaaDoor
open Go.RowKit L3 Go.Maps

theorem stm_info : (Tryd.prog.info? 102).map (fun i => (i.zero, i.size, i.bytes)) = some (some (.agg #[.int .i64 0, .slice none 0 0, .int .i64 0]), 3, 40) := by kernel_rfl
theorem sl_mid (g f n c b k m : Nat) (h : n ≤ c) (hm : c ≤ 9223372036854775807) (h1 : b + (m + 1) = k) (h2 : k ≤ n) (w : World) : (Instr.slice 51 (.slice (some ⟨g, f, none⟩) n c) (some (.int .i64 (b : Int))) (some (.int .i64 (k : Int))) none).run Tryd.prog w = .ok (.slice (some ⟨g, f + b * 4, none⟩) (m + 1) (c - b)) w := by
  go_simp
  rw [if_pos (by omega), if_pos (by omega), if_neg (by omega)]
  congr 2
  omega
theorem take_drop_snoc {T : List Tk} {k bg : Nat} (h : k < T.length) (hb : bg ≤ k) : (T.take (k + 1)).drop bg = (T.take k).drop bg ++ [T[k]] := by
  rw [List.take_succ_eq_append_getElem h, List.drop_append_of_le_length (by simp; omega)]
theorem take_drop_nil (T : List Tk) (k : Nat) : (T.take k).drop k = [] := by simp
section
variable {w wr : World} {T : List Tk} {k bg : Nat} {all : List Sm} {last : Int} {v : Value} {vals : List Value}
theorem Stg.other (h : Stg w T wr k bg all last v vals) (hk : k < T.length) (h4 : ¬ T[k].k = 4) (o : Obj) : Stg w T (wr.alloc o) (k + 1) bg all last v vals := by
  have hg := h.go
  have hd := h.good
  rw [List.drop_eq_getElem_cons hk] at hg hd
  simp only [stmF] at hg
  rw [if_pos h4, ← take_drop_snoc hk h.bgk] at hg
  have hb := h.bgk
  refine ⟨h.map.below ((Below.refl _ _).alloc (Nat.le_refl _) _), h.own.kept ((Below.refl _ _).alloc (Nat.le_refl _) _), h.low.alloc h.low.size _, by have := h.big; simp; omega, by omega, by omega, hg, ?_, h.l0, h.l1, by have := h.cnt; omega⟩
  rw [decide_eq_true (by omega)]
  exact goodT_on hd h4
/-- the line that ends at k, without its End -/
theorem Stg.line (h : Stg w T wr k bg all last v vals) (hk : k < T.length) (h4 : T[k].k = 4) : ∃ c0 cr, (T.take k).drop bg = c0 :: cr ∧ bg + (cr.length + 1) = k ∧ goodT false (T.drop (k + 1)) := by
  have hd := h.good
  rw [List.drop_eq_getElem_cons hk] at hd
  obtain ⟨h1, h2⟩ := goodT_end hd h4
  have h3 : bg < k := of_decide_eq_true h1
  have hl : ((T.take k).drop bg).length = k - bg := by simp; omega
  cases hc : (T.take k).drop bg with
  | nil => rw [hc] at hl; simp at hl; omega
  | cons c0 cr => rw [hc] at hl; simp at hl; exact ⟨c0, cr, rfl, by omega, h2⟩
theorem Stg.told (h : Stg w T wr k bg all last v vals) (hk : k < T.length) (h4 : T[k].k = 4) (hr : readF ((T.take k).drop bg) = none) : stmF [] [] 0 T = .inl T[k].l := by
  have hg := h.go
  rw [List.drop_eq_getElem_cons hk] at hg
  simp only [stmF] at hg
  rw [if_neg (by simp [h4]), hr] at hg
  exact hg
theorem Stg.bad (h : Stg w T wr k bg all last v vals) (hk : k < T.length) (h4 : T[k].k = 4) {kd : Nat} {xs : List Int} (hr : readF ((T.take k).drop bg) = some (kd, xs)) (hf : followsB all.length kd = false) : stmF [] [] 0 T = .inl T[k].l := by
  have hg := h.go
  rw [List.drop_eq_getElem_cons hk] at hg
  simp only [stmF] at hg
  rw [if_neg (by simp [h4]), hr] at hg
  simp only [hf] at hg
  simpa using hg
theorem Stg.ok (h : Stg w T wr k bg all last v vals) (hk : k < T.length) (h4 : T[k].k = 4) {kd : Nat} {xs : List Int} (hr : readF ((T.take k).drop bg) = some (kd, xs)) (hf : followsB all.length kd = true) : stmF [] [] 0 T = stmF ((T.take (k + 1)).drop (k + 1)) (all ++ [⟨kd, xs, lineOf ((T.take k).drop bg)⟩]) T[k].l (T.drop (k + 1)) := by
  have hg := h.go
  rw [List.drop_eq_getElem_cons hk] at hg
  simp only [stmF] at hg
  rw [if_neg (by simp [h4]), hr] at hg
  simp only [hf, if_true] at hg
  rw [take_drop_nil]
  exact hg
end
theorem getElem_seg {T : List Tk} {k bg j : Nat} {c0 : Tk} {cr : List Tk} (h : (T.take k).drop bg = c0 :: cr) (hj : j < (c0 :: cr).length) (hb : bg + j < T.length) : T[bg + j] = (c0 :: cr)[j] := by
  have e : (c0 :: cr)[j]? = T[bg + j]? := by
    rw [← h, List.getElem?_drop, List.getElem?_take]
    have : ((T.take k).drop bg).length = (c0 :: cr).length := by rw [h]
    simp at this hj
    rw [if_pos (by omega)]
  rw [List.getElem?_eq_getElem hj, List.getElem?_eq_getElem hb] at e
  exact (Option.some.inj e).symm
end Go.Proofs.YtdpagipbaddnfaaDoor
namespace Go.Proofs.YtdpagipbaddnfaaDoor
open Go.RowKit L3 Go.Maps

theorem below_one (w : World) (o : Obj) : Below w.heap.size w (w.alloc o) := (Below.refl _ _).alloc (Nat.le_refl _) _
theorem three_new (w : World) (a b c : Value) (t : TypeId) : ∀ j u, [a, b, c][j]? = some u → (w.alloc (.cells #[a, b, c] t)).cell? ((⟨w.heap.size, 0, none⟩ : Addr).add j) = some u := by
  intro j u hj
  match j, hj with
  | 0, hj => simp at hj; subst hj; simp [Addr.add]
  | 1, hj => simp at hj; subst hj; simp [Addr.add]
  | 2, hj => simp at hj; subst hj; simp [Addr.add]
set_option maxRecDepth 4000 in
set_option maxHeartbeats 1000000 in
theorem statements_any (T : List Tk) (ta : Option Addr) (tc : Nat) (w : World) (hS : SlT w (.slice ta T.length tc) T) (hc : T.length ≤ tc) (hcm : tc ≤ 9223372036854775807) (hF : FTab w) (hn : T.length ≤ 20000) (hgood : goodT false T) (hw : ∀ t ∈ T, t.s.length ≤ 9000 ∧ 1 ≤ t.l ∧ t.l ≤ 9000) :
    Calls Tryd.prog 21 #[.slice ta T.length tc] w fun e w' => StmPost T w e w' := by
  obtain ⟨i0, hi, hz0, hz1, hz2⟩ := info_parts stm_info
  go_enter Tryd.func21, Tryd.ntmps21
  go_wp2_with (go_at_call 43; refine (kindsByWord_any _ hF).mono ?_; rintro e w1 ⟨rfl, hm1, hb1⟩)
  have hG0 : Stg w T w1 0 0 [] 0 (.slice none 0 0) [] := ⟨hm1, ⟨rfl, World.ownsRow_nil _ _ _ _, fun k h _ => by simp at h⟩, hb1, World.ownsMap.lt hm1, by omega, by omega, rfl, hgood, by omega, by omega, by simp⟩
  clear hm1 hb1
  go_loopw [5, 6, 7, 15] (fun av lv bv kv wr => ∃ (k bg : Nat) (all : List Sm) (last : Int) (sa : Option Addr) (sc : Nat) (vals : List Value), kv = .int .i64 k ∧ bv = .int .i64 bg ∧ lv = .int .i64 last ∧ av = .slice sa all.length sc ∧ Stg w T wr k bg all last av vals) (fun _ _ _ kv _ => T.length - (intOf kv).toNat)
  case atStart => exact ⟨0, 0, [], 0, none, 0, [], rfl, rfl, rfl, rfl, hG0⟩
  case round =>
    obtain ⟨k, bg, all, last, sa, sc, vals, rfl, rfl, rfl, rfl, hL⟩ := hrel
    clear hG0
    have hkle := hL.kle
    have hal := hL.cnt
    have hbig := hL.big
    have hl0 := hL.l0
    have hl1 := hL.l1
    by_cases hlt : k < T.length
    · obtain ⟨g, f, rfl, htk⟩ := hS.at hlt
      obtain ⟨b0, b1, b2, b3⟩ := tkAt_kept htk hL.low
      have hgw := block_lt_of_cell b0
      obtain ⟨u, hu⟩ : ∃ u, T[k] = u := ⟨_, rfl⟩
      by_cases h4 : T[k].k = 4
      · obtain ⟨c0, cr, hcur, hlen, hgd⟩ := hL.line hlt h4
        have e4 : (T[k].k != 4) = false := by simp [h4]
        have hsl := fun W => sl_mid g f T.length tc bg k cr.length hc hcm hlen hkle W
        have hc0m : c0 ∈ T := by
          have h1 : c0 ∈ (T.take k).drop bg := by rw [hcur]; simp
          exact List.mem_of_mem_take (List.mem_of_mem_drop h1)
        have hts := (hw c0 hc0m).1
        have hlu := (hw T[k] (List.getElem_mem hlt)).2
        have hlowT := hL.low.trans ((below_one wr (.cells #[.int .i64 T[k].k, .string (strB T[k].s), .int .i64 T[k].n, .int .i64 T[k].l] 100)).mono hL.low.size)
        have hseg : ∀ j (h : j < (c0 :: cr).length), TkAt (wr.alloc (.cells #[.int .i64 T[k].k, .string (strB T[k].s), .int .i64 T[k].n, .int .i64 T[k].l] 100)) g (f + bg * 4 + j * 4) (c0 :: cr)[j] := fun j h => by
          have hj : bg + j < T.length := by simp at h; omega
          obtain ⟨g', f', e', ht'⟩ := hS.at hj
          simp at e'
          obtain ⟨rfl, rfl⟩ := e'
          rw [getElem_seg hcur h hj] at ht'
          have := tkAt_kept ht' hlowT
          rw [show f + (bg + j) * 4 = f + bg * 4 + j * 4 by omega] at this
          exact this
        have hc0 : TkAt (wr.alloc (.cells #[.int .i64 T[k].k, .string (strB T[k].s), .int .i64 T[k].n, .int .i64 T[k].l] 100)) g (f + bg * 4) c0 := by
          have := hseg 0 (by simp)
          rw [List.getElem_cons_zero, Nat.zero_mul, Nat.add_zero] at this
          exact this
        have hcr : ∀ j (h : j < cr.length), TkAt (wr.alloc (.cells #[.int .i64 T[k].k, .string (strB T[k].s), .int .i64 T[k].n, .int .i64 T[k].l] 100)) g (f + bg * 4 + 4 + j * 4) cr[j] := fun j h => by
          have := hseg (j + 1) (by simp; omega)
          rw [show f + bg * 4 + (j + 1) * 4 = f + bg * 4 + 4 + j * 4 by omega] at this
          rw [List.getElem_cons_succ] at this
          exact this
        have hread := read_any c0 cr g (f + bg * 4) (tc - bg) w.heap.size (wr.alloc (.cells #[.int .i64 T[k].k, .string (strB T[k].s), .int .i64 T[k].n, .int .i64 T[k].l] 100)) hc0 hcr (by omega) (by omega) (hL.map.below (below_one _ _)) (hF.below hlowT) hts
        have HNO := hL.told hlt h4
        have HBAD : ∀ {kd : Nat} {xs : List Int}, readF ((T.take k).drop bg) = some (kd, xs) → followsB all.length kd = false → stmF [] [] 0 T = .inl T[k].l := fun hr hf => hL.bad hlt h4 hr hf
        have HOK : ∀ {kd : Nat} {xs : List Int}, readF ((T.take k).drop bg) = some (kd, xs) → followsB all.length kd = true → stmF [] [] 0 T = stmF ((T.take (k + 1)).drop (k + 1)) (all ++ [⟨kd, xs, lineOf ((T.take k).drop bg)⟩]) T[k].l (T.drop (k + 1)) := fun hr hf => hL.ok hlt h4 hr hf
        rw [hcur] at HNO HBAD HOK
        rw [hu] at HNO HBAD HOK e4 b0 b1 b2 b3 hlu hlowT hread
        have HL : Hid (Stg w T wr k bg all last (.slice sa all.length sc) vals) := hL
        have HNO2 : Hid (readF (c0 :: cr) = none → stmF [] [] 0 T = .inl u.l) := HNO
        have HBAD2 : Hid (∀ {kd : Nat} {xs : List Int}, readF (c0 :: cr) = some (kd, xs) → followsB all.length kd = false → stmF [] [] 0 T = .inl u.l) := HBAD
        have HOK2 : Hid (∀ {kd : Nat} {xs : List Int}, readF (c0 :: cr) = some (kd, xs) → followsB all.length kd = true → stmF [] [] 0 T = stmF ((T.take (k + 1)).drop (k + 1)) (all ++ [⟨kd, xs, lineOf (c0 :: cr)⟩]) u.l (T.drop (k + 1))) := HOK
        have HGD : Hid (goodT false (T.drop (k + 1))) := hgd
        have HCUR : Hid (bg + (cr.length + 1) = k) := hlen
        have HLT : Hid (k < T.length) := hlt
        clear HNO HBAD HOK hcur hgd hseg hc0 hcr h4 htk hu hL hlen
        go_wp2_with fail
        refine hread.mono ?_
        rintro e w2 ⟨hb2, hcase⟩
        clear hsl hread
        have htk2 : w2.heap[wr.heap.size]? = some (.cells #[.int .i64 u.k, .string (strB u.s), .int .i64 u.n, .int .i64 u.l] 100 (0, 0)) := (hb2.block _ (by simp)).trans (heap_alloc_new _ _)
        have c3 := cell_of_row w2 _ 3 _ _ _ htk2
        simp at c3
        have hz2l := lt_of_block htk2
        have hlow2 := hlowT.trans (hb2.mono (by have := hlowT.size; omega))
        rcases hcase with ⟨hr, rfl⟩ | ⟨kd, xs, oa, ol, oc, hr, rfl, ho⟩
        · have HP : Hid (StmPost T w (.returned (.tuple #[.slice none 0 0, .int .i64 u.l])) (w2.alloc (.cells #[.int .i64 0, .slice none 0 0, .int .i64 0] 102)).drew) := ⟨(hlow2.alloc (by omega) _).drew, .inl ⟨_, HNO2.out hr, rfl⟩⟩
          clear hlow2 hb2 hr htk2
          unfold noneV
          go_wp2_with fail
          go_region
          go_wp2_with fail
          exact bodyPost_ret (v := .tuple #[.slice none 0 0, .int .i64 u.l]) (by simp [results, Tryd.results21, go_sem]) rfl HP.out
        · obtain ⟨hx1, hk1, hk2⟩ := readF_ok hr
          obtain ⟨lnn, hlnn⟩ : ∃ x, lineOf (c0 :: cr) = x := ⟨_, rfl⟩
          have hHOK := HOK2.out hr
          rw [hlnn] at hHOK ⊢
          have hfol := follows_any all.length kd (by omega) (by omega) (w2.alloc (.cells #[.int .i64 (kd : Int), .slice oa ol oc, .int .i64 lnn] 102))
          cases hf : followsB all.length kd with
          | false =>
            have HP : Hid (StmPost T w (.returned (.tuple #[.slice none 0 0, .int .i64 u.l])) (w2.alloc (.cells #[.int .i64 (kd : Int), .slice oa ol oc, .int .i64 lnn] 102)).drew) := ⟨(hlow2.alloc (by omega) _).drew, .inl ⟨_, HBAD2.out hr hf, rfl⟩⟩
            rw [hf] at hfol
            clear hlow2 hb2 hr htk2 ho hHOK hf
            go_wp2_with (go_at_call 45; refine hfol.mono ?_; rintro e w3 ⟨rfl, rfl⟩)
            go_region
            go_wp2_with fail
            exact bodyPost_ret (v := .tuple #[.slice none 0 0, .int .i64 u.l]) (by simp [results, Tryd.results21, go_sem]) rfl HP.out
          | true =>
            rw [hf] at hfol
            have hHOK2 : Hid (stmF [] [] 0 T = stmF ((T.take (k + 1)).drop (k + 1)) (all ++ [⟨kd, xs, lnn⟩]) u.l (T.drop (k + 1))) := hHOK hf
            have hbw : Below wr.heap.size wr w2 := (below_one _ _).trans (hb2.mono (by simp))
            have hrow2 := (HL.out.own.kept hbw).row
            have ho2 : w2.ownsRow (w.heap.size + 1) 3 1 (.slice oa ol oc) xs.length (cellsN xs) := C2.owns_mono ho (by simp; omega)
            have HB : Hid (Below wr.heap.size wr ((w2.alloc (.cells #[.int .i64 (kd : Int), .slice oa ol oc, .int .i64 lnn] 102)).alloc (.cells #[.int .i64 (kd : Int), .slice oa ol oc, .int .i64 lnn] 102))) := (hbw.alloc hbw.size _).alloc (by have := hbw.size; simp; omega) _
            have hrow4 := (hrow2.alloc (.cells #[.int .i64 (kd : Int), .slice oa ol oc, .int .i64 lnn] 102)).alloc (.cells #[.int .i64 (kd : Int), .slice oa ol oc, .int .i64 lnn] 102)
            have HO : Hid (((w2.alloc (.cells #[.int .i64 (kd : Int), .slice oa ol oc, .int .i64 lnn] 102)).alloc (.cells #[.int .i64 (kd : Int), .slice oa ol oc, .int .i64 lnn] 102)).ownsRow (w.heap.size + 1) 3 1 (.slice oa ol oc) xs.length (cellsN xs)) := (ho2.alloc _).alloc _
            have HR : Hid (readF (c0 :: cr) = some (kd, xs)) := hr
            clear hr ho ho2 hrow2 hHOK hf
            go_wp2_with (first | (go_at_call 45; refine hfol.mono ?_; rintro e w3 ⟨rfl, rfl⟩) | (at_builtin; refine wpList_append_own _ rfl _ _ 54 rfl (w.heap.size + 1) 102 i0 (.agg #[.int .i64 0, .slice none 0 0, .int .i64 0]) 3 40 Tryd.underlying54 hi hz0 hz1 hz2 rfl (by decide) _ _ _ rfl hrow4 ⟨w2.heap.size + 1, 0, none⟩ 1 1 [.int .i64 (kd : Int), .slice oa ol oc, .int .i64 lnn] rfl rfl ?d1 ?d2 ?d3 ?d4 ?d5 ?_))
            case d1 =>
              have h := three_new (w2.alloc (.cells #[.int .i64 (kd : Int), .slice oa ol oc, .int .i64 lnn] 102)) (.int .i64 (kd : Int)) (.slice oa ol oc) (.int .i64 lnn) 102
              rw [show (w2.alloc (.cells #[.int .i64 (kd : Int), .slice oa ol oc, .int .i64 lnn] 102)).heap.size = w2.heap.size + 1 by simp] at h
              exact h
            case d2 => intro z hz; simp at hz; rcases hz with rfl | rfl | rfl <;> rfl
            case d3 => unfold maxLen; omega
            case d4 => omega
            case d5 => simp; omega
            intro v' w4 hown4 hgrow _
            obtain ⟨gg, cap, rfl⟩ := row_some hown4
            have hL := HL.out
            have hblk : ∀ g, (Value.slice sa all.length sc).ownBlock = some g → w.heap.size + 1 ≤ g ∧ g < wr.heap.size := fun g hg => ⟨own_blk hL.own.row hg, (hL.own.row.lt g hg).2⟩
            have hN : Hid (Stg w T w4 (k + 1) (k + 1) (all ++ [⟨kd, xs, lnn⟩]) u.l (.slice (some ⟨gg, 0, none⟩) (all.length + 1) cap) (vals ++ [.slice oa ol oc])) := by
              have hsz := hgrow.size
              have hs2 := HB.out.size
              refine ⟨World.ownsMap.kept (hL.map.below HB.out) hgrow (fun e => by have := (hblk _ e.symm).1; omega), hL.own.push (s := ⟨kd, xs, lnn⟩) HB.out hgrow hown4 HO.out ⟨_, _, _, rfl⟩, ?_, by omega, by omega, by have := HLT.out; omega, hHOK2.out, ?_, by omega, hlu.2, by have := hL.cnt; simp; omega⟩
              · exact (hL.low.trans (HB.out.mono hL.low.size)).trans ⟨hgrow.os, hgrow.tape, hgrow.output, hgrow.size, fun j hj => hgrow.block j (by omega) (fun e => by have := (hblk _ e.symm).1; omega)⟩
              · rw [decide_eq_false (by omega)]
                exact HGD.out
            have htk4 : w4.heap[wr.heap.size]? = _ := (hgrow.block _ (by simp; omega) (fun e => by have := (hblk _ e.symm).2; omega)).trans ((Below.heap_alloc _ _ _ (by simp; omega)).trans ((Below.heap_alloc _ _ _ (by omega)).trans htk2))
            have d3 := cell_of_row w4 _ 3 _ _ _ htk4
            simp at d3
            have hLT := HLT.out
            clear hL hgrow hown4 htk4 htk2 hlow2 hb2 hbw hblk hrow4
            go_wp2_with fail
            go_roundw
            case rel => exact ⟨k + 1, k + 1, all ++ [⟨kd, xs, lnn⟩], u.l, some ⟨gg, 0, none⟩, cap, vals ++ [.slice oa ol oc], by go_num, by go_num, rfl, by simp, hN.out⟩
            case measure => simp [intOf]; omega
      · have e4 : (T[k].k != 4) = true := by simp [h4]
        have hN : Hid (Stg w T (wr.alloc (.cells #[.int .i64 T[k].k, .string (strB T[k].s), .int .i64 T[k].n, .int .i64 T[k].l] 100)) (k + 1) bg all last (.slice sa all.length sc) vals) := hL.other hlt h4 _
        rw [hu] at hN e4 b0 b1 b2 b3
        clear hL h4 hu htk
        go_wp2_with fail
        go_roundw
        case rel => exact ⟨k + 1, bg, all, last, sa, sc, vals, by go_num, rfl, rfl, rfl, hN.out⟩
        case measure => simp [intOf]; omega
    · obtain rfl : k = T.length := by omega
      have hgo := hL.go
      rw [List.drop_length] at hgo
      simp only [stmF] at hgo
      by_cases h2 : all.length ≤ 2
      · rw [if_pos h2] at hgo
        have HP : Hid (StmPost T w (.returned (.tuple #[.slice none 0 0, .int .i64 (last + 1)])) wr) := ⟨hL.low, .inl ⟨_, hgo, rfl⟩⟩
        clear hgo hL
        go_wp2_with fail
        exact bodyPost_ret (v := .tuple #[.slice none 0 0, .int .i64 (last + 1)]) (by simp [results, Tryd.results21, go_sem]) rfl HP.out
      · rw [if_neg h2] at hgo
        have hd2 : decide (all.length ≤ 2) = false := by simpa using h2
        have hd3 : decide ((all.length : Int) ≤ 2) = false := by simp; omega
        have HP : Hid (StmPost T w (.returned (.tuple #[.slice sa all.length sc, .int .i64 0])) wr) := ⟨hL.low, .inr ⟨_, _, _, hgo, rfl, hL.own.slS⟩⟩
        clear hgo hL
        go_wp2_with fail
        exact bodyPost_ret (v := .tuple #[.slice sa all.length sc, .int .i64 0]) (by simp [results, Tryd.results21, go_sem]) rfl HP.out
end Go.Proofs.YtdpagipbaddnfaaDoor
namespace Go.Proofs.YtdpagipbaddnfaaDoor
open Go.RowKit L3
open C2 (inB shapeI insV Tab)

theorem awithin_any (v lo hi : Int) (w : World) : Calls Tryd.prog 69 #[.int .i64 v, .int .i64 lo, .int .i64 hi] w fun e w' => e = .returned (.bool (inB v lo hi)) ∧ w' = w := by
  by_cases h1 : lo ≤ v
  · by_cases h2 : v ≤ hi
    · have e : inB v lo hi = true := by simp [inB, h1, h2]
      rw [e]
      clear e
      go_enter Tryd.func69, Tryd.ntmps69
      go_wp2
      go_ret
      exact ⟨rfl, rfl⟩
    · have e : inB v lo hi = false := by simp [inB, h2]
      have h3 : decide (v ≤ hi) = false := by simpa using h2
      rw [e]
      clear e
      go_enter Tryd.func69, Tryd.ntmps69
      go_wp2
      go_ret
      exact ⟨rfl, rfl⟩
  · have e : inB v lo hi = false := by simp [inB, h1]
    have h3 : decide (lo ≤ v) = false := by simpa using h1
    rw [e]
    clear e
    go_enter Tryd.func69, Tryd.ntmps69
    go_wp2
    go_ret
    exact ⟨rfl, rfl⟩
theorem one_op {w : World} {v : Value} {xs : List Int} (h : SlN w v xs) (h1 : xs.length = 1) : ∃ g f c, v = .slice (some ⟨g, f, none⟩) 1 c ∧ w.cell? ⟨g, f, none⟩ = some (.int .i64 (x0 xs)) := by
  obtain ⟨a, c, rfl, hk⟩ := h
  obtain ⟨g, f, rfl, hc⟩ := hk 0 (by omega)
  refine ⟨g, f, c, by rw [h1], ?_⟩
  have e : x0 xs = xs[0] := by simp [x0, List.getD_eq_getElem?_getD, List.getElem?_eq_getElem (show 0 < xs.length by omega)]
  rw [e]
  simpa using hc
set_option maxRecDepth 4000 in
theorem inRange_any (k : Nat) (xs : List Int) (l : Int) (v : Value) (w : World) (hT : Tab w) (hS : SlN w v xs) (hx : (xs.length : Int) = opsOf k) (hk : k ≤ 19) :
    Calls Tryd.prog 51 #[.agg #[.int .i64 (k : Int), v, .int .i64 l]] w fun e w' => e = .returned (.bool (rangeB ⟨k, xs, l⟩)) ∧ Below w.heap.size w w' := by
  have hb : Below w.heap.size w (w.alloc (.cells #[.int .i64 (k : Int), v, .int .i64 l] 102)) := below_one _ _
  by_cases h15 : k ≤ 15
  · have e1 : ((k : Int) == 16) = false := by simp; omega
    have e2 : ((k : Int) == 17) = false := by simp; omega
    have e3 : ((k : Int) == 18) = false := by simp; omega
    have e4 : ((k : Int) == 19) = false := by simp; omega
    have e5 : rangeB ⟨k, xs, l⟩ = shapeI (insOf k xs) := by
      simp only [rangeB]
      rw [if_neg (by omega), if_neg (by omega), if_neg (by omega), if_neg (by omega)]
    have h3 : xs.length ≤ 3 := by have := opsOf_bd k; omega
    have hS2 := hS.kept hb
    have hins := instruction_any k xs v _ h3 hS2
    rw [e5]
    obtain ⟨a, c, rfl, _⟩ := hS
    have hT2 := hT.below hb
    have HB : Hid (Below w.heap.size w (w.alloc (.cells #[.int .i64 (k : Int), .slice a xs.length c, .int .i64 l] 102))) := hb
    clear e5 h3 hS2 hb hT
    go_enter Tryd.func51, Tryd.ntmps51
    go_wp2_with fail
    refine hins.mono ?_
    rintro e w1 ⟨rfl, hb1⟩
    have hT3 := hT2.below hb1
    unfold insV
    go_wp2_with fail
    refine (C2.shape_any _ _ _ _ w1 hT3).mono ?_
    rintro e w2 ⟨rfl, hb2⟩
    have HP : Hid (Below w.heap.size w w2) := below_then (below_then HB.out hb1) hb2
    go_wp2_with fail
    go_ret
    exact ⟨rfl, HP.out⟩
  · have hk4 : k = 16 ∨ k = 17 ∨ k = 18 ∨ k = 19 := by omega
    rcases hk4 with rfl | rfl | rfl | rfl
    · obtain ⟨g, f, c, rfl, hc⟩ := one_op hS (by have : opsOf 16 = 1 := rfl; omega)
      have hg := block_lt_of_cell hc
      have e5 : rangeB ⟨16, xs, l⟩ = inB (x0 xs) 0 16 := rfl
      rw [e5]
      have HB : Hid _ := hb
      clear hb hS e5
      go_enter Tryd.func51, Tryd.ntmps51
      go_wp2_with (go_at_call 69; refine (awithin_any _ _ _ _).mono ?_; rintro e w1 ⟨rfl, rfl⟩)
      go_ret
      exact ⟨rfl, HB.out⟩
    · obtain ⟨g, f, c, rfl, hc⟩ := one_op hS (by have : opsOf 17 = 1 := rfl; omega)
      have hg := block_lt_of_cell hc
      have e5 : rangeB ⟨17, xs, l⟩ = inB (x0 xs) 0 5 := rfl
      rw [e5]
      have HB : Hid _ := hb
      clear hb hS e5
      go_enter Tryd.func51, Tryd.ntmps51
      go_wp2_with (go_at_call 69; refine (awithin_any _ _ _ _).mono ?_; rintro e w1 ⟨rfl, rfl⟩)
      go_ret
      exact ⟨rfl, HB.out⟩
    · obtain ⟨g, f, c, rfl, hc⟩ := one_op hS (by have : opsOf 18 = 1 := rfl; omega)
      have hg := block_lt_of_cell hc
      have e5 : rangeB ⟨18, xs, l⟩ = inB (x0 xs) 1 500 := rfl
      rw [e5]
      have HB : Hid _ := hb
      clear hb hS e5
      go_enter Tryd.func51, Tryd.ntmps51
      go_wp2_with (go_at_call 69; refine (awithin_any _ _ _ _).mono ?_; rintro e w1 ⟨rfl, rfl⟩)
      go_ret
      exact ⟨rfl, HB.out⟩
    · obtain ⟨a, c, rfl, _⟩ := hS
      have e5 : rangeB ⟨19, xs, l⟩ = true := rfl
      rw [e5]
      have HB : Hid _ := hb
      clear hb e5
      go_enter Tryd.func51, Tryd.ntmps51
      go_wp2_with fail
      go_ret
      exact ⟨rfl, HB.out⟩
theorem SlS.at {w : World} {sa : Option Addr} {sc : Nat} {all : List Sm} (h : SlS w (.slice sa all.length sc) all) {k : Nat} (hk : k < all.length) : ∃ g f oa ol oc, sa = some ⟨g, f, none⟩ ∧ w.cell? ⟨g, f + k * 3, none⟩ = some (.int .i64 (all[k].k : Int)) ∧ w.cell? ⟨g, f + k * 3 + 1, none⟩ = some (.slice oa ol oc) ∧ w.cell? ⟨g, f + k * 3 + 2, none⟩ = some (.int .i64 all[k].l) ∧ SlN w (.slice oa ol oc) all[k].xs := by
  obtain ⟨a, c, e, hh⟩ := h
  simp at e
  obtain ⟨rfl, rfl⟩ := e
  exact hh k hk
set_option maxRecDepth 4000 in
theorem firstOut_any (all : List Sm) (sa : Option Addr) (sc : Nat) (w : World) (hT : Tab w) (hS : SlS w (.slice sa all.length sc) all) (ho : Oks all) (hn : all.length ≤ 20000) :
    Calls Tryd.prog 24 #[.slice sa all.length sc] w fun e w' => e = .returned (.int .i64 (outF all)) ∧ Below w.heap.size w w' := by
  go_enter Tryd.func24, Tryd.ntmps24
  go_wp2_with fail
  go_loopw [7] (fun i wr => ∃ k : Nat, k ≤ all.length ∧ i = .int .i64 k ∧ outF all = outF (all.drop k) ∧ Below w.heap.size w wr) (fun i _ => all.length - (intOf i).toNat)
  case atStart => exact ⟨0, by omega, rfl, rfl, Below.refl _ _⟩
  case round =>
    obtain ⟨k, hk, rfl, hout, hb⟩ := hrel
    by_cases hlt : k < all.length
    · obtain ⟨g, f, oa, ol, oc, rfl, c0, c1, c2, hN⟩ := (hS.kept hb).at hlt
      have hg := block_lt_of_cell c0
      have hok := ho k hlt
      rw [List.drop_eq_getElem_cons hlt] at hout
      obtain ⟨s, hs⟩ : ∃ s, all[k] = s := ⟨_, rfl⟩
      rw [hs] at c0 c2 hN hok hout
      have hrg := inRange_any s.k s.xs s.l (.slice oa ol oc) (wr.alloc (.cells #[.int .i64 (s.k : Int), .slice oa ol oc, .int .i64 s.l] 102)) (hT.below (below_alloc hb _)) (hN.kept (below_one _ _)) hok.ops hok.hi
      have HO : Hid (outF all = outF (s :: all.drop (k + 1))) := hout
      have HB : Hid (Below w.heap.size w wr) := hb
      clear hs hN hok hout hb
      cases hr : rangeB s with
      | true =>
        have hr' : rangeB ⟨s.k, s.xs, s.l⟩ = true := hr
        have HO2 : Hid (outF all = outF (all.drop (k + 1))) := by have := HO.out; simp only [outF, hr, if_true] at this; exact this
        rw [hr'] at hrg
        clear hr hr' HO
        go_wp2_with fail
        refine hrg.mono ?_
        rintro e w1 ⟨rfl, hb1⟩
        have HB2 : Hid (Below w.heap.size w w1) := below_then (below_alloc HB.out _) hb1
        clear hb1
        go_wp2_with fail
        go_roundw
        case rel => exact ⟨k + 1, by omega, by go_num, HO2.out, HB2.out⟩
        case measure => simp [intOf]; omega
      | false =>
        have hr' : rangeB ⟨s.k, s.xs, s.l⟩ = false := hr
        have ho2 : outF all = s.l := by have := HO.out; simp only [outF, hr] at this; simpa using this
        have HO2 : Hid (outF all = s.l) := ho2
        rw [hr'] at hrg
        clear hr hr' HO ho2
        go_wp2_with fail
        refine hrg.mono ?_
        rintro e w1 ⟨rfl, hb1⟩
        have HB2 : Hid (Below w.heap.size w w1) := below_then (below_alloc HB.out _) hb1
        have d2 : w1.cell? ⟨wr.heap.size, 2, none⟩ = some (.int .i64 s.l) := by
          rw [World.cell?_of_block (hb1.block _ (by simp))]
          simp
        clear hb1
        go_wp2_with fail
        go_ret
        exact ⟨by rw [HO2.out]; rfl, HB2.out⟩
    · obtain rfl : k = all.length := by omega
      rw [List.drop_length] at hout
      have HO : Hid (outF all = 0) := hout
      have HB : Hid (Below w.heap.size w wr) := hb
      clear hout hb
      go_wp2_with fail
      go_ret
      exact ⟨by rw [HO.out]; rfl, HB.out⟩
end Go.Proofs.YtdpagipbaddnfaaDoor
namespace Go.Proofs.YtdpagipbaddnfaaDoor
open Go.RowKit L3

def opn (o : Bool) (T : List Tk) : Bool := match T.getLast? with | some t => t.k != 4 | none => o
theorem opn_false (T : List Tk) : opn false T = openT T := rfl
theorem opn_cons (o : Bool) (a : Tk) (T : List Tk) : opn o (a :: T) = opn (a.k != 4) T := by
  cases T with
  | nil => simp [opn]
  | cons b r =>
    unfold opn
    rw [List.getLast?_cons_cons, List.getLast?_eq_some_getLast (by simp)]
theorem goodT_snoc : ∀ (T : List Tk) (o : Bool) (t : Tk), goodT o T → (t.k = 4 → opn o T = true) → goodT o (T ++ [t])
  | [], o, t, _, h4 => by
    simp only [List.nil_append, goodT]
    split
    · exact ⟨by have := h4 (by assumption); simpa [opn] using this, trivial⟩
    · trivial
  | a :: T, o, t, h, h4 => by
    simp only [List.cons_append, goodT] at h ⊢
    split at h
    · rename_i ha
      rw [if_pos ha]
      refine ⟨h.1, goodT_snoc T false t h.2 fun e => ?_⟩
      have := h4 e
      rw [opn_cons, ha] at this
      exact this
    · rename_i ha
      rw [if_neg ha]
      refine goodT_snoc T true t h fun e => ?_
      have := h4 e
      rw [opn_cons, show (a.k != 4) = true by simpa using ha] at this
      exact this
/-- no empty line; words of at most m bytes -/
structure Gd (st : St) (m : Nat) : Prop where
  good : goodT false st.T
  word : ∀ t ∈ st.T, t.s.length ≤ m
theorem Gd.mono {st : St} {m m' : Nat} (h : Gd st m) (hm : m ≤ m') : Gd st m' := ⟨h.good, fun t ht => by have := h.word t ht; omega⟩
theorem Gd.add {T : List Tk} {m : Nat} (hg : goodT false T) (hw : ∀ t ∈ T, t.s.length ≤ m) (t : Tk) (h4 : t.k = 4 → openT T = true) (hs : t.s.length ≤ m) : goodT false (T ++ [t]) ∧ ∀ u ∈ T ++ [t], u.s.length ≤ m :=
  ⟨goodT_snoc T false t hg h4, fun u hu => by
    simp at hu
    rcases hu with hu | rfl
    · exact hw u hu
    · exact hs⟩
theorem Gd.fin {st s : St} {m : Nat} (h : Gd st m) (hb : Bd st m) (hf : finF st = some s) : Gd s m := by
  unfold finF at hf
  split at hf
  · cases hf
  · split at hf
    · obtain rfl := Option.some.inj hf
      have := Gd.add h.good h.word ⟨1, st.ws, 0, st.ln⟩ (by simp) hb.wd
      exact ⟨this.1, this.2⟩
    · split at hf
      · obtain rfl := Option.some.inj hf
        have := Gd.add h.good h.word ⟨2, [], st.num, st.ln⟩ (by simp) (by simp)
        exact ⟨this.1, this.2⟩
      · obtain rfl := Option.some.inj hf
        exact ⟨h.good, h.word⟩
theorem Gd.oth {st s : St} {m : Nat} {c : Int} (h : Gd st m) (hf : othF st c = some s) : Gd s (m + 1) := by
  have h' := h.mono (Nat.le_succ m)
  unfold othF at hf
  split at hf
  · obtain rfl := Option.some.inj hf
    exact h'
  · split at hf
    · obtain rfl := Option.some.inj hf
      by_cases ho : openT st.T = true
      · have := Gd.add h'.good h'.word ⟨4, [], 0, st.ln⟩ (fun _ => ho) (by simp)
        exact ⟨by simpa [St.endL, ho] using this.1, by simpa [St.endL, ho] using this.2⟩
      · exact ⟨by simpa [St.endL, ho] using h'.good, by simpa [St.endL, ho] using h'.word⟩
    · split at hf
      · obtain rfl := Option.some.inj hf
        exact ⟨h'.good, h'.word⟩
      · split at hf
        · obtain rfl := Option.some.inj hf
          exact ⟨h'.good, h'.word⟩
        · split at hf
          · obtain rfl := Option.some.inj hf
            have := Gd.add h'.good h'.word ⟨3, [L3.byteOf c], 0, st.ln⟩ (by simp) (by simp)
            exact ⟨this.1, this.2⟩
          · cases hf
theorem Gd.take {st s : St} {m : Nat} {c : Int} (h : Gd st m) (hb : Bd st m) (hf : takeF st c = some s) : Gd s (m + 1) := by
  have h' := h.mono (Nat.le_succ m)
  unfold takeF at hf
  split at hf
  · obtain rfl := Option.some.inj hf
    exact h'
  · split at hf
    · unfold letF at hf
      split at hf
      · cases hf
      · obtain rfl := Option.some.inj hf
        exact ⟨h'.good, h'.word⟩
    · split at hf
      · unfold digF at hf
        split at hf
        · cases hf
        · split at hf
          · obtain rfl := Option.some.inj hf
            exact ⟨h'.good, h'.word⟩
          · cases hf
      · cases hs : finF st with
        | none => rw [hs] at hf; cases hf
        | some s1 =>
          rw [hs] at hf
          exact (h.fin hb hs).oth hf
theorem Gd.go : ∀ (l : List UInt8) (st s : St) (m : Nat), Gd st m → Bd st m → lexGo st l = .inr s → Gd s (m + l.length)
  | [], st, s, m, h, _, hl => by cases hl; simpa using h
  | x :: r, st, s, m, h, hb, hl => by
    simp only [lexGo] at hl
    cases ht : takeF st x.toNat with
    | none => rw [ht] at hl; cases hl
    | some s1 =>
      rw [ht] at hl
      have := Gd.go r s1 s (m + 1) (h.take hb ht) (takeF_bd hb ht) hl
      rw [List.length_cons, show m + (r.length + 1) = m + 1 + r.length by omega]
      exact this
theorem lexF_good (l : List UInt8) : goodT false (lexF l).1 ∧ ∀ t ∈ (lexF l).1, t.s.length ≤ 9000 := by
  unfold lexF
  split
  · exact ⟨trivial, by simp⟩
  · split
    · exact ⟨trivial, by simp⟩
    · rename_i st hst
      have h := Gd.go _ st0 st 0 ⟨trivial, by simp [st0]⟩ st0_bd hst
      exact ⟨h.good, fun t ht => by have := h.word t ht; simp at this; omega⟩
theorem lexF_toks (l : List UInt8) : ∀ t ∈ (lexF l).1, t.s.length ≤ 9000 ∧ 1 ≤ t.l ∧ t.l ≤ 9000 := fun t ht => ⟨(lexF_good l).2 t ht, lexF_lines l t ht⟩
end Go.Proofs.YtdpagipbaddnfaaDoor
