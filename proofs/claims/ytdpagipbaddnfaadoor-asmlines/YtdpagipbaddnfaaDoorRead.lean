/-
  A line is read.
-/
import Derived.Test.YtdpagipbaddnfaaDoorIns
namespace Go.Proofs.YtdpagipbaddnfaaDoor
open Go.RowKit L3 Go.Maps
open C2 (owns_mono)

theorem ints_info : (Tryd.prog.info? 3).map (fun i => (i.zero, i.size, i.bytes)) = some (some (.int .i64 0), 1, 8) := by kernel_rfl
theorem cellsN_snoc (xs : List Int) (x : Int) : cellsN (xs ++ [x]) = cellsN xs ++ [.int .i64 x] := by simp [cellsN]
def noneV : Value := .agg #[.int .i64 0, .slice none 0 0, .int .i64 0]
def ReadPost (ts : List Tk) (w : World) (e : Ending) (w' : World) : Prop :=
  Below w.heap.size w w' ∧ ((readF ts = none ∧ e = .returned (.tuple #[noneV, .bool false])) ∨
    ∃ k xs oa ol oc, readF ts = some (k, xs) ∧ e = .returned (.tuple #[.agg #[.int .i64 (k : Int), .slice oa ol oc, .int .i64 (lineOf ts)], .bool true]) ∧ w'.ownsRow w.heap.size 3 1 (.slice oa ol oc) xs.length (cellsN xs))
theorem altG_at {k : Nat} {r : List Tk} (h : k < r.length) : altG k (r.drop k) = if k % 2 = 0 then (if r[k].k = 2 then (altG (k + 1) (r.drop (k + 1))).map (r[k].n :: ·) else none) else (if r[k].s = [44] then altG (k + 1) (r.drop (k + 1)) else none) := by
  rw [List.drop_eq_getElem_cons h]
  rfl
/-- the loop over the operands, behind k tokens -/
structure Rdg (w : World) (R : List Tk) (kd : Nat) (ln : Int) (wr : World) (k : Nat) (ys : List Int) (oa : Option Addr) (ol oc : Nat) : Prop where
  out : wr.heap[w.heap.size]? = some (.cells #[.int .i64 0, .slice none 0 0, .int .i64 0] 102 (0, 0))
  st : wr.heap[w.heap.size + 2]? = some (.cells #[.int .i64 (kd : Int), .slice oa ol oc, .int .i64 ln] 102 (0, 0))
  own : wr.ownsRow (w.heap.size + 3) 3 1 (.slice oa ol oc) ys.length (cellsN ys)
  low : Below w.heap.size w wr
  go : altG 0 R = (altG k (R.drop k)).map (ys ++ ·)
  len : ys.length ≤ k
theorem own_blk {w : World} {B e size n : Nat} {v : Value} {xs : List Value} (h : w.ownsRow B e size v n xs) {g : Nat} (hg : v.ownBlock = some g) : B ≤ g := (h.lt g hg).1
theorem row_some {w : World} {B e size n : Nat} {v : Value} {xs : List Value} (h : w.ownsRow B e size v (n + 1) xs) : ∃ g cap, v = .slice (some ⟨g, 0, none⟩) (n + 1) cap := by
  rcases h.2 with ⟨_, h0⟩ | ⟨g, cap, cur, rfl, _⟩
  · omega
  · exact ⟨g, cap, rfl⟩
section
variable {w wr : World} {R : List Tk} {kd k : Nat} {ln : Int} {ys : List Int} {oa : Option Addr} {ol oc : Nat}
theorem Rdg.next (h : Rdg w R kd ln wr k ys oa ol oc) (o : Obj) (hg : altG 0 R = (altG (k + 1) (R.drop (k + 1))).map (ys ++ ·)) : Rdg w R kd ln (wr.alloc o) (k + 1) ys oa ol oc :=
  ⟨(Below.heap_alloc _ _ _ (lt_of_block h.out)).trans h.out, (Below.heap_alloc _ _ _ (lt_of_block h.st)).trans h.st, h.own.alloc _, h.low.alloc h.low.size _, hg, by have := h.len; omega⟩
theorem Rdg.push (h : Rdg w R kd ln wr k ys oa ol oc) (o1 o2 : Obj) {w4 : World} {gg cap : Nat} {x : Int} (hgrow : ((wr.alloc o1).alloc o2).grownBy w4 (Value.slice oa ol oc).ownBlock)
    (hown : w4.ownsRow (w.heap.size + 3) 3 1 (.slice (some ⟨gg, 0, none⟩) (ys.length + 1) cap) (ys.length + 1) (cellsN ys ++ [.int .i64 x]))
    (hg : altG 0 R = (altG (k + 1) (R.drop (k + 1))).map ((ys ++ [x]) ++ ·)) :
    Rdg w R kd ln (w4.setCell ⟨w.heap.size + 2, 1, none⟩ (.slice (some ⟨gg, 0, none⟩) (ys.length + 1) cap)) (k + 1) (ys ++ [x]) (some ⟨gg, 0, none⟩) (ys.length + 1) cap := by
  have l1 := lt_of_block h.st
  have hb : ∀ j, j < w.heap.size + 3 → w4.heap[j]? = wr.heap[j]? := fun j hj => by
    rw [hgrow.block j (by simp; omega) (fun e => by have := own_blk h.own e.symm; omega), Below.heap_alloc _ _ _ (by simp; omega), Below.heap_alloc _ _ _ (by omega)]
  have hgg : w.heap.size + 3 ≤ gg := own_blk hown rfl
  refine ⟨?_, ?_, ?_, ?_, hg, by have := h.len; simp; omega⟩
  · rw [Below.heap_setCell _ _ _ _ (by simp), hb _ (by omega)]
    exact h.out
  · rw [heap_setCell_same _ _ _ _ _ _ ((hb _ (by omega)).trans h.st)]
    rfl
  · have e : (ys ++ [x]).length = ys.length + 1 := by simp
    rw [e, cellsN_snoc]
    exact owns_same hown fun g hg => Below.heap_setCell _ _ _ _ (by have := own_blk hown hg; show g ≠ w.heap.size + 2; omega)
  · have hs := hgrow.size
    simp at hs
    exact (h.low.trans ⟨hgrow.os, hgrow.tape, hgrow.output, by omega, fun j hj => hb j (by omega)⟩).setCell (by simp) _
end
theorem alloc3_new (w : World) (a b c : Obj) : (((w.alloc a).alloc b).alloc c).heap[w.heap.size + 2]? = some c := by
  have := heap_alloc_new ((w.alloc a).alloc b) c
  rw [show ((w.alloc a).alloc b).heap.size = w.heap.size + 2 by simp] at this
  exact this
theorem str_eq {a b : ByteArray} (h : a = b) : (a.toList == b.toList) = true := by rw [h]; simp
theorem str_ne {a b : ByteArray} (h : ¬ a = b) : (a.toList == b.toList) = false := by
  rw [beq_eq_false_iff_ne]
  intro e
  exact h (WideShapes.bytes_inj (by simpa [ByteArray.toList_eq] using e))
set_option maxHeartbeats 1000000 in
theorem comma_eq {l : List UInt8} (h : l = [44]) : ((strB l).toList == [44]) = true := by simp [ByteArray.toList_eq, strB, h]
theorem comma_ne {l : List UInt8} (h : ¬ l = [44]) : ((strB l).toList == [44]) = false := by simp [ByteArray.toList_eq, strB, h]
theorem two_old {w : World} (o1 o2 : Obj) : Below w.heap.size w ((w.alloc o1).alloc o2) := ((Below.refl _ _).alloc (Nat.le_refl _) _).alloc (by simp) _
theorem tkAt_kept {w w' : World} {g f : Nat} {t : Tk} (h : TkAt w g f t) (hb : Below w.heap.size w w') : TkAt w' g f t := by
  have st : ∀ {x : Addr} {u : Value}, w.cell? x = some u → w'.cell? x = some u := fun {x} {u} hx => by
    rw [World.cell?_of_block (hb.block _ (World.block_lt_of_cell? w x hx))]
    exact hx
  exact ⟨st h.k, st h.s, st h.n, st h.l⟩
def tkRow (t : Tk) : Array Value := #[.int .i64 t.k, .string (strB t.s), .int .i64 t.n, .int .i64 t.l]
theorem sl_from (g f n c : Nat) (h : n + 1 ≤ c) (hm : c ≤ 9223372036854775807) : ∃ ra, (∀ w, (Instr.slice 51 (.slice (some ⟨g, f, none⟩) (n + 1) c) (some (.int .i64 1)) none none).run Tryd.prog w = .ok (.slice ra n (c - 1)) w) ∧ (0 < n → ra = some ⟨g, f + 4, none⟩) := by
  by_cases h1 : c = 1
  · obtain rfl : n = 0 := by omega
    subst h1
    exact ⟨some ⟨g, f, none⟩, fun w => by go_simp, by omega⟩
  · refine ⟨some ⟨g, f + 4, none⟩, fun w => ?_, fun _ => rfl⟩
    go_simp
    intro h2
    omega
theorem readF_none {t : Tk} {r : List Tk} (h : kindOf t.s = 0) : readF (t :: r) = none := by simp [readF, h]
theorem readF_len {t : Tk} {r : List Tk} {kd : Nat} (hk : kindOf t.s = kd) (h : ¬ (r.length : Int) = restOf kd) : readF (t :: r) = none := by simp [readF, hk, h]
theorem readF_at {t : Tk} {r : List Tk} {kd : Nat} (hk : kindOf t.s = kd) (h0 : kd ≠ 0) (h : (r.length : Int) = restOf kd) : readF (t :: r) = (altG 0 r).map fun xs => (kd, xs) := by simp [readF, hk, h0, h]
set_option maxRecDepth 4000 in
set_option maxHeartbeats 1000000 in
theorem read_any (t : Tk) (r : List Tk) (g f c B : Nat) (w : World) (hS : TkAt w g f t) (hR : ∀ k (h : k < r.length), TkAt w g (f + 4 + k * 4) r[k]) (hc : r.length + 1 ≤ c) (hcm : c ≤ 9223372036854775807) (hK : KMap w B) (hF : FTab w) (hts : t.s.length ≤ 9000) :
    Calls Tryd.prog 44 #[.slice (some ⟨g, f, none⟩) (r.length + 1) c, .map (some B)] w fun e w' => ReadPost (t :: r) w e w' := by
  obtain ⟨a0, a1, a2, a3⟩ := hS
  have hgl : g < w.heap.size := block_lt_of_cell a0
  obtain ⟨kd, hkd⟩ : ∃ kd, kindOf t.s = kd := ⟨_, rfl⟩
  have hk19 : kd ≤ 19 := by rw [← hkd]; exact kindOf_le _
  have hat19 := map19_at t.s
  have hhas := map19_has t.s
  rw [hkd] at hat19 hhas
  have HAT : Hid (map19.atKey (.string t.s) (.lit (.int .i64 0)) = .lit (.int .i64 (kd : Int))) := hat19
  obtain ⟨S, hSd⟩ : ∃ S, S = strB t.s := ⟨_, rfl⟩
  have hkey : keyOf Tryd.prog 9 (.string S) = some (.string t.s) := by
    rw [WideMaps.keyOf_string_mk Tryd.underlying9 (by rw [hSd, strB_size]; unfold maxLen; omega), hSd, strB_data]
  rw [← hSd] at a1
  have hK2 : KMap (((w.alloc (.cells #[.int .i64 0, .slice none 0 0, .int .i64 0] 102)).alloc (.cells #[.int .i64 t.k, .string S, .int .i64 t.n, .int .i64 t.l] 100))) B := hK.below (two_old _ _)
  obtain ⟨ra, hsl, hra⟩ := sl_from g f r.length c hc hcm
  have hlow0 : Below w.heap.size w (((w.alloc (.cells #[.int .i64 0, .slice none 0 0, .int .i64 0] 102)).alloc (.cells #[.int .i64 t.k, .string S, .int .i64 t.n, .int .i64 t.l] 100))).drew := (two_old _ _).drew
  have HKD : Hid (kindOf t.s = kd) := hkd
  clear hSd hat19 hkd
  by_cases h0 : kd = 0
  · have hhas0 : Maps.has map19 (.string t.s) = false := by rw [hhas, h0]; rfl
    have HP : Hid (ReadPost (t :: r) w (.returned (.tuple #[noneV, .bool false])) (((w.alloc (.cells #[.int .i64 0, .slice none 0 0, .int .i64 0] 102)).alloc (.cells #[.int .i64 t.k, .string S, .int .i64 t.n, .int .i64 t.l] 100))).drew) := ⟨hlow0, .inl ⟨readF_none (by rw [HKD.out, h0]), rfl⟩⟩
    clear hhas hlow0 hra hR
    go_enter Tryd.func44, Tryd.ntmps44
    go_wp2_with fail
    go_region
    go_wp2_with (first | (at_lookup; refine wpList_lookup_own_ok_int _ rfl _ _ 97 rfl 9 3 .i64 keyLaw Tryd.underlying97 Tryd.underlying3 (zeroInt _) B 19 map19 rfl (World.ownsMap.drew hK2) _ _ rfl hkey ?_; intro c' hat hwc))
    exact bodyPost_ret (v := .tuple #[noneV, .bool false]) (by simp [results, Tryd.results44, go_sem, noneV]) rfl HP.out
  · have hhas1 : Maps.has map19 (.string t.s) = true := by rw [hhas]; simpa using h0
    have hF2 := (hF.below (two_old (w := w) (.cells #[.int .i64 0, .slice none 0 0, .int .i64 0] 102) (.cells #[.int .i64 t.k, .string S, .int .i64 t.n, .int .i64 t.l] 100)) kd (by omega)).2
    obtain ⟨ob1, ob2⟩ := opsOf_bd kd
    obtain ⟨op, hop⟩ : ∃ op, opsOf kd = op := ⟨_, rfl⟩
    obtain ⟨q, hq⟩ : ∃ q, (if 0 < 2 * op - 1 then 2 * op - 1 else 0) = q := ⟨_, rfl⟩
    have hrest : restOf kd = q := by rw [restOf, hop, ← hq]; split <;> omega
    have hq1 : 0 ≤ q ∧ q ≤ 5 := by rw [← hq]; split <;> omega
    have hmx : ∀ (w : World), (Builtin.max_ #[3, 3] 3 #[.int .i64 0, .int .i64 (2 * op - 1)]).run Tryd.prog w = .ok (.int .i64 q) w := fun w => by
      rw [run_max_int2, ← hq]
    rw [hop] at hF2 ob1 ob2
    clear hhas hop hq
    by_cases hlen : (r.length : Int) = q
    · have hd : ((r.length : Int) != q) = false := by simpa using hlen
      have hrd := readF_at HKD.out h0 (by rw [hrest]; exact hlen)
      have HRD : Hid (readF (t :: r) = (altG 0 r).map fun xs => (kd, xs)) := hrd
      have HLOW : Hid (Below w.heap.size w (((w.alloc (.cells #[.int .i64 0, .slice none 0 0, .int .i64 0] 102)).alloc (.cells #[.int .i64 t.k, .string S, .int .i64 t.n, .int .i64 t.l] 100))).drew) := hlow0
      clear hlow0 hrest hrd
      go_enter Tryd.func44, Tryd.ntmps44
      go_wp2_with fail
      go_region
      go_wp2_with (first | (at_lookup; refine wpList_lookup_own_ok_int _ rfl _ _ 97 rfl 9 3 .i64 keyLaw Tryd.underlying97 Tryd.underlying3 (zeroInt _) B 19 map19 rfl (World.ownsMap.drew hK2) _ _ rfl hkey ?_; intro c' hat hwc; obtain rfl : (kd : Int) = c' := by (have := HAT.out.symm.trans hat; simpa using this)))
      have hL0 : Rdg w r kd t.l ((((w.alloc (.cells #[.int .i64 0, .slice none 0 0, .int .i64 0] 102)).alloc (.cells #[.int .i64 t.k, .string S, .int .i64 t.n, .int .i64 t.l] 100))).alloc (.cells #[.int .i64 (kd : Int), .slice none 0 0, .int .i64 t.l] 102)).drew 0 [] none 0 0 :=
        ⟨(Below.heap_alloc _ _ _ (by simp; omega)).trans (heap_alloc2_old w _ _), alloc3_new w _ _ _, World.ownsRow_nil _ _ _ _, ((two_old _ _).alloc (by simp; omega) _).drew, by simp, by simp⟩
      clear hK2 hkey a0 a1 a2 a3 hd hF2 hmx hsl ob1 ob2 HAT hhas1
      obtain ⟨i0, hi, hz0, hz1, hz2⟩ := info_parts ints_info
      go_loopw [46] (fun i wr => ∃ (k : Nat) (ys : List Int) (oa : Option Addr) (ol oc : Nat), k ≤ r.length ∧ i = .int .i64 k ∧ Rdg w r kd t.l wr k ys oa ol oc) (fun i _ => r.length - (intOf i).toNat)
      case atStart => exact ⟨0, [], none, 0, 0, by omega, rfl, hL0⟩
      case round =>
        obtain ⟨k, ys, oa, ol, oc, hk, rfl, hL⟩ := hrel
        clear hL0
        have s0 := cell_of_row wr _ 0 _ _ _ hL.st
        have s1 := cell_of_row wr _ 1 _ _ _ hL.st
        have s2 := cell_of_row wr _ 2 _ _ _ hL.st
        have g1 := frozen_of_row wr _ 1 _ _ hL.st
        have o0 := cell_of_row wr _ 0 _ _ _ hL.out
        have o1 := cell_of_row wr _ 1 _ _ _ hL.out
        have o2 := cell_of_row wr _ 2 _ _ _ hL.out
        have q0 := frozen_of_row wr _ 0 _ _ hL.out
        have q1 := frozen_of_row wr _ 1 _ _ hL.out
        have q2 := frozen_of_row wr _ 2 _ _ hL.out
        simp at s0 s1 s2 o0 o1 o2
        have hst := lt_of_block hL.st
        have hout := lt_of_block hL.out
        have hst' : w.heap.size + 1 + 1 < wr.heap.size := hst
        have s1' : wr.cell? ⟨w.heap.size + 1 + 1, 1, none⟩ = some (.slice oa ol oc) := s1
        have g1' : wr.frozen? ⟨w.heap.size + 1 + 1, 1, none⟩ = false := g1
        by_cases hlt : k < r.length
        · obtain rfl := hra (by omega)
          obtain ⟨b0, b1, b2, b3⟩ := tkAt_kept (hR k hlt) hL.low
          have hgo := hL.go
          rw [altG_at hlt] at hgo
          have hgw := block_lt_of_cell b0
          obtain ⟨u, hu⟩ : ∃ u, r[k] = u := ⟨_, rfl⟩
          rw [hu] at hgo b0 b1 b2 b3
          have hm2 : k % 2 = 0 ∨ k % 2 = 1 := by omega
          have HN : Hid (∀ (W : World), Below w.heap.size w W → altG 0 r = none → ReadPost (t :: r) w (.returned (.tuple #[noneV, .bool false])) W) := fun W hb hn => ⟨hb, .inl ⟨by rw [HRD.out, hn]; rfl, rfl⟩⟩
          have hwl : w.heap.size ≤ wr.heap.size := by omega
          rcases hm2 with hm | hm
          · have e1 : (k : Int) % 2 = 0 := by omega
            by_cases hu2 : u.k = 2
            · have e2 : (u.k == 2) = true := by simp [hu2]
              rw [if_pos hm, if_pos hu2, Option.map_map] at hgo
              have HGO : Hid (altG 0 r = (altG (k + 1) (r.drop (k + 1))).map ((ys ++ [u.n]) ++ ·)) := hgo.trans (by congr 1; funext z; simp)
              have hown2 := (hL.own.alloc (.cells #[.int .i64 u.k, .string (strB u.s), .int .i64 u.n, .int .i64 u.l] 100)).alloc (.cells #[.int .i64 u.n] 3)
              have hyl : ys.length ≤ 20000 := by have := hL.len; omega
              clear hgo hu hu2
              go_wp2_with (at_builtin; refine wpList_append_own _ rfl _ _ 34 rfl (w.heap.size + 3) 3 i0 (.int .i64 0) 1 8 Tryd.underlying34 hi hz0 hz1 hz2 rfl (by decide) _ _ _ rfl hown2 ⟨wr.heap.size + 1, 0, none⟩ 1 1 [.int .i64 u.n] rfl rfl ?d1 ?d2 ?d3 ?d4 ?d5 ?_)
              case d2 => rfl
              case d3 => unfold maxLen; omega
              case d4 => omega
              case d5 => omega
              intro v' w4 hown4 hgrow _
              obtain ⟨gg, cap, rfl⟩ := row_some hown4
              have hLn : Hid (Rdg w r kd t.l (w4.setCell ⟨w.heap.size + 2, 1, none⟩ (.slice (some ⟨gg, 0, none⟩) (ys.length + 1) cap)) (k + 1) (ys ++ [u.n]) (some ⟨gg, 0, none⟩) (ys.length + 1) cap) := hL.push _ _ hgrow hown4 HGO.out
              have hst4 : w4.heap[w.heap.size + 2]? = _ := (hgrow.block _ (by simp; omega) (fun e => by have := own_blk hL.own e.symm; omega)).trans ((Below.heap_alloc _ _ _ (by simp; omega)).trans ((Below.heap_alloc _ _ _ (by omega)).trans hL.st))
              have t1 := cell_of_row w4 _ 1 _ _ _ hst4
              have t2 := frozen_of_row w4 _ 1 _ _ hst4
              simp at t1
              have t1' : w4.cell? ⟨w.heap.size + 1 + 1, 1, none⟩ = some (.slice oa ol oc) := t1
              have t2' : w4.frozen? ⟨w.heap.size + 1 + 1, 1, none⟩ = false := t2
              clear hst4 hown4 hgrow hown2 hL
              go_wp2_with fail
              go_roundw
              case rel => exact ⟨k + 1, ys ++ [u.n], _, _, _, by omega, by go_num, hLn.out⟩
              case measure => simp [intOf]; omega
            · have e2 : (u.k == 2) = false := by simp [hu2]
              rw [if_pos hm, if_neg hu2] at hgo
              simp only [Option.map_none] at hgo
              have HP2 : Hid (ReadPost (t :: r) w (.returned (.tuple #[noneV, .bool false])) ((((wr.setCell ⟨w.heap.size, 0, none⟩ (.int .i64 0)).setCell ⟨w.heap.size, 1, none⟩ (.slice none 0 0)).setCell ⟨w.heap.size, 2, none⟩ (.int .i64 0)).alloc (.cells #[.int .i64 u.k, .string (strB u.s), .int .i64 u.n, .int .i64 u.l] 100))) := HN.out _ ((((hL.low.setCell (by simp) _).setCell (by simp) _).setCell (by simp) _).alloc (by simp [World.setCell]; omega) _) hgo
              clear hgo hu hL
              go_wp2_with fail
              exact bodyPost_ret (v := .tuple #[noneV, .bool false]) (by simp [results, Tryd.results44, go_sem, noneV, o0, o1, o2, hout]) rfl HP2.out
          · have e1 : (k : Int) % 2 = 1 := by omega
            by_cases hu2 : u.s = [44]
            · have e2 := comma_eq hu2
              rw [if_neg (by omega), if_pos hu2] at hgo
              have hLn : Hid (Rdg w r kd t.l (wr.alloc (.cells #[.int .i64 u.k, .string (strB u.s), .int .i64 u.n, .int .i64 u.l] 100)) (k + 1) ys oa ol oc) := hL.next _ hgo
              clear hgo hu hu2 hL
              go_wp2_with fail
              go_roundw
              case rel => exact ⟨k + 1, ys, _, _, _, by omega, by go_num, hLn.out⟩
              case measure => simp [intOf]; omega
            · have e2 := comma_ne hu2
              rw [if_neg (by omega), if_neg hu2] at hgo
              simp only [Option.map_none] at hgo
              have HP2 : Hid (ReadPost (t :: r) w (.returned (.tuple #[noneV, .bool false])) ((((wr.setCell ⟨w.heap.size, 0, none⟩ (.int .i64 0)).setCell ⟨w.heap.size, 1, none⟩ (.slice none 0 0)).setCell ⟨w.heap.size, 2, none⟩ (.int .i64 0)).alloc (.cells #[.int .i64 u.k, .string (strB u.s), .int .i64 u.n, .int .i64 u.l] 100))) := HN.out _ ((((hL.low.setCell (by simp) _).setCell (by simp) _).setCell (by simp) _).alloc (by simp [World.setCell]; omega) _) hgo
              clear hgo hu hL
              go_wp2_with fail
              exact bodyPost_ret (v := .tuple #[noneV, .bool false]) (by simp [results, Tryd.results44, go_sem, noneV, o0, o1, o2, hout]) rfl HP2.out
        · obtain rfl : k = r.length := by omega
          have hgo := hL.go
          rw [List.drop_length] at hgo
          simp only [altG, Option.map_some, List.append_nil] at hgo
          have hrd := HRD.out
          rw [hgo] at hrd
          have HP : Hid (ReadPost (t :: r) w (.returned (.tuple #[.agg #[.int .i64 (kd : Int), .slice oa ol oc, .int .i64 t.l], .bool true])) (((wr.setCell ⟨w.heap.size, 0, none⟩ (.int .i64 (kd : Int))).setCell ⟨w.heap.size, 1, none⟩ (.slice oa ol oc)).setCell ⟨w.heap.size, 2, none⟩ (.int .i64 t.l))) := by
            refine ⟨((hL.low.setCell (by simp) _).setCell (by simp) _).setCell (by simp) _, .inr ⟨kd, ys, oa, ol, oc, hrd, rfl, ?_⟩⟩
            refine owns_mono (owns_same hL.own fun g hg => ?_) (by omega)
            have := own_blk hL.own hg
            rw [Below.heap_setCell _ _ _ _ (by simp; omega), Below.heap_setCell _ _ _ _ (by simp; omega), Below.heap_setCell _ _ _ _ (by simp; omega)]
          clear hgo hrd
          go_wp2_with fail
          exact bodyPost_ret (v := .tuple #[.agg #[.int .i64 (kd : Int), .slice oa ol oc, .int .i64 t.l], .bool true]) (by simp [results, Tryd.results44, go_sem, o0, o1, o2]) rfl HP.out
    · have hd : ((r.length : Int) != q) = true := by simpa using hlen
      have HP : Hid (ReadPost (t :: r) w (.returned (.tuple #[noneV, .bool false])) (((w.alloc (.cells #[.int .i64 0, .slice none 0 0, .int .i64 0] 102)).alloc (.cells #[.int .i64 t.k, .string S, .int .i64 t.n, .int .i64 t.l] 100))).drew) := ⟨hlow0, .inl ⟨readF_len HKD.out (by rw [hrest]; exact hlen), rfl⟩⟩
      clear hlow0 hra hR hrest
      go_enter Tryd.func44, Tryd.ntmps44
      go_wp2_with fail
      go_region
      go_wp2_with (first | (at_lookup; refine wpList_lookup_own_ok_int _ rfl _ _ 97 rfl 9 3 .i64 keyLaw Tryd.underlying97 Tryd.underlying3 (zeroInt _) B 19 map19 rfl (World.ownsMap.drew hK2) _ _ rfl hkey ?_; intro c' hat hwc; obtain rfl : (kd : Int) = c' := by (have := HAT.out.symm.trans hat; simpa using this)))
      exact bodyPost_ret (v := .tuple #[noneV, .bool false]) (by simp [results, Tryd.results44, go_sem, noneV]) rfl HP.out
end Go.Proofs.YtdpagipbaddnfaaDoor
