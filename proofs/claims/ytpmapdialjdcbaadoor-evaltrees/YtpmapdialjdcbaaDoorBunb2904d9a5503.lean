/-
  Helpers: EvL.
-/
import Derived.Test.YtpmapdialjdcbaaDoorBunf9f162ac943a
namespace Go.Proofs.YtpmapdialjdcbaaDoor
open Go.RowKit
open C2 (In Pr SlF SlI InsAt still_of_below below_then)
open K6 (Ky)

theorem infoRan : (Tryd.prog.info? 60).map (fun i => (i.zero, i.size, i.bytes)) = some (some (.agg #[.int .i64 0, .int .i64 0, .int .i64 0, .int .i64 0, .int .i64 0]), 5, 40) := by kernel_rfl
theorem rnC_one (t : Rn) : ∀ u ∈ rnC t, u.oneCell' = true := by
  intro u hu
  simp [rnC] at hu
  rcases hu with rfl | rfl | rfl | rfl | rfl <;> rfl
theorem rnC_new (w : World) (t : Rn) (e : TypeId) : ∀ j u, (rnC t)[j]? = some u → (w.alloc (.cells #[.int .i64 t.key, .int .i64 t.fn, .int .i64 t.arg, .int .i64 t.e.h, .int .i64 t.e.v] e)).cell? ((⟨w.heap.size, 0, none⟩ : Addr).add j) = some u := by
  intro j u hj
  match j, hj with
  | 0, hj => simp [rnC] at hj; subst hj; simp [Addr.add]
  | 1, hj => simp [rnC] at hj; subst hj; simp [Addr.add]
  | 2, hj => simp [rnC] at hj; subst hj; simp [Addr.add]
  | 3, hj => simp [rnC] at hj; subst hj; simp [Addr.add]
  | 4, hj => simp [rnC] at hj; subst hj; simp [Addr.add]
/-- a new task's box -/
theorem tk_new {E : Ev7} {w : World} {cv : Value} {fn : Nat} {arg k : Int} {fu : Nat} (ha : wrp arg = arg) (hl : E.W0.heap.size ≤ w.heap.size) : Tk7 E (w.alloc (.cells #[.pointer (some ⟨E.bw, 0, none⟩), .int .i64 k, cv, .int .i64 0, .int .i64 fu, .int .i64 0, .int .i64 arg, .int .i64 0, .int .i64 0, .int .i64 0, .int .i64 0, .int .i64 0, .int .i64 0, .int .i64 0, .int .i64 0, .int .i64 0, .int .i64 0, .int .i64 0, .int .i64 0, .int .i64 0, .int .i64 0, .int .i64 0] 82)) w.heap.size cv (ts0 fn arg k fu) := by
  refine ⟨hl, ?_⟩
  rw [heap_alloc_new]
  unfold tkC ts0
  simp only [hdE, ha]
  rfl
/-- the open entry, told with its end -/
def shut7 (d : Wd) (at_ : Nat) (en : En) : Wd := { d with C := d.C.take at_ ++ { (d.C.getD at_ ⟨0, 0, 0, en0⟩) with e := en } :: d.C.drop (at_ + 1) }
theorem run_end {E : Ev7} {n : Nat} {d d6 : Wd} {rv : Value} {r : Rs} {fn : Nat} {arg : Int} {en : En} {kk : Ky} (hp : Ok7 E.p) (ha : wrp arg = arg) (hst : St7 E.p r (ts0 fn arg kk.key E.p.fuel.toNat) kk) (ho : r.over = false) (hr : ∀ x ∈ r.ran, x.key < kk.key) (hbd : Bd d6)
    (h : ((ev7 E.p E.M r (ts0 fn arg kk.key E.p.fuel.toNat)).1.over = false ∧ en = (ev7 E.p E.M r (ts0 fn arg kk.key E.p.fuel.toNat)).2.e ∧ Mt d6 (ev7 E.p E.M r (ts0 fn arg kk.key E.p.fuel.toNat)).1 ∧ ∃ Z, d6.C = ({ d with rv := rv, C := d.C ++ [⟨kk.key, fn, arg, en0⟩] } : Wd).C ++ Z ∧ (ev7 E.p E.M r (ts0 fn arg kk.key E.p.fuel.toNat)).1.ran = r.ran ++ Z) ∨ ((ev7 E.p E.M r (ts0 fn arg kk.key E.p.fuel.toNat)).1.over = true ∧ E.M < d6.st ∧ d6.st ≤ E.M + 1 + n ∧ ({ d with rv := rv, C := d.C ++ [⟨kk.key, fn, arg, en0⟩] } : Wd).C.length ≤ d6.C.length)) :
    d.C.length < d6.C.length ∧ Bd (shut7 d6 d.C.length en) ∧ Was7 E n d r fn arg kk.key en (shut7 d6 d.C.length en) := by
  have hlen : d.C.length < d6.C.length := by
    rcases h with ⟨-, -, -, Z, hC, -⟩ | ⟨-, -, -, hC⟩
    · rw [hC]; simp only [List.length_append, List.length_cons, List.length_nil]; omega
    · simp only [List.length_append, List.length_cons, List.length_nil] at hC; omega
  have hsl : (shut7 d6 d.C.length en).C.length = d6.C.length := by
    simp only [shut7, List.length_append, List.length_cons, List.length_take, List.length_drop]
    omega
  refine ⟨hlen, ⟨by rw [hsl]; exact hbd.c, hbd.k⟩, ?_⟩
  unfold Was7
  rcases h with ⟨h1, h2, h3, Z, hC, hR⟩ | ⟨h1, h2, h3, hC⟩
  · left
    have hfin := ev_fin hp E.M E.M r _ kk (by omega) hst ho h1
    generalize ev7 E.p E.M r (ts0 fn arg kk.key E.p.fuel.toNat) = q at *
    subst h2
    obtain ⟨t1, t2, t3⟩ := told_ran h1 fn arg kk.key q.2.e
    have hlt : kk.key < thr kk 0 := by
      have hw := K6.wd_pos (kk.dep + 1)
      unfold thr
      simp only [Int.natCast_zero, Int.zero_add, Int.one_mul]
      omega
    have hZ : ∀ a ∈ Z, kk.key < a.key := fun a ha => by
      have hs := hfin.gr.srt
      rw [hR] at hs
      rcases hfin.gr.new a (by rw [hR]; simp [ha]) with h | ⟨xk, -, e1, -, -, e2, -, -⟩
      · have := (List.pairwise_append.1 hs).2.2 a h a ha
        omega
      · have : (ts0 fn arg kk.key E.p.fuel.toNat).forks = 0 := rfl
        rw [this] at e2
        omega
    have hC7 : (shut7 d6 d.C.length q.2.e).C = d.C ++ ⟨kk.key, fn, arg, q.2.e⟩ :: Z := by
      simp only [shut7]
      rw [hC]
      simp only [List.append_assoc, List.cons_append, List.nil_append]
      rw [List.take_append_of_le_length (Nat.le_refl _), List.take_length, List.getD_eq_getElem?_getD, List.getElem?_append_right (Nat.le_refl _), Nat.sub_self]
      simp
    have hf : (told q.1 fn arg kk.key q.2.e).futs = q.1.futs ∧ (told q.1 fn arg kk.key q.2.e).was = q.1.was := by
      unfold told
      rw [if_neg (by simp [h1])]
      exact ⟨rfl, rfl⟩
    refine ⟨h1, rfl, ⟨by rw [hf.1]; exact h3.fu, by rw [hf.2]; exact h3.ws, by rw [(told_steps _ _ _ _ _).1]; exact h3.st, by rw [t2]; exact h3.fk⟩, ⟨kk.key, fn, arg, q.2.e⟩ :: Z, hC7, ?_⟩
    rw [t1, hR, ha]
    exact put_mid hr hZ
  · right
    refine ⟨h1, h2, h3, ?_⟩
    rw [hsl]
    omega
theorem Fr7.narrow {E : Ev7} {bt : Nat} {a b c : World} (h : Fr7 E none a b) (k : Fr7 E (some bt) b c) (hb : a.heap.size ≤ bt) : Fr7 E none a c :=
  ⟨h.low.trans k.low, fun i h1 h2 h3 h4 => by
    have e := h.mid i h1 h2 h3 h4
    rw [k.mid i (Nat.lt_of_lt_of_le h1 h.low.size) h2 (by simp only [ne_eq, Option.some.injEq]; omega) (fun cs fz => by rw [e]; exact h4 cs fz), e]⟩
theorem split_at (C : List Rn) (k : Nat) (h : k < C.length) (x : Rn) : C = C.take k ++ C.getD k x :: C.drop (k + 1) := by
  rw [List.getD_eq_getElem?_getD, List.getElem?_eq_getElem h]
  show C = C.take k ++ C[k] :: C.drop (k + 1)
  rw [← List.drop_eq_getElem_cons h, List.take_append_drop]
set_option maxHeartbeats 2000000 in
set_option maxRecDepth 8000 in
theorem run_any {E : Ev7} {n : Nat} (hp : Ok7 E.p) (hM : E.M ≤ 20000) (hnM : n ≤ 20000) (ih : ∀ m, m < n → RunsOk E m) : RunsOk E n := by
  intro w d r kk fn arg hw hst ho hmt hb1 hb2 ha hr hn hle
  obtain ⟨i0, hi, hz0, hz1, hz2⟩ := info_parts infoRan
  have hsz := hw.size
  have hstl : d.st ≤ 20000 := by have := hmt.st; omega
  -- the functions
  obtain ⟨fa, fc, hfv, hfx⟩ := hw.fns
  have hfn : fn < E.p.fs.length := hst.fn
  have hfl := hp.n1
  obtain ⟨g, f, cv, rfl, hcc, hcI⟩ := hfx fn hfn
  obtain ⟨ca, cm, ccap, rfl⟩ : ∃ ca cm ccap, cv = .slice ca cm ccap := by obtain ⟨a, b, h, -⟩ := hcI; exact ⟨a, _, b, h⟩
  have hcg : E.p.fs.getD fn [] = E.p.fs[fn] := by rw [List.getD_eq_getElem?_getD, List.getElem?_eq_getElem hfn]; rfl
  have hfni : (fn : Int) < E.p.fs.length := by omega
  have HCV : Hid (SlI E.W0 (.slice ca cm ccap) (E.p.fs.getD fn [])) := by rw [hcg]; exact hcI
  have HCC : Hid (∀ w' d', Wh E w' d' → w'.cell? ⟨g, f + fn, none⟩ = some (.slice ca cm ccap)) := fun w' d' h => still_of_below h.base _ _ hcc
  obtain ⟨fuN, hfu⟩ : ∃ m : Nat, E.p.fuel = m := ⟨E.p.fuel.toNat, by have := hp.f1; omega⟩
  have hfuN : E.p.fuel.toNat = fuN := by omega
  -- the result's box, the new entry
  have hw1 := hw.alloc (.cells #[.int .i64 0, .int .i64 0] 29)
  have hw2 := hw1.alloc (.cells #[.int .i64 kk.key, .int .i64 fn, .int .i64 arg, .int .i64 0, .int .i64 0] 60)
  have hF2 : Fr7 E none w ((w.alloc (.cells #[.int .i64 0, .int .i64 0] 29)).alloc (.cells #[.int .i64 kk.key, .int .i64 fn, .int .i64 arg, .int .i64 0, .int .i64 0] 60)) := ((Fr7.refl _ _ _).alloc hsz _).alloc hw1.size _
  have c7 := hw1.cellsAt 7
  simp [Wd.box] at c7
  obtain ⟨ra, rc, hrv⟩ : ∃ ra rc, d.rv = .slice ra d.C.length rc := by
    rcases hw.ran.2 with ⟨h1, h2⟩ | ⟨g, cap, cur, h1, _⟩
    · exact ⟨none, 0, by rw [h1, h2]⟩
    · exact ⟨_, cap, h1⟩
  have hO := hw2.ran
  rw [hrv] at c7 hO
  have HW : Hid (Wh E w d) := hw
  have HST : Hid (St7 E.p r (ts0 fn arg kk.key E.p.fuel.toNat) kk) := hst
  have HMT : Hid (Mt d r) := hmt
  have HRV : Hid (d.rv = .slice ra d.C.length rc) := hrv
  have HFV : Hid (E.fv = .slice (some ⟨g, f, none⟩) E.p.fs.length fc) := hfv
  have HFU : Hid (E.p.fuel = fuN ∧ E.p.fuel.toNat = fuN) := ⟨hfu, hfuN⟩
  have HH : Hid (r.over = false ∧ (∀ x ∈ r.ran, x.key < kk.key) ∧ wrp arg = arg ∧ E.M - r.steps ≤ n ∧ r.steps ≤ E.M) := ⟨ho, hr, ha, hn, hle⟩
  clear hw hst hmt hrv hfx hcc hcI hcg hfv hfu hfuN ho hr ha hn hle
  go_enter Tryd.func22, Tryd.ntmps22
  go_wp2_with (at_builtin; refine wpList_append_own _ rfl _ _ 30 rfl E.W0.heap.size 60 i0 _ 5 40 Tryd.underlying30 hi hz0 hz1 hz2 rfl (by decide) _ _ _ rfl hO ⟨w.heap.size + 1, 0, none⟩ 1 1 (rnC ⟨kk.key, fn, arg, en0⟩) rfl rfl ?c1 ?c2 ?c3 ?c4 ?c5 ?_)
  case c1 =>
    have h := rnC_new (w.alloc (.cells #[.int .i64 0, .int .i64 0] 29)) ⟨kk.key, fn, arg, en0⟩ 60
    rw [show (w.alloc (.cells #[.int .i64 0, .int .i64 0] 29)).heap.size = w.heap.size + 1 by simp] at h
    exact h
  case c2 => exact rnC_one _
  case c3 => unfold maxLen; omega
  case c4 => omega
  case c5 => have := hw2.size; exact this
  intro rv' w3 hown' hgrow _
  obtain ⟨g7, cap7, rfl, -, -⟩ := hown'.form (by omega)
  rw [← HRV.out] at hgrow
  have hb3 := (hgrow.block E.bw hw2.lt fun e => own_typ hw2.ran hw2.box (by decide) e.symm).trans hw2.box
  have c73 := cell_of_row w3 _ 7 _ _ _ hb3
  have f73 := frozen_of_row w3 _ 7 _ _ hb3
  simp [Wd.box] at c73
  obtain ⟨hw4, hF4⟩ := hw2.push hgrow hown'
  have hres4 := (hF4.mid w.heap.size (by simp; omega) (hw2.exTyp (heap_alloc2_old _ _ _) (by decide) (by decide) (by decide)) (by simp) (fun cs fz e => by rw [heap_alloc2_old] at e; simp at e)).trans (heap_alloc2_old w (.cells #[.int .i64 0, .int .i64 0] 29) _)
  clear hb3 hgrow hown' hO c7 hw1 hw2
  go_wp2_with fail
  generalize w3.setCell ⟨E.bw, 7, none⟩ (.slice (some ⟨g7, 0, none⟩) (d.C.length + 1) cap7) = w4 at *
  clear c73 f73
  have b0 := hw4.cellsAt 0
  have b3 := hw4.cellsAt 3
  simp [Wd.box] at b0 b3
  rw [HFV.out] at b0
  rw [HFU.out.1] at b3
  have bc := HCC.out w4 _ hw4
  have hgl := block_lt_of_cell bc
  simp only at hgl
  have hbl := hw4.lt
  go_region
  go_wp2_with fail
  obtain ⟨ho, hr, ha, hn, hle⟩ := HH.out
  have hsz4 := hw4.size
  have ht5 := (tk_new (E := E) (w := w4) (cv := .slice ca cm ccap) (fn := fn) (k := kk.key) (fu := fuN) ha hsz4).drew
  have hw5 := (hw4.alloc (.cells #[.pointer (some ⟨E.bw, 0, none⟩), .int .i64 kk.key, .slice ca cm ccap, .int .i64 0, .int .i64 fuN, .int .i64 0, .int .i64 arg, .int .i64 0, .int .i64 0, .int .i64 0, .int .i64 0, .int .i64 0, .int .i64 0, .int .i64 0, .int .i64 0, .int .i64 0, .int .i64 0, .int .i64 0, .int .i64 0, .int .i64 0, .int .i64 0, .int .i64 0] 82)).drew
  have hF5 := ((hF2.trans hF4).alloc hsz4 (.cells #[.pointer (some ⟨E.bw, 0, none⟩), .int .i64 kk.key, .slice ca cm ccap, .int .i64 0, .int .i64 fuN, .int .i64 0, .int .i64 arg, .int .i64 0, .int .i64 0, .int .i64 0, .int .i64 0, .int .i64 0, .int .i64 0, .int .i64 0, .int .i64 0, .int .i64 0, .int .i64 0, .int .i64 0, .int .i64 0, .int .i64 0, .int .i64 0, .int .i64 0] 82)).drew
  have hst := HST.out
  have hST2 := hst
  rw [HFU.out.2] at hst
  have hmt := HMT.out
  have hw4s : w.heap.size + 2 ≤ w4.heap.size := by have := hF4.low.size; simp at this; omega
  have q := toEnd_any ih hM hnM ⟨hp, hM, hw5, ht5, HCV.out, hst, ⟨hmt.fu, hmt.ws, hmt.st, hmt.fk⟩⟩ rfl ho hle hn ⟨by simp only [List.length_append, List.length_cons, List.length_nil]; omega, hb2⟩
  refine q.mono ?_
  rintro e w6 ⟨en, rfl, d6, hw6, hF6, hbd6, hcase⟩
  rw [← HFU.out.2] at hcase
  obtain ⟨hlen, hbd7, hwas⟩ := run_end hp ha hST2 ho hr hbd6 hcase
  have hres6 := (hF6.mid w.heap.size (by simp; omega) (hw5.exTyp ((Below.heap_alloc _ _ _ (by omega)).trans hres4) (by decide) (by decide) (by decide)) (by simp only [ne_eq, Option.some.injEq]; omega) (fun cs fz e => by rw [show ∀ o, (w4.alloc o).drew.heap[w.heap.size]? = _ from fun o => (Below.heap_alloc _ _ _ (by omega)).trans hres4] at e; simp at e)).trans ((Below.heap_alloc _ _ _ (by omega)).trans hres4)
  have hFw6 : Fr7 E none w w6 := hF5.narrow hF6 (by omega)
  clear hF6 hF5 hF4 hF2 hw5 ht5 q hcase hST2 hst hmt hres4 b0 b3 bc hgl hbl hw4
  have hw7 := hw6.alloc (.cells #[.int .i64 en.h, .int .i64 en.v] 29)
  have hF7 := hFw6.alloc hw6.size (.cells #[.int .i64 en.h, .int .i64 en.v] 29)
  have hw6s : w.heap.size < w6.heap.size := lt_of_block hres6
  have hbx : (w6.alloc (.cells #[.int .i64 en.h, .int .i64 en.v] 29)).heap[w6.heap.size]? = some (.cells #[.int .i64 en.h, .int .i64 en.v] 29 (0, 0)) := heap_alloc_new _ _
  have hres7 := (Below.heap_alloc w6 (.cells #[.int .i64 en.h, .int .i64 en.v] 29) _ hw6s).trans hres6
  obtain ⟨g6, cap6, hrv6, hg6, hlt6, k3, k4, kf, kW, kF⟩ := hw7.endAt (split_at d6.C d.C.length hlen ⟨0, 0, 0, en0⟩)
  have hA : (d6.C.take d.C.length).length = d.C.length := by rw [List.length_take]; omega
  rw [hA] at hlt6 k3 k4 kW kF
  have k7 := hw7.cellsAt 7
  simp [Wd.box] at k7
  rw [hrv6] at k7
  have hli : (d.C.length : Int) < d6.C.length := by omega
  have kf3 := kf (d.C.length * 5 + 3)
  have kf4 := kf (d.C.length * 5 + 4)
  have hWd := kW en.h en.v
  have hFd := kF en.h en.v none w hF7
  have hgr : g6 ≠ w.heap.size := by
    intro e
    have h6 : d6.rv.ownBlock = some g6 := by rw [hrv6]; rfl
    rw [e] at h6
    exact own_typ hw7.ran hres7 (by decide) h6
  have hgb : g6 ≠ w6.heap.size := by
    intro e
    have h6 : d6.rv.ownBlock = some g6 := by rw [hrv6]; rfl
    rw [e] at h6
    exact own_typ hw7.ran hbx (by decide) h6
  have hres8 : ((((w6.alloc (.cells #[.int .i64 en.h, .int .i64 en.v] 29)).setCell ⟨g6, d.C.length * 5 + 3, none⟩ (.int .i64 en.h)).setCell ⟨g6, d.C.length * 5 + 4, none⟩ (.int .i64 en.v))).heap[w.heap.size]? = some (.cells #[.int .i64 0, .int .i64 0] 29 (0, 0)) := ((Below.heap_setCell _ _ _ _ (fun e => hgr e.symm)).trans (Below.heap_setCell _ _ _ _ (fun e => hgr e.symm))).trans hres7
  have hbx8 : ((((w6.alloc (.cells #[.int .i64 en.h, .int .i64 en.v] 29)).setCell ⟨g6, d.C.length * 5 + 3, none⟩ (.int .i64 en.h)).setCell ⟨g6, d.C.length * 5 + 4, none⟩ (.int .i64 en.v))).heap[w6.heap.size]? = some (.cells #[.int .i64 en.h, .int .i64 en.v] 29 (0, 0)) := ((Below.heap_setCell _ _ _ _ (fun e => hgb e.symm)).trans (Below.heap_setCell _ _ _ _ (fun e => hgb e.symm))).trans hbx
  clear kW kF kf hw7 hF7 hA
  have kb0 : (w6.alloc (.cells #[.int .i64 en.h, .int .i64 en.v] 29)).cell? ⟨w6.heap.size, 0, none⟩ = some (.int .i64 en.h) := by rw [cell_of_row _ _ _ _ _ _ hbx]; rfl
  have kb1 : (w6.alloc (.cells #[.int .i64 en.h, .int .i64 en.v] 29)).cell? ⟨w6.heap.size, 1, none⟩ = some (.int .i64 en.v) := by rw [cell_of_row _ _ _ _ _ _ hbx]; rfl
  go_wp2_with fail
  generalize w6.alloc (.cells #[.int .i64 en.h, .int .i64 en.v] 29) = w7 at *
  generalize w6.heap.size = b6 at *
  have e0 := cell_of_row _ _ 0 _ _ _ hbx8
  have e1 := cell_of_row _ _ 1 _ _ _ hbx8
  have r0 := cell_of_row _ _ 0 _ _ _ hres8
  have r1 := cell_of_row _ _ 1 _ _ _ hres8
  have rf0 := frozen_of_row _ _ 0 _ _ hres8
  have rf1 := frozen_of_row _ _ 1 _ _ hres8
  simp only [List.getElem?_toArray, List.getElem?_cons_zero, List.getElem?_cons_succ] at e0 e1 r0 r1
  have HWD : Hid (Wh E ((w7.setCell ⟨g6, d.C.length * 5 + 3, none⟩ (.int .i64 en.h)).setCell ⟨g6, d.C.length * 5 + 4, none⟩ (.int .i64 en.v)) (shut7 d6 d.C.length en)) := hWd
  go_region
  all_goals
    generalize (w7.setCell ⟨g6, d.C.length * 5 + 3, none⟩ (.int .i64 en.h)).setCell ⟨g6, d.C.length * 5 + 4, none⟩ (.int .i64 en.v) = w8 at *
    go_wp2_with fail
    have hg2 : (w8.setCell ⟨w.heap.size, 0, none⟩ (.int .i64 en.h)).heap[w.heap.size]? = some (.cells #[.int .i64 en.h, .int .i64 0] 29 (0, 0)) := by rw [heap_setCell_same _ _ _ _ _ _ hres8]; rfl
    have hW9 := ((HWD.out.setOther hres8 (by decide) (by decide) (by decide) (by decide) hsz 0 (.int .i64 en.h)).setOther hg2 (by decide) (by decide) (by decide) (by decide) hsz 1 (.int .i64 en.v)).drew
    have hF9 := ((hFd.setNew (Nat.le_refl _) hsz 0 (.int .i64 en.h)).setNew (Nat.le_refl _) hsz 1 (.int .i64 en.v)).drew
    exact bodyPost_ret (v := .agg #[.int .i64 en.h, .int .i64 en.v]) (by simp [results, Tryd.results22, go_sem, r0, r1]) rfl ⟨en, shut7 d6 d.C.length en, rfl, hW9, hF9, hbd7, hwas⟩
end Go.Proofs.YtpmapdialjdcbaaDoor
