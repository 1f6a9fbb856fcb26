/-
  Helpers: F0FrD, F0FrE, F0FrG.
-/
import Derived.Test.YtopnkfbcphbbiaaDoorBunb2ad3b477a5f
import Derived.Deep.RegionHeld3
import Derived.Deep.RegionLaw
namespace Go.Proofs.YtopnkfbcphbbiaaDoor.F0
open Go.RowKit
open A9 (Ab ArAt ArMem FrA Ar rawA setRawA swapRawA Left9 ptrA)

/-- a machine: its head's raw word, what is next, the head as read, the mark that shall be first -/
structure Tn where
  word : Int
  ph : Int
  h : Int
  m : Int
def puB (p : Pl5) (b : Int) (t : Tn) : Array Value := #[.int .i64 t.word, .int .i64 t.ph, .int .i64 t.h, .int .i64 t.m, .int .i64 p.wk, .int .i64 p.hd, .int .i64 p.ln, .int .i64 p.gn, .int .i64 p.cv, .int .i64 b]
def poB (p : Pl5) (t : Tn) : Array Value := #[.int .i64 t.word, .int .i64 t.ph, .int .i64 t.h, .int .i64 t.m, .int .i64 p.wk, .int .i64 p.hd, .int .i64 p.ln, .int .i64 p.gn, .int .i64 p.cv]
def PuAt (q : Nat) (w : World) (p : Pl5) (b : Int) (t : Tn) : Prop := w.heap[q]? = some (.cells (puB p b t) 115 (0, 0))
def PoAt (q : Nat) (w : World) (p : Pl5) (t : Tn) : Prop := w.heap[q]? = some (.cells (poB p t) 105 (0, 0))
/-- one step: what the arena and the machine are behind it, and whether it has ended -/
def swapT (s : Ar) (t : Tn) : Ar × Tn × Bool :=
  match (swapRawA s t.word t.h (trnF t.h t.m)).2 with
  | true => ((swapRawA s t.word t.h (trnF t.h t.m)).1, { t with ph := 3 }, true)
  | false => ((swapRawA s t.word t.h (trnF t.h t.m)).1, { t with ph := 0 }, false)
section
variable {q : Nat} {w : World} {p : Pl5} {b : Int} {t : Tn} {B : Ab} {s : Ar}
theorem PuAt.cell (h : PuAt q w p b t) (f : Nat) : w.cell? ⟨q, f, none⟩ = (puB p b t)[f]? := cell_of_row _ _ _ _ _ _ h
theorem PuAt.frozen (h : PuAt q w p b t) (f : Nat) : w.frozen? ⟨q, f, none⟩ = false := frozen_of_row w _ f _ _ h
theorem PoAt.cell (h : PoAt q w p t) (f : Nat) : w.cell? ⟨q, f, none⟩ = (poB p t)[f]? := cell_of_row _ _ _ _ _ _ h
theorem PoAt.frozen (h : PoAt q w p t) (f : Nat) : w.frozen? ⟨q, f, none⟩ = false := frozen_of_row w _ f _ _ h
theorem PuAt.lt (h : PuAt q w p b t) : q < w.heap.size := lt_of_block h
theorem PoAt.lt (h : PoAt q w p t) : q < w.heap.size := lt_of_block h
theorem PuAt.same {w' : World} (h : PuAt q w p b t) (e : w'.heap[q]? = w.heap[q]?) : PuAt q w' p b t := e.trans h
theorem PoAt.same {w' : World} (h : PoAt q w p t) (e : w'.heap[q]? = w.heap[q]?) : PoAt q w' p t := e.trans h
theorem PuAt.set (h : PuAt q w p b t) (f : Nat) (v : Value) {t' : Tn} (e : (puB p b t).setIfInBounds f v = puB p b t') : PuAt q (w.setCell ⟨q, f, none⟩ v) p b t' := by
  unfold PuAt
  rw [heap_setCell_same _ _ _ _ _ _ h, e]
theorem PoAt.set (h : PoAt q w p t) (f : Nat) (v : Value) {t' : Tn} (e : (poB p t).setIfInBounds f v = poB p t') : PoAt q (w.setCell ⟨q, f, none⟩ v) p t' := by
  unfold PoAt
  rw [heap_setCell_same _ _ _ _ _ _ h, e]
theorem puIdle_any (a : Addr) (x : Int) : Calls Tryd.prog 94 #[.pointer (some a), .int .i64 x] w fun e w' => e = .returned (.bool false) ∧ w' = w := by
  go_enter Tryd.func94, Tryd.ntmps94
  go_wp2_with fail
  go_ret
  exact ⟨rfl, rfl⟩
theorem poIdle_any (a : Addr) (x : Int) : Calls Tryd.prog 69 #[.pointer (some a), .int .i64 x] w fun e w' => e = .returned (.bool (x == 0)) ∧ w' = w := by
  go_enter Tryd.func69, Tryd.ntmps69
  go_wp2_with fail
  go_ret
  exact ⟨rfl, rfl⟩
/-- what a relink leaves: its own box as it was -/
def RlPost (B : Ab) (w : World) (v : Int) (s' : Ar) (e : Ending) (w' : World) : Prop := e = .returned (.int .i64 v) ∧ ArAt B w' s' ∧ FrA B w w'
theorem puRelink_any (hA : ArAt B w s) (hq : ¬ B.has q) (hP : PuAt q w p b t) (x : Int) : Calls Tryd.prog 95 #[.pointer (some ⟨q, 0, none⟩), ptrA B, .int .i64 x] w (RlPost B w b (setRawA s (linkF p b) x)) := by
  have cl : ∀ w', FrA B w w' → PuAt q w' p b t := fun w' hF => hP.same (hF.block q hP.lt hq)
  have cs : ∀ w', PuAt q w' p b t → w'.cell? ⟨q, 4, none⟩ = some (.int .i64 p.wk) ∧ w'.cell? ⟨q, 5, none⟩ = some (.int .i64 p.hd) ∧ w'.cell? ⟨q, 6, none⟩ = some (.int .i64 p.ln) ∧ w'.cell? ⟨q, 7, none⟩ = some (.int .i64 p.gn) ∧ w'.cell? ⟨q, 8, none⟩ = some (.int .i64 p.cv) ∧ w'.cell? ⟨q, 9, none⟩ = some (.int .i64 b) := fun w' h => ⟨h.cell 4, h.cell 5, h.cell 6, h.cell 7, h.cell 8, h.cell 9⟩
  obtain ⟨c4, c5, c6, c7, c8, c9⟩ := cs w hP
  have hl := fun wx => link_any p b wx
  have hS := fun wx (hx : ArAt B wx s) => A9.SetRaw_any hx (linkF p b) x
  unfold Pl5.v at hl
  generalize linkF p b = L at *
  have HA : Hid (ArAt B w s) := hA
  clear hA
  go_enter Tryd.func95, Tryd.ntmps95
  go_wp2_with fail
  go_region_held3 (fun w' => w'.cell? ⟨q, 4, none⟩ = some (.int .i64 p.wk) ∧ w'.cell? ⟨q, 5, none⟩ = some (.int .i64 p.hd) ∧ w'.cell? ⟨q, 6, none⟩ = some (.int .i64 p.ln) ∧ w'.cell? ⟨q, 7, none⟩ = some (.int .i64 p.gn) ∧ w'.cell? ⟨q, 8, none⟩ = some (.int .i64 p.cv) ∧ w'.cell? ⟨q, 9, none⟩ = some (.int .i64 b)) (first | exact ⟨c4, c5, c6, c7, c8, c9⟩ | exact cs _ (cl _ HF2) | exact cs _ (cl _ HF1)) (first
    | (go_at_call 42; refine (hl _).mono ?_; rintro e w1 ⟨rfl, hb1⟩; have HA1 : ArAt B w1 s := (by first | exact HA.out.below hb1 | exact HA.out.drew.below hb1); have HF1 : FrA B w w1 := (by first | exact .of_below hb1 | exact (FrA.refl B w).drew.trans (.of_below hb1)))
    | (go_at_call 11; refine (hS _ (by first | exact HA1 | exact HA1.drew)).mono ?_; rintro e w2 ⟨rfl, HA2, hF2⟩; have HF2 : FrA B w w2 := (by first | exact HF1.trans hF2 | exact HF1.drew.trans hF2)))
  obtain ⟨-, -, -, -, -, d9⟩ := cs _ (cl _ HF2)
  go_wp2_with fail
  go_ret
  exact ⟨rfl, HA2, HF2⟩
theorem poRelink_any (hA : ArAt B w s) (hP : PoAt q w p t) (x : Int) : Calls Tryd.prog 93 #[.pointer (some ⟨q, 0, none⟩), ptrA B, .int .i64 x] w (RlPost B w (rawA s (linkF p x)).2 (rawA s (linkF p x)).1) := by
  have c4 := hP.cell 4
  have c5 := hP.cell 5
  have c6 := hP.cell 6
  have c7 := hP.cell 7
  have c8 := hP.cell 8
  simp [poB] at c4 c5 c6 c7 c8
  have hl := fun wx => link_any p x wx
  have hS := fun wx (hx : ArAt B wx s) => A9.Raw_any hx (linkF p x)
  unfold Pl5.v at hl
  generalize rawA s (linkF p x) = R at *
  generalize linkF p x = L at *
  have HA : Hid (ArAt B w s) := hA
  clear hA hP
  go_enter Tryd.func93, Tryd.ntmps93
  go_wp2_with fail
  refine (hl _).mono ?_
  rintro e w1 ⟨rfl, hb1⟩
  go_wp2_with fail
  refine (hS _ (HA.out.below hb1)).mono ?_
  rintro e w2 ⟨rfl, hA2, hF2⟩
  go_wp2_with fail
  go_ret
  exact ⟨rfl, hA2, (FrA.of_below hb1).trans hF2⟩
end
end Go.Proofs.YtopnkfbcphbbiaaDoor.F0
namespace Go.Proofs.YtopnkfbcphbbiaaDoor.F0
open Go.RowKit
open A9 (Ab ArAt ArMem FrA Ar rawA setRawA swapRawA Left9 ptrA)

def puStep (p : Pl5) (b : Int) (s : Ar) (t : Tn) : Ar × Tn × Bool :=
  if t.ph = 1 then (setRawA s (linkF p b) (codF t.h), { t with m := b, ph := 2 }, false)
  else if t.ph = 2 then swapT s t
  else if t.ph = 3 then (s, t, true)
  else ((rawA s t.word).1, { t with h := (rawA s t.word).2, ph := 1 }, false)
def TuPost (B : Ab) (q : Nat) (w : World) (p : Pl5) (b : Int) (r : Ar × Tn × Bool) (e : Ending) (w' : World) : Prop :=
  e = .returned (.bool r.2.2) ∧ ArAt B w' r.1 ∧ PuAt q w' p b r.2.1 ∧ FrS (fun k => B.has k ∨ k = q) w w'
theorem nilPuIdle (a : Addr) (w : World) : (nilAhead 238 97 (.pointer (some a)) "magpie/free.idle").run Tryd.prog w = .ok (some false) w := by kernel_rfl
theorem mthPuIdle (a : Addr) (w : World) : (method 238 97 (.pointer (some a)) "magpie/free.idle").run Tryd.prog w = .ok (94, .pointer (some a)) w := by kernel_rfl
theorem nilPuRe (a : Addr) (w : World) : (nilAhead 238 97 (.pointer (some a)) "magpie/free.relink").run Tryd.prog w = .ok (some false) w := by kernel_rfl
theorem mthPuRe (a : Addr) (w : World) : (method 238 97 (.pointer (some a)) "magpie/free.relink").run Tryd.prog w = .ok (95, .pointer (some a)) w := by kernel_rfl
section
variable {q : Nat} {w : World} {p : Pl5} {b : Int} {t : Tn} {B : Ab} {s : Ar}
abbrev ifPu (q : Nat) : Value := .iface 97 (.pointer (some ⟨q, 0, none⟩))
theorem pu3 (hA : ArAt B w s) (hP : PuAt q w p b t) (h3 : t.ph = 3) : Calls Tryd.prog 75 #[.pointer (some ⟨q, 0, none⟩), ptrA B, ifPu q] w (TuPost B q w p b (s, t, true)) := by
  have c1 : w.cell? ⟨q, 1, none⟩ = some (.int .i64 3) := by rw [hP.cell 1, ← h3]; rfl
  have HQ : Hid (ArAt B w s ∧ PuAt q w p b t) := ⟨hA, hP⟩
  clear hA hP h3
  go_enter Tryd.func75, Tryd.ntmps75
  go_wp2_with fail
  refine wp_scope_hid 3 fun C hC => ?_
  go_wp2_with fail
  refine hop_ret ?_
  go_ret
  exact ⟨rfl, HQ.out.1, HQ.out.2, FrS.refl _ _⟩
theorem pu0 (hA : ArAt B w s) (hq : ¬ B.has q) (hn : noT q) (hP : PuAt q w p b t) (h0 : t.ph = 0) : Calls Tryd.prog 75 #[.pointer (some ⟨q, 0, none⟩), ptrA B, ifPu q] w (TuPost B q w p b ((rawA s t.word).1, { t with h := (rawA s t.word).2, ph := 1 }, false)) := by
  have c1 : w.cell? ⟨q, 1, none⟩ = some (.int .i64 0) := by rw [hP.cell 1, ← h0]; rfl
  have c0 : w.cell? ⟨q, 0, none⟩ = some (.int .i64 t.word) := hP.cell 0
  have hR := A9.Raw_any hA t.word
  have HP : Hid (PuAt q w p b t) := hP
  generalize rawA s t.word = R at *
  clear hA hP h0
  go_enter Tryd.func75, Tryd.ntmps75
  go_wp2_with fail
  refine wp_scope_hid 3 fun C hC => ?_
  go_wp2_with fail
  refine hR.mono ?_
  rintro e w1 ⟨rfl, hA1, hF1⟩
  have hP1 : PuAt q w1 p b t := HP.out.same (hF1.block q HP.out.lt hq)
  have f2 := hP1.frozen 2
  have d2 : w1.cell? ⟨q, 2, none⟩ = some (.int .i64 t.h) := hP1.cell 2
  have HA2 : Hid (ArAt B (w1.setCell ⟨q, 2, none⟩ (.int .i64 R.2)) R.1) := hA1.setOther hq hn.1 hn.2 2 _
  have hP2 : PuAt q (w1.setCell ⟨q, 2, none⟩ (.int .i64 R.2)) p b { t with h := R.2 } := hP1.set 2 _ rfl
  have HF2 : Hid (FrS (fun k => B.has k ∨ k = q) w (w1.setCell ⟨q, 2, none⟩ (.int .i64 R.2))) := ((FrS.of_arena hF1 fun k hk => .inl hk).setCell (.inr rfl) _ _)
  clear hA1 hF1 hP1 hR
  go_wp2_with fail
  clear f2 d2
  generalize w1.setCell ⟨q, 2, none⟩ (.int .i64 R.2) = w2 at *
  have d2 : w2.cell? ⟨q, 2, none⟩ = some (.int .i64 R.2) := hP2.cell 2
  have HP2 : Hid (PuAt q w2 p b { t with h := R.2 }) := hP2
  have hi := fun x wx => puIdle_any (w := wx) ⟨q, 0, none⟩ x
  have hn1 := nilPuIdle ⟨q, 0, none⟩
  have hm1 := mthPuIdle ⟨q, 0, none⟩
  go_quiet ((first | (go_at_call 39; exact Calls.quiet_of_same (firstOf_any _ _)) | (go_at_call 94; exact Calls.quiet_of_same (hi _ _))))
  have f1 := hP2.frozen 1
  have d1 : w2.cell? ⟨q, 1, none⟩ = some (.int .i64 t.ph) := hP2.cell 1
  have HE : Hid (ArAt B ((w2.drewN nq).setCell ⟨q, 1, none⟩ (.int .i64 1)) R.1 ∧ PuAt q ((w2.drewN nq).setCell ⟨q, 1, none⟩ (.int .i64 1)) p b { t with h := R.2, ph := 1 } ∧ FrS (fun k => B.has k ∨ k = q) w ((w2.drewN nq).setCell ⟨q, 1, none⟩ (.int .i64 1))) :=
    ⟨(HA2.out.drewN nq).setOther hq hn.1 hn.2 1 _, PuAt.set (t := { t with h := R.2 }) (w := w2.drewN nq) hP2 1 _ rfl, (HF2.out.drewN nq).setCell (.inr rfl) _ _⟩
  go_wp2_with fail
  refine hop_ret ?_
  go_ret
  exact ⟨rfl, HE.out⟩
theorem pu1 (hA : ArAt B w s) (hq : ¬ B.has q) (hn : noT q) (hP : PuAt q w p b t) (h1 : t.ph = 1) : Calls Tryd.prog 75 #[.pointer (some ⟨q, 0, none⟩), ptrA B, ifPu q] w (TuPost B q w p b (setRawA s (linkF p b) (codF t.h), { t with m := b, ph := 2 }, false)) := by
  have c1 : w.cell? ⟨q, 1, none⟩ = some (.int .i64 1) := by rw [hP.cell 1, ← h1]; rfl
  have c2 : w.cell? ⟨q, 2, none⟩ = some (.int .i64 t.h) := hP.cell 2
  have hR := fun wx (hx : ArAt B wx s) (hy : PuAt q wx p b t) => puRelink_any hx hq hy (codF t.h)
  have HP : Hid (ArAt B w s ∧ PuAt q w p b t) := ⟨hA, hP⟩
  have hn1 := nilPuRe ⟨q, 0, none⟩
  have hm1 := mthPuRe ⟨q, 0, none⟩
  generalize setRawA s (linkF p b) (codF t.h) = R at *
  clear hA hP h1
  go_enter Tryd.func75, Tryd.ntmps75
  go_wp2_with fail
  refine wp_scope_hid 3 fun C hC => ?_
  go_wp2_with fail
  go_step3
  refine hop_hid hC rfl ?_
  clear hC
  go_wp2_with fail
  go_region_held3 (fun w' => w'.cell? ⟨q, 2, none⟩ = some (.int .i64 t.h)) (first | exact c2 | exact hP2.cell 2 | exact (hP2.set 3 _ (t' := { t with m := b }) rfl).cell 2) (first
    | (go_at_call 39; refine (firstOf_any _ _).mono ?_; rintro e w1 ⟨rfl, rfl⟩)
    | (go_at_call 95; refine (hR _ (by first | exact HP.out.1 | exact HP.out.1.drew) (by first | exact HP.out.2)).mono ?_; rintro e w2 ⟨rfl, HA2, hF2⟩; have HF2 : FrA B w w2 := (by first | exact hF2 | exact (FrA.refl B w).drew.trans hF2); have hP2 : PuAt q w2 p b t := HP.out.2.same (HF2.block q HP.out.2.lt hq); have f2 := hP2.frozen 3; have d2 : w2.cell? ⟨q, 3, none⟩ = some (.int .i64 t.m) := hP2.cell 3))
  all_goals
    have hP3 : PuAt q (w2.setCell ⟨q, 3, none⟩ (.int .i64 b)) p b { t with m := b } := hP2.set 3 _ rfl
    have hP4 := hP3.set 1 (.int .i64 2) (t' := { t with m := b, ph := 2 }) rfl
    have HE : Hid (ArAt B ((w2.setCell ⟨q, 3, none⟩ (.int .i64 b)).setCell ⟨q, 1, none⟩ (.int .i64 2)) R ∧ PuAt q ((w2.setCell ⟨q, 3, none⟩ (.int .i64 b)).setCell ⟨q, 1, none⟩ (.int .i64 2)) p b { t with m := b, ph := 2 } ∧ FrS (fun k => B.has k ∨ k = q) w ((w2.setCell ⟨q, 3, none⟩ (.int .i64 b)).setCell ⟨q, 1, none⟩ (.int .i64 2))) :=
      ⟨(HA2.setOther hq hn.1 hn.2 3 _).setOther hq hn.1 hn.2 1 _, hP4, ((FrS.of_arena HF2 fun k hk => .inl hk).setCell (.inr rfl) _ _).setCell (.inr rfl) _ _⟩
    have f1 := hP3.frozen 1
    have d1 : (w2.setCell ⟨q, 3, none⟩ (.int .i64 b)).cell? ⟨q, 1, none⟩ = some (.int .i64 t.ph) := hP3.cell 1
    clear hP3 hP4 HA2 HF2 hP2 HP
    generalize w2.setCell ⟨q, 3, none⟩ (.int .i64 b) = w3 at *
    go_wp2_with fail
    refine hop_ret ?_
    go_ret
    exact ⟨rfl, HE.out⟩
theorem pu2 (hA : ArAt B w s) (hq : ¬ B.has q) (hn : noT q) (hP : PuAt q w p b t) (h2 : t.ph = 2) : Calls Tryd.prog 75 #[.pointer (some ⟨q, 0, none⟩), ptrA B, ifPu q] w (TuPost B q w p b (swapT s t)) := by
  have c1 : w.cell? ⟨q, 1, none⟩ = some (.int .i64 2) := by rw [hP.cell 1, ← h2]; rfl
  have c0 : w.cell? ⟨q, 0, none⟩ = some (.int .i64 t.word) := hP.cell 0
  have c2 : w.cell? ⟨q, 2, none⟩ = some (.int .i64 t.h) := hP.cell 2
  have c3 : w.cell? ⟨q, 3, none⟩ = some (.int .i64 t.m) := hP.cell 3
  have hR := fun wx (hx : ArAt B wx s) => A9.SwapRaw_any hx t.word t.h (trnF t.h t.m)
  have hT := fun wx => turned_any t.h t.m wx
  have HP : Hid (ArAt B w s ∧ PuAt q w p b t) := ⟨hA, hP⟩
  unfold swapT
  generalize trnF t.h t.m = T at *
  generalize swapRawA s t.word t.h T = R at *
  obtain ⟨R, ok⟩ := R
  simp only at hR
  clear hA hP h2
  cases ok
  · show Calls _ _ _ _ (TuPost B q w p b (R, { t with ph := 0 }, false))
    go_enter Tryd.func75, Tryd.ntmps75
    go_wp2_with fail
    refine wp_scope_hid 3 fun C hC => ?_
    go_wp2_with fail
    go_step3
    refine hop_hid hC rfl ?_
    go_wp2_with fail
    go_region_held3 (fun w' => w'.cell? ⟨q, 0, none⟩ = some (.int .i64 t.word) ∧ w'.cell? ⟨q, 2, none⟩ = some (.int .i64 t.h) ∧ w'.cell? ⟨q, 3, none⟩ = some (.int .i64 t.m)) (first | exact ⟨c0, c2, c3⟩ | exact ⟨hP2.cell 0, hP2.cell 2, hP2.cell 3⟩) (first
      | (go_at_call 77; refine (hT _).mono ?_; rintro e w1 ⟨rfl, rfl⟩)
      | (go_at_call 59; refine (hR _ (by first | exact HP.out.1 | exact HP.out.1.drew)).mono ?_; rintro e w2 ⟨rfl, HA2, hF2⟩; have HF2 : FrA B w w2 := (by first | exact hF2 | exact (FrA.refl B w).drew.trans hF2); have hP2 : PuAt q w2 p b t := HP.out.2.same (HF2.block q HP.out.2.lt hq); have f1 := hP2.frozen 1; have d1 : w2.cell? ⟨q, 1, none⟩ = some (.int .i64 t.ph) := hP2.cell 1))
    all_goals
      have HE : Hid (ArAt B (w2.setCell ⟨q, 1, none⟩ (.int .i64 0)) R ∧ PuAt q (w2.setCell ⟨q, 1, none⟩ (.int .i64 0)) p b { t with ph := 0 } ∧ FrS (fun k => B.has k ∨ k = q) w (w2.setCell ⟨q, 1, none⟩ (.int .i64 0))) :=
        ⟨HA2.setOther hq hn.1 hn.2 1 _, hP2.set 1 _ rfl, (FrS.of_arena HF2 fun k hk => .inl hk).setCell (.inr rfl) _ _⟩
      clear HA2 HF2 hP2 HP
      go_wp2_with fail
      refine hop_ret ?_
      go_ret
      exact ⟨rfl, HE.out⟩
  · show Calls _ _ _ _ (TuPost B q w p b (R, { t with ph := 3 }, true))
    go_enter Tryd.func75, Tryd.ntmps75
    go_wp2_with fail
    refine wp_scope_hid 3 fun C hC => ?_
    go_wp2_with fail
    go_step3
    refine hop_hid hC rfl ?_
    go_wp2_with fail
    go_region_held3 (fun w' => w'.cell? ⟨q, 0, none⟩ = some (.int .i64 t.word) ∧ w'.cell? ⟨q, 2, none⟩ = some (.int .i64 t.h) ∧ w'.cell? ⟨q, 3, none⟩ = some (.int .i64 t.m)) (first | exact ⟨c0, c2, c3⟩ | exact ⟨hP2.cell 0, hP2.cell 2, hP2.cell 3⟩) (first
      | (go_at_call 77; refine (hT _).mono ?_; rintro e w1 ⟨rfl, rfl⟩)
      | (go_at_call 59; refine (hR _ (by first | exact HP.out.1 | exact HP.out.1.drew)).mono ?_; rintro e w2 ⟨rfl, HA2, hF2⟩; have HF2 : FrA B w w2 := (by first | exact hF2 | exact (FrA.refl B w).drew.trans hF2); have hP2 : PuAt q w2 p b t := HP.out.2.same (HF2.block q HP.out.2.lt hq); have f1 := hP2.frozen 1; have d1 : w2.cell? ⟨q, 1, none⟩ = some (.int .i64 t.ph) := hP2.cell 1))
    all_goals
      have HE : Hid (ArAt B (w2.setCell ⟨q, 1, none⟩ (.int .i64 3)) R ∧ PuAt q (w2.setCell ⟨q, 1, none⟩ (.int .i64 3)) p b { t with ph := 3 } ∧ FrS (fun k => B.has k ∨ k = q) w (w2.setCell ⟨q, 1, none⟩ (.int .i64 3))) :=
        ⟨HA2.setOther hq hn.1 hn.2 1 _, hP2.set 1 _ rfl, (FrS.of_arena HF2 fun k hk => .inl hk).setCell (.inr rfl) _ _⟩
      clear HA2 HF2 hP2 HP
      go_wp2_with fail
      go_step3
      refine hop_hid hC rfl ?_
      go_wp2_with fail
      refine hop_ret ?_
      go_ret
      exact ⟨rfl, HE.out⟩
/-- a push's step -/
theorem puStep_any (hA : ArAt B w s) (hq : ¬ B.has q) (hn : noT q) (hP : PuAt q w p b t) (hr : t.ph = 0 ∨ t.ph = 1 ∨ t.ph = 2 ∨ t.ph = 3) : Calls Tryd.prog 75 #[.pointer (some ⟨q, 0, none⟩), ptrA B, ifPu q] w (TuPost B q w p b (puStep p b s t)) := by
  unfold puStep
  rcases hr with h | h | h | h
  · rw [if_neg (by omega), if_neg (by omega), if_neg (by omega)]
    exact pu0 hA hq hn hP h
  · rw [if_pos h]
    exact pu1 hA hq hn hP h
  · rw [if_neg (by omega), if_pos h]
    exact pu2 hA hq hn hP h
  · rw [if_neg (by omega), if_neg (by omega), if_pos h]
    exact pu3 hA hP h
theorem PuStep_any (hA : ArAt B w s) (hq : ¬ B.has q) (hn : noT q) (hP : PuAt q w p b t) (hr : t.ph = 0 ∨ t.ph = 1 ∨ t.ph = 2 ∨ t.ph = 3) : Calls Tryd.prog 65 #[.pointer (some ⟨q, 0, none⟩), ptrA B] w (TuPost B q w p b (puStep p b s t)) := by
  have hS := puStep_any hA hq hn hP hr
  generalize puStep p b s t = R at *
  clear hA hP hr
  go_enter Tryd.func65, Tryd.ntmps65
  go_wp2_with fail
  refine hS.mono ?_
  rintro e w1 ⟨rfl, hR⟩
  go_wp2_with fail
  go_ret
  exact ⟨rfl, hR⟩
end
end Go.Proofs.YtopnkfbcphbbiaaDoor.F0
namespace Go.Proofs.YtopnkfbcphbbiaaDoor.F0
open Go.RowKit
open A9 (Ab ArAt ArMem FrA Ar rawA setRawA swapRawA Left9 ptrA)

def poStep (p : Pl5) (s : Ar) (t : Tn) : Ar × Tn × Bool :=
  if t.ph = 1 then ((rawA s (linkF p (codF t.h))).1, { t with m := (rawA s (linkF p (codF t.h))).2, ph := 2 }, false)
  else if t.ph = 2 then swapT s t
  else if t.ph = 3 then (s, t, true)
  else if codF (rawA s t.word).2 = 0 then ((rawA s t.word).1, { t with h := (rawA s t.word).2, ph := 3 }, true)
  else ((rawA s t.word).1, { t with h := (rawA s t.word).2, ph := 1 }, false)
def ToPost (B : Ab) (q : Nat) (w : World) (p : Pl5) (r : Ar × Tn × Bool) (e : Ending) (w' : World) : Prop :=
  e = .returned (.bool r.2.2) ∧ ArAt B w' r.1 ∧ PoAt q w' p r.2.1 ∧ FrS (fun k => B.has k ∨ k = q) w w'
theorem nilPoIdle (a : Addr) (w : World) : (nilAhead 238 78 (.pointer (some a)) "magpie/free.idle").run Tryd.prog w = .ok (some false) w := by kernel_rfl
theorem mthPoIdle (a : Addr) (w : World) : (method 238 78 (.pointer (some a)) "magpie/free.idle").run Tryd.prog w = .ok (69, .pointer (some a)) w := by kernel_rfl
theorem nilPoRe (a : Addr) (w : World) : (nilAhead 238 78 (.pointer (some a)) "magpie/free.relink").run Tryd.prog w = .ok (some false) w := by kernel_rfl
theorem mthPoRe (a : Addr) (w : World) : (method 238 78 (.pointer (some a)) "magpie/free.relink").run Tryd.prog w = .ok (93, .pointer (some a)) w := by kernel_rfl
section
variable {q : Nat} {w : World} {p : Pl5} {t : Tn} {B : Ab} {s : Ar}
abbrev ifPo (q : Nat) : Value := .iface 78 (.pointer (some ⟨q, 0, none⟩))
theorem po3 (hA : ArAt B w s) (hP : PoAt q w p t) (h3 : t.ph = 3) : Calls Tryd.prog 75 #[.pointer (some ⟨q, 0, none⟩), ptrA B, ifPo q] w (ToPost B q w p (s, t, true)) := by
  have c1 : w.cell? ⟨q, 1, none⟩ = some (.int .i64 3) := by rw [hP.cell 1, ← h3]; rfl
  have HQ : Hid (ArAt B w s ∧ PoAt q w p t) := ⟨hA, hP⟩
  clear hA hP h3
  go_enter Tryd.func75, Tryd.ntmps75
  go_wp2_with fail
  refine wp_scope_hid 3 fun C hC => ?_
  go_wp2_with fail
  refine hop_ret ?_
  go_ret
  exact ⟨rfl, HQ.out.1, HQ.out.2, FrS.refl _ _⟩
theorem po0 (hA : ArAt B w s) (hq : ¬ B.has q) (hn : noT q) (hP : PoAt q w p t) (h0 : t.ph = 0) (hc : codF (rawA s t.word).2 ≠ 0) : Calls Tryd.prog 75 #[.pointer (some ⟨q, 0, none⟩), ptrA B, ifPo q] w (ToPost B q w p ((rawA s t.word).1, { t with h := (rawA s t.word).2, ph := 1 }, false)) := by
  have c1 : w.cell? ⟨q, 1, none⟩ = some (.int .i64 0) := by rw [hP.cell 1, ← h0]; rfl
  have c0 : w.cell? ⟨q, 0, none⟩ = some (.int .i64 t.word) := hP.cell 0
  have hR := A9.Raw_any hA t.word
  have HP : Hid (PoAt q w p t) := hP
  generalize rawA s t.word = R at *
  have hb : (codF R.2 == 0) = false := by simpa using hc
  clear hA hP h0 hc
  go_enter Tryd.func75, Tryd.ntmps75
  go_wp2_with fail
  refine wp_scope_hid 3 fun C hC => ?_
  go_wp2_with fail
  refine hR.mono ?_
  rintro e w1 ⟨rfl, hA1, hF1⟩
  have hP1 : PoAt q w1 p t := HP.out.same (hF1.block q HP.out.lt hq)
  have f2 := hP1.frozen 2
  have d2 : w1.cell? ⟨q, 2, none⟩ = some (.int .i64 t.h) := hP1.cell 2
  have HA2 : Hid (ArAt B (w1.setCell ⟨q, 2, none⟩ (.int .i64 R.2)) R.1) := hA1.setOther hq hn.1 hn.2 2 _
  have hP2 : PoAt q (w1.setCell ⟨q, 2, none⟩ (.int .i64 R.2)) p { t with h := R.2 } := hP1.set 2 _ rfl
  have HF2 : Hid (FrS (fun k => B.has k ∨ k = q) w (w1.setCell ⟨q, 2, none⟩ (.int .i64 R.2))) := ((FrS.of_arena hF1 fun k hk => .inl hk).setCell (.inr rfl) _ _)
  clear hA1 hF1 hP1 hR
  go_wp2_with fail
  clear f2 d2
  generalize w1.setCell ⟨q, 2, none⟩ (.int .i64 R.2) = w2 at *
  have d2 : w2.cell? ⟨q, 2, none⟩ = some (.int .i64 R.2) := hP2.cell 2
  have HP2 : Hid (PoAt q w2 p { t with h := R.2 }) := hP2
  have hi := fun x wx => poIdle_any (w := wx) ⟨q, 0, none⟩ x
  have hn1 := nilPoIdle ⟨q, 0, none⟩
  have hm1 := mthPoIdle ⟨q, 0, none⟩
  go_quiet ((first | (go_at_call 39; exact Calls.quiet_of_same (firstOf_any _ _)) | (go_at_call 69; exact Calls.quiet_of_same (hi _ _))))
  have f1 := hP2.frozen 1
  have d1 : w2.cell? ⟨q, 1, none⟩ = some (.int .i64 t.ph) := hP2.cell 1
  have HE : Hid (ArAt B ((w2.drewN nq).setCell ⟨q, 1, none⟩ (.int .i64 1)) R.1 ∧ PoAt q ((w2.drewN nq).setCell ⟨q, 1, none⟩ (.int .i64 1)) p { t with h := R.2, ph := 1 } ∧ FrS (fun k => B.has k ∨ k = q) w ((w2.drewN nq).setCell ⟨q, 1, none⟩ (.int .i64 1))) :=
    ⟨(HA2.out.drewN nq).setOther hq hn.1 hn.2 1 _, PoAt.set (t := { t with h := R.2 }) (w := w2.drewN nq) hP2 1 _ rfl, (HF2.out.drewN nq).setCell (.inr rfl) _ _⟩
  go_wp2_with fail
  refine hop_ret ?_
  go_ret
  exact ⟨rfl, HE.out⟩
theorem po0e (hA : ArAt B w s) (hq : ¬ B.has q) (hn : noT q) (hP : PoAt q w p t) (h0 : t.ph = 0) (hc : codF (rawA s t.word).2 = 0) : Calls Tryd.prog 75 #[.pointer (some ⟨q, 0, none⟩), ptrA B, ifPo q] w (ToPost B q w p ((rawA s t.word).1, { t with h := (rawA s t.word).2, ph := 3 }, true)) := by
  have c1 : w.cell? ⟨q, 1, none⟩ = some (.int .i64 0) := by rw [hP.cell 1, ← h0]; rfl
  have c0 : w.cell? ⟨q, 0, none⟩ = some (.int .i64 t.word) := hP.cell 0
  have hR := A9.Raw_any hA t.word
  have HP : Hid (PoAt q w p t) := hP
  generalize rawA s t.word = R at *
  have hb : (codF R.2 == 0) = true := by simpa using hc
  clear hA hP h0 hc
  go_enter Tryd.func75, Tryd.ntmps75
  go_wp2_with fail
  refine wp_scope_hid 3 fun C hC => ?_
  go_wp2_with fail
  refine hR.mono ?_
  rintro e w1 ⟨rfl, hA1, hF1⟩
  have hP1 : PoAt q w1 p t := HP.out.same (hF1.block q HP.out.lt hq)
  have f2 := hP1.frozen 2
  have d2 : w1.cell? ⟨q, 2, none⟩ = some (.int .i64 t.h) := hP1.cell 2
  have HA2 : Hid (ArAt B (w1.setCell ⟨q, 2, none⟩ (.int .i64 R.2)) R.1) := hA1.setOther hq hn.1 hn.2 2 _
  have hP2 : PoAt q (w1.setCell ⟨q, 2, none⟩ (.int .i64 R.2)) p { t with h := R.2 } := hP1.set 2 _ rfl
  have HF2 : Hid (FrS (fun k => B.has k ∨ k = q) w (w1.setCell ⟨q, 2, none⟩ (.int .i64 R.2))) := ((FrS.of_arena hF1 fun k hk => .inl hk).setCell (.inr rfl) _ _)
  clear hA1 hF1 hP1 hR
  go_wp2_with fail
  clear f2 d2
  generalize w1.setCell ⟨q, 2, none⟩ (.int .i64 R.2) = w2 at *
  have d2 : w2.cell? ⟨q, 2, none⟩ = some (.int .i64 R.2) := hP2.cell 2
  have HP2 : Hid (PoAt q w2 p { t with h := R.2 }) := hP2
  have hi := fun x wx => poIdle_any (w := wx) ⟨q, 0, none⟩ x
  have hn1 := nilPoIdle ⟨q, 0, none⟩
  have hm1 := mthPoIdle ⟨q, 0, none⟩
  go_quiet ((first | (go_at_call 39; exact Calls.quiet_of_same (firstOf_any _ _)) | (go_at_call 69; exact Calls.quiet_of_same (hi _ _))))
  have f1 := hP2.frozen 1
  have d1 : w2.cell? ⟨q, 1, none⟩ = some (.int .i64 t.ph) := hP2.cell 1
  have HE : Hid (ArAt B ((w2.drewN nq).setCell ⟨q, 1, none⟩ (.int .i64 3)) R.1 ∧ PoAt q ((w2.drewN nq).setCell ⟨q, 1, none⟩ (.int .i64 3)) p { t with h := R.2, ph := 3 } ∧ FrS (fun k => B.has k ∨ k = q) w ((w2.drewN nq).setCell ⟨q, 1, none⟩ (.int .i64 3))) :=
    ⟨(HA2.out.drewN nq).setOther hq hn.1 hn.2 1 _, PoAt.set (t := { t with h := R.2 }) (w := w2.drewN nq) hP2 1 _ rfl, (HF2.out.drewN nq).setCell (.inr rfl) _ _⟩
  go_wp2_with fail
  go_step3
  refine hop_hid hC rfl ?_
  go_wp2_with fail
  refine hop_ret ?_
  go_ret
  exact ⟨rfl, HE.out⟩
theorem po1 (hA : ArAt B w s) (hq : ¬ B.has q) (hn : noT q) (hP : PoAt q w p t) (h1 : t.ph = 1) : Calls Tryd.prog 75 #[.pointer (some ⟨q, 0, none⟩), ptrA B, ifPo q] w (ToPost B q w p ((rawA s (linkF p (codF t.h))).1, { t with m := (rawA s (linkF p (codF t.h))).2, ph := 2 }, false)) := by
  have c1 : w.cell? ⟨q, 1, none⟩ = some (.int .i64 1) := by rw [hP.cell 1, ← h1]; rfl
  have c2 : w.cell? ⟨q, 2, none⟩ = some (.int .i64 t.h) := hP.cell 2
  have hR := fun wx (hx : ArAt B wx s) (hy : PoAt q wx p t) => poRelink_any hx hy (codF t.h)
  have HP : Hid (ArAt B w s ∧ PoAt q w p t) := ⟨hA, hP⟩
  have hn1 := nilPoRe ⟨q, 0, none⟩
  have hm1 := mthPoRe ⟨q, 0, none⟩
  generalize rawA s (linkF p (codF t.h)) = R at *
  obtain ⟨R, b⟩ := R
  simp only at hR
  show Calls _ _ _ _ (ToPost B q w p (R, { t with m := b, ph := 2 }, false))
  clear hA hP h1
  go_enter Tryd.func75, Tryd.ntmps75
  go_wp2_with fail
  refine wp_scope_hid 3 fun C hC => ?_
  go_wp2_with fail
  go_step3
  refine hop_hid hC rfl ?_
  clear hC
  go_wp2_with fail
  go_region_held3 (fun w' => w'.cell? ⟨q, 2, none⟩ = some (.int .i64 t.h)) (first | exact c2 | exact hP2.cell 2 | exact (hP2.set 3 _ (t' := { t with m := b }) rfl).cell 2) (first
    | (go_at_call 39; refine (firstOf_any _ _).mono ?_; rintro e w1 ⟨rfl, rfl⟩)
    | (go_at_call 93; refine (hR _ (by first | exact HP.out.1 | exact HP.out.1.drew) (by first | exact HP.out.2)).mono ?_; rintro e w2 ⟨rfl, HA2, hF2⟩; have HF2 : FrA B w w2 := (by first | exact hF2 | exact (FrA.refl B w).drew.trans hF2); have hP2 : PoAt q w2 p t := HP.out.2.same (HF2.block q HP.out.2.lt hq); have f2 := hP2.frozen 3; have d2 : w2.cell? ⟨q, 3, none⟩ = some (.int .i64 t.m) := hP2.cell 3))
  all_goals
    have hP3 : PoAt q (w2.setCell ⟨q, 3, none⟩ (.int .i64 b)) p { t with m := b } := hP2.set 3 _ rfl
    have hP4 := hP3.set 1 (.int .i64 2) (t' := { t with m := b, ph := 2 }) rfl
    have HE : Hid (ArAt B ((w2.setCell ⟨q, 3, none⟩ (.int .i64 b)).setCell ⟨q, 1, none⟩ (.int .i64 2)) R ∧ PoAt q ((w2.setCell ⟨q, 3, none⟩ (.int .i64 b)).setCell ⟨q, 1, none⟩ (.int .i64 2)) p { t with m := b, ph := 2 } ∧ FrS (fun k => B.has k ∨ k = q) w ((w2.setCell ⟨q, 3, none⟩ (.int .i64 b)).setCell ⟨q, 1, none⟩ (.int .i64 2))) :=
      ⟨(HA2.setOther hq hn.1 hn.2 3 _).setOther hq hn.1 hn.2 1 _, hP4, ((FrS.of_arena HF2 fun k hk => .inl hk).setCell (.inr rfl) _ _).setCell (.inr rfl) _ _⟩
    have f1 := hP3.frozen 1
    have d1 : (w2.setCell ⟨q, 3, none⟩ (.int .i64 b)).cell? ⟨q, 1, none⟩ = some (.int .i64 t.ph) := hP3.cell 1
    clear hP3 hP4 HA2 HF2 hP2 HP
    generalize w2.setCell ⟨q, 3, none⟩ (.int .i64 b) = w3 at *
    go_wp2_with fail
    refine hop_ret ?_
    go_ret
    exact ⟨rfl, HE.out⟩
theorem po2 (hA : ArAt B w s) (hq : ¬ B.has q) (hn : noT q) (hP : PoAt q w p t) (h2 : t.ph = 2) : Calls Tryd.prog 75 #[.pointer (some ⟨q, 0, none⟩), ptrA B, ifPo q] w (ToPost B q w p (swapT s t)) := by
  have c1 : w.cell? ⟨q, 1, none⟩ = some (.int .i64 2) := by rw [hP.cell 1, ← h2]; rfl
  have c0 : w.cell? ⟨q, 0, none⟩ = some (.int .i64 t.word) := hP.cell 0
  have c2 : w.cell? ⟨q, 2, none⟩ = some (.int .i64 t.h) := hP.cell 2
  have c3 : w.cell? ⟨q, 3, none⟩ = some (.int .i64 t.m) := hP.cell 3
  have hR := fun wx (hx : ArAt B wx s) => A9.SwapRaw_any hx t.word t.h (trnF t.h t.m)
  have hT := fun wx => turned_any t.h t.m wx
  have HP : Hid (ArAt B w s ∧ PoAt q w p t) := ⟨hA, hP⟩
  unfold swapT
  generalize trnF t.h t.m = T at *
  generalize swapRawA s t.word t.h T = R at *
  obtain ⟨R, ok⟩ := R
  simp only at hR
  clear hA hP h2
  cases ok
  · show Calls _ _ _ _ (ToPost B q w p (R, { t with ph := 0 }, false))
    go_enter Tryd.func75, Tryd.ntmps75
    go_wp2_with fail
    refine wp_scope_hid 3 fun C hC => ?_
    go_wp2_with fail
    go_step3
    refine hop_hid hC rfl ?_
    go_wp2_with fail
    go_region_held3 (fun w' => w'.cell? ⟨q, 0, none⟩ = some (.int .i64 t.word) ∧ w'.cell? ⟨q, 2, none⟩ = some (.int .i64 t.h) ∧ w'.cell? ⟨q, 3, none⟩ = some (.int .i64 t.m)) (first | exact ⟨c0, c2, c3⟩ | exact ⟨hP2.cell 0, hP2.cell 2, hP2.cell 3⟩) (first
      | (go_at_call 77; refine (hT _).mono ?_; rintro e w1 ⟨rfl, rfl⟩)
      | (go_at_call 59; refine (hR _ (by first | exact HP.out.1 | exact HP.out.1.drew)).mono ?_; rintro e w2 ⟨rfl, HA2, hF2⟩; have HF2 : FrA B w w2 := (by first | exact hF2 | exact (FrA.refl B w).drew.trans hF2); have hP2 : PoAt q w2 p t := HP.out.2.same (HF2.block q HP.out.2.lt hq); have f1 := hP2.frozen 1; have d1 : w2.cell? ⟨q, 1, none⟩ = some (.int .i64 t.ph) := hP2.cell 1))
    all_goals
      have HE : Hid (ArAt B (w2.setCell ⟨q, 1, none⟩ (.int .i64 0)) R ∧ PoAt q (w2.setCell ⟨q, 1, none⟩ (.int .i64 0)) p { t with ph := 0 } ∧ FrS (fun k => B.has k ∨ k = q) w (w2.setCell ⟨q, 1, none⟩ (.int .i64 0))) :=
        ⟨HA2.setOther hq hn.1 hn.2 1 _, hP2.set 1 _ rfl, (FrS.of_arena HF2 fun k hk => .inl hk).setCell (.inr rfl) _ _⟩
      clear HA2 HF2 hP2 HP
      go_wp2_with fail
      refine hop_ret ?_
      go_ret
      exact ⟨rfl, HE.out⟩
  · show Calls _ _ _ _ (ToPost B q w p (R, { t with ph := 3 }, true))
    go_enter Tryd.func75, Tryd.ntmps75
    go_wp2_with fail
    refine wp_scope_hid 3 fun C hC => ?_
    go_wp2_with fail
    go_step3
    refine hop_hid hC rfl ?_
    go_wp2_with fail
    go_region_held3 (fun w' => w'.cell? ⟨q, 0, none⟩ = some (.int .i64 t.word) ∧ w'.cell? ⟨q, 2, none⟩ = some (.int .i64 t.h) ∧ w'.cell? ⟨q, 3, none⟩ = some (.int .i64 t.m)) (first | exact ⟨c0, c2, c3⟩ | exact ⟨hP2.cell 0, hP2.cell 2, hP2.cell 3⟩) (first
      | (go_at_call 77; refine (hT _).mono ?_; rintro e w1 ⟨rfl, rfl⟩)
      | (go_at_call 59; refine (hR _ (by first | exact HP.out.1 | exact HP.out.1.drew)).mono ?_; rintro e w2 ⟨rfl, HA2, hF2⟩; have HF2 : FrA B w w2 := (by first | exact hF2 | exact (FrA.refl B w).drew.trans hF2); have hP2 : PoAt q w2 p t := HP.out.2.same (HF2.block q HP.out.2.lt hq); have f1 := hP2.frozen 1; have d1 : w2.cell? ⟨q, 1, none⟩ = some (.int .i64 t.ph) := hP2.cell 1))
    all_goals
      have HE : Hid (ArAt B (w2.setCell ⟨q, 1, none⟩ (.int .i64 3)) R ∧ PoAt q (w2.setCell ⟨q, 1, none⟩ (.int .i64 3)) p { t with ph := 3 } ∧ FrS (fun k => B.has k ∨ k = q) w (w2.setCell ⟨q, 1, none⟩ (.int .i64 3))) :=
        ⟨HA2.setOther hq hn.1 hn.2 1 _, hP2.set 1 _ rfl, (FrS.of_arena HF2 fun k hk => .inl hk).setCell (.inr rfl) _ _⟩
      clear HA2 HF2 hP2 HP
      go_wp2_with fail
      go_step3
      refine hop_hid hC rfl ?_
      go_wp2_with fail
      refine hop_ret ?_
      go_ret
      exact ⟨rfl, HE.out⟩
/-- a push's step -/
theorem poStep_any (hA : ArAt B w s) (hq : ¬ B.has q) (hn : noT q) (hP : PoAt q w p t) (hr : t.ph = 0 ∨ t.ph = 1 ∨ t.ph = 2 ∨ t.ph = 3) : Calls Tryd.prog 75 #[.pointer (some ⟨q, 0, none⟩), ptrA B, ifPo q] w (ToPost B q w p (poStep p s t)) := by
  unfold poStep
  rcases hr with h | h | h | h
  · rw [if_neg (by omega), if_neg (by omega), if_neg (by omega)]
    by_cases hc : codF (rawA s t.word).2 = 0
    · rw [if_pos hc]
      exact po0e hA hq hn hP h hc
    · rw [if_neg hc]
      exact po0 hA hq hn hP h hc
  · rw [if_pos h]
    exact po1 hA hq hn hP h
  · rw [if_neg (by omega), if_pos h]
    exact po2 hA hq hn hP h
  · rw [if_neg (by omega), if_neg (by omega), if_pos h]
    exact po3 hA hP h
theorem PoStep_any (hA : ArAt B w s) (hq : ¬ B.has q) (hn : noT q) (hP : PoAt q w p t) (hr : t.ph = 0 ∨ t.ph = 1 ∨ t.ph = 2 ∨ t.ph = 3) : Calls Tryd.prog 67 #[.pointer (some ⟨q, 0, none⟩), ptrA B] w (ToPost B q w p (poStep p s t)) := by
  have hS := poStep_any hA hq hn hP hr
  generalize poStep p s t = R at *
  clear hA hP hr
  go_enter Tryd.func67, Tryd.ntmps67
  go_wp2_with fail
  refine hS.mono ?_
  rintro e w1 ⟨rfl, hR⟩
  go_wp2_with fail
  go_ret
  exact ⟨rfl, hR⟩
end
end Go.Proofs.YtopnkfbcphbbiaaDoor.F0
