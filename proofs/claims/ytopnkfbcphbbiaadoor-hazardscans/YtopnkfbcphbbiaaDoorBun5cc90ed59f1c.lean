/-
  Helpers: S1Se, S1Sf, S1Sg.
-/
import Derived.Test.YtopnkfbcphbbiaaDoorBun79e1ac62ed0a
namespace Go.Proofs.YtopnkfbcphbbiaaDoor.S1
open Go.RowKit
open H8 (okP sizeF HTab below_then packV packF)
open A9 (Ab ArAt ArMem FrA Ar rawA setRawA swapRawA addRawA useA Left9 ptrA Ok9 okB bornS bornA)
open F0 (Pl5 Tn PuAt PoAt FrS noT puStep poStep TuPost ToPost PuStep_any PoStep_any Base_any baseF headF NewPop_any NewPush_any NewPoPost NewPuPost plBox plS plS_of below_next Wk puB poB noT_new)

def SrE (B : Ab) (q : Nat) (w : World) (p : Pl5) (x : Nat) (v : Value) (s' : Ar) (Φ : Al → Tn → Prop) (e : Ending) (w' : World) : Prop := ∃ a' t', SrPost B q w p x v s' a' t' e w' ∧ Φ a' t'
section
variable {B : Ab} {q : Nat} {w w' : World} {p : Pl5} {a : Al} {t t' : Tn} {s s' : Ar}
theorem aSearch_go (hA : ArAt B w s) (hM : AlM B q w p a t) (hr : t.ph = 0 ∨ t.ph = 1 ∨ t.ph = 2 ∨ t.ph = 3) (hd : (poStep p s t).2.2 = false) :
    Calls Tryd.prog 46 #[.pointer (some ⟨q, 0, none⟩), ptrA B] w (SrE B q w p a.x (.int .i64 0) (poStep p s t).1 fun a' t' => a' = a ∧ t' = (poStep p s t).2.1) := by
  have kp := sStep_go hA hM hr hd
  generalize poStep p s t = R at *
  clear hA hM hr hd
  go_enter Tryd.func46, Tryd.ntmps46
  go_wp2_with fail
  refine kp.mono ?_
  rintro e w1 ⟨rfl, h1, h2, h3, h4⟩
  have HE : Hid (SrPost B q w p a.x (.int .i64 0) R.1 a R.2.1 (.returned (.int .i64 0)) w1) := ⟨rfl, h1, h2, h3, h4⟩
  clear h1 h2 h3 h4 kp
  go_wp2_with fail
  go_ret
  exact ⟨a, R.2.1, HE.out, rfl, rfl⟩
theorem aSearch_next (hA : ArAt B w s) (hM : AlM B q w p a t) (hr : t.ph = 0 ∨ t.ph = 1 ∨ t.ph = 2 ∨ t.ph = 3) (hd : (poStep p s t).2.2 = true) (hb : (baseF (poStep p s t).2.1).2 = false) {r k n : Nat} (h0 : a.rs = ((r + 1 : Nat) : Int)) (hk : a.wk = (k : Int)) (hn : p.wk = (n : Int)) (hkn : k < n) (hn2 : n ≤ 1000) (hr2 : r ≤ 1000) :
    Calls Tryd.prog 46 #[.pointer (some ⟨q, 0, none⟩), ptrA B] w (SrE B q w p a.x (.int .i64 0) (poStep p s t).1 fun a' t' => (∃ x', a' = { a with x := x', wk := ((k + 1) % n : Nat), rs := (r : Int) }) ∧ t' = ⟨headF p ((k + 1) % n : Nat) a.cl, 0, 0, 0⟩) := by
  have kp := sStep_next hA hM hr hd hb h0 hk hn hkn hn2 hr2
  generalize poStep p s t = R at *
  clear hA hM hr hd hb h0 hn hkn hn2 hr2 hk
  generalize headF p ((k + 1) % n : Nat) a.cl = H at *
  generalize (k + 1) % n = k2 at *
  go_enter Tryd.func46, Tryd.ntmps46
  go_wp2_with fail
  refine kp.mono ?_
  rintro e w1 ⟨x', rfl, h1, h2, h3, h4⟩
  have HE : Hid (SrPost B q w p a.x (.int .i64 0) R.1 { a with x := x', wk := (k2 : Int), rs := (r : Int) } ⟨H, 0, 0, 0⟩ (.returned (.int .i64 0)) w1) := ⟨rfl, h1, h2, h3, h4⟩
  clear h1 h2 h3 h4 kp
  go_wp2_with fail
  go_ret
  exact ⟨_, _, HE.out, ⟨x', rfl⟩, rfl⟩
theorem aSearch_none (hA : ArAt B w s) (hM : AlM B q w p a t) (hr : t.ph = 0 ∨ t.ph = 1 ∨ t.ph = 2 ∨ t.ph = 3) (hd : (poStep p s t).2.2 = true) (hb : (baseF (poStep p s t).2.1).2 = false) (h0 : a.rs = 0) :
    Calls Tryd.prog 46 #[.pointer (some ⟨q, 0, none⟩), ptrA B] w (SrE B q w p a.x (.int .i64 1) (poStep p s t).1 fun a' t' => a' = a ∧ t' = (poStep p s t).2.1) := by
  have kp := sStep_end hA hM hr hd hb h0
  generalize poStep p s t = R at *
  have kb := fun wx (hx : PoAt a.x wx p R.2.1) => Base_any hx
  generalize baseF R.2.1 = bb at *
  obtain ⟨b1, b2⟩ := bb
  simp only at hb
  subst hb
  clear hA hM hr hd h0
  go_enter Tryd.func46, Tryd.ntmps46
  go_wp2_with fail
  refine kp.mono ?_
  rintro e w1 ⟨rfl, h1, h2, h3, h4⟩
  have kb1 := kb _ h2.po
  have d0 := h2.cells.1
  have HE : Hid (SrPost B q w p a.x (.int .i64 1) R.1 a R.2.1 (.returned (.int .i64 1)) w1) := ⟨rfl, h1, h2, h3, h4⟩
  clear h1 h2 h3 h4 kp kb
  go_wp2_with fail
  refine kb1.mono ?_
  rintro e w2 ⟨rfl, rfl⟩
  go_wp2_with fail
  go_ret
  exact ⟨a, R.2.1, HE.out, rfl, rfl⟩
theorem aSearch_has (hA : ArAt B w s) (hM : AlM B q w p a t) (hr : t.ph = 0 ∨ t.ph = 1 ∨ t.ph = 2 ∨ t.ph = 3) (hd : (poStep p s t).2.2 = true) (hb : (baseF (poStep p s t).2.1).2 = true) :
    Calls Tryd.prog 46 #[.pointer (some ⟨q, 0, none⟩), ptrA B] w (SrE B q w p a.x (.int .i64 3) (poStep p s t).1 fun a' t' => a' = { a with bs := (baseF (poStep p s t).2.1).1 } ∧ t' = (poStep p s t).2.1) := by
  have kp := sStep_has hA hM hr hd hb
  generalize poStep p s t = R at *
  have kb := fun wx (hx : PoAt a.x wx p R.2.1) => Base_any hx
  generalize baseF R.2.1 = bb at *
  obtain ⟨b1, b2⟩ := bb
  simp only at hb
  subst hb
  clear hA hM hr hd
  go_enter Tryd.func46, Tryd.ntmps46
  go_wp2_with fail
  refine kp.mono ?_
  rintro e w1 ⟨rfl, h1, h2, h3, h4⟩
  have kb1 := kb _ h2.po
  have d0 := h2.cells.1
  have d10 : w1.cell? ⟨q, 10, none⟩ = some (.int .i64 a.bs) := h2.al.cell 10
  have f10 := h2.al.frozen 10
  have HE : Hid (SrPost B q w p a.x (.int .i64 3) R.1 { a with bs := b1 } R.2.1 (.returned (.int .i64 3)) (w1.setCell ⟨q, 10, none⟩ (.int .i64 b1))) := ⟨rfl, h1.setOther h2.qB h2.qT.1 h2.qT.2 10 _, h2.set 10 _ rfl rfl, h3.setCell (.inr (.inl rfl)) _ _, h4⟩
  clear h1 h2 h3 h4 kp kb
  go_wp2_with fail
  refine kb1.mono ?_
  rintro e w2 ⟨rfl, rfl⟩
  go_wp2_with fail
  go_ret
  exact ⟨_, R.2.1, HE.out, rfl, rfl⟩
/-- what is carved is looked at -/
theorem aMeas_any (hA : ArAt B w s) (hM : AlM B q w p a t) (hc : 0 ≤ a.cl ∧ a.cl < 4) (hn : s.nw ≤ 65536) :
    Calls Tryd.prog 47 #[.pointer (some ⟨q, 0, none⟩), ptrA B] w (SrE B q w p a.x (.int .i64 (if (rawA s p.cv).1.nw - sizeF a.cl < (rawA s p.cv).2 then 4 else 2)) (rawA s p.cv).1 fun a' t' => a' = { a with bs := (rawA s p.cv).2 } ∧ t' = t) := by
  have kr := A9.Raw_any hA p.cv
  have hnw : (rawA s p.cv).1.nw = s.nw := by unfold rawA; split <;> rfl
  have hz := A9.sizeF_bd hc.1 hc.2
  obtain ⟨-, -, -, -, -, c5, -⟩ := hM.cells
  have HM : Hid (AlM B q w p a t) := hM
  generalize rawA s p.cv = R at *
  obtain ⟨s', v⟩ := R
  simp only at kr hnw ⊢
  have kw := fun wx (hx : ArAt B wx s') => Words_any hx
  have ks := fun wx (hx : HTab wx) => H8.Size_any a.cl wx hx
  rw [hnw] at kw ⊢
  generalize s.nw = N at *
  generalize sizeF a.cl = z at *
  have hwr : IntKind.i64.wrap ((N : Int) - z) = (N : Int) - z := by rw [IntKind.wrap_i64]; omega
  clear hA hM hnw
  by_cases ht : (N : Int) - z < v
  · rw [if_pos ht]
    go_enter Tryd.func47, Tryd.ntmps47
    go_wp2_with fail
    refine kr.mono ?_
    rintro e w1 ⟨rfl, hA1, hF1⟩
    obtain ⟨h2, h3⟩ := HM.out.arena hF1
    have f10 := h2.al.frozen 10
    have d10 : w1.cell? ⟨q, 10, none⟩ = some (.int .i64 a.bs) := h2.al.cell 10
    have h4 := h2.set 10 (.int .i64 v) (a' := { a with bs := v }) rfl rfl
    have HE : Hid (ArAt B (w1.setCell ⟨q, 10, none⟩ (.int .i64 v)) s' ∧ AlM B q (w1.setCell ⟨q, 10, none⟩ (.int .i64 v)) p { a with bs := v } t ∧ FrS (S3 B q a.x) w (w1.setCell ⟨q, 10, none⟩ (.int .i64 v))) := ⟨hA1.setOther h2.qB h2.qT.1 h2.qT.2 10 _, h4, h3.setCell (.inr (.inl rfl)) _ _⟩
    clear hA1 hF1 h2 h3 h4 c5 kr
    go_wp2_with fail
    clear f10 d10
    generalize w1.setCell ⟨q, 10, none⟩ (.int .i64 v) = w2 at *
    obtain ⟨-, -, -, -, -, -, -, d7, -, -, d10, -⟩ := HE.out.2.1.cells
    simp only at d7 d10
    go_quiet ((first | (go_at_call 58; exact Calls.quiet_of_same (kw _ (HE.out.1.drewN _))) | (go_at_call 45; exact Calls.quiet_of_same (ks _ (HE.out.1.tab.drewN _)))))
    have HQ : Hid (ArAt B (w2.drewN nq) s' ∧ AlM B q (w2.drewN nq) p { a with bs := v } t ∧ FrS (S3 B q a.x) w (w2.drewN nq)) := ⟨HE.out.1.drewN nq, HE.out.2.1.below ⟨rfl, rfl, rfl, Nat.le_refl _, fun _ _ => rfl⟩, HE.out.2.2.drewN nq⟩
    clear HE kw ks d7 d10
    go_wp2_with fail
    go_ret
    exact ⟨_, t, ⟨rfl, HQ.out.1, HQ.out.2.1, HQ.out.2.2, .inl rfl⟩, rfl, rfl⟩
  · rw [if_neg ht]
    go_enter Tryd.func47, Tryd.ntmps47
    go_wp2_with fail
    refine kr.mono ?_
    rintro e w1 ⟨rfl, hA1, hF1⟩
    obtain ⟨h2, h3⟩ := HM.out.arena hF1
    have f10 := h2.al.frozen 10
    have d10 : w1.cell? ⟨q, 10, none⟩ = some (.int .i64 a.bs) := h2.al.cell 10
    have h4 := h2.set 10 (.int .i64 v) (a' := { a with bs := v }) rfl rfl
    have HE : Hid (ArAt B (w1.setCell ⟨q, 10, none⟩ (.int .i64 v)) s' ∧ AlM B q (w1.setCell ⟨q, 10, none⟩ (.int .i64 v)) p { a with bs := v } t ∧ FrS (S3 B q a.x) w (w1.setCell ⟨q, 10, none⟩ (.int .i64 v))) := ⟨hA1.setOther h2.qB h2.qT.1 h2.qT.2 10 _, h4, h3.setCell (.inr (.inl rfl)) _ _⟩
    clear hA1 hF1 h2 h3 h4 c5 kr
    go_wp2_with fail
    clear f10 d10
    generalize w1.setCell ⟨q, 10, none⟩ (.int .i64 v) = w2 at *
    obtain ⟨-, -, -, -, -, -, -, d7, -, -, d10, -⟩ := HE.out.2.1.cells
    simp only at d7 d10
    go_quiet ((first | (go_at_call 58; exact Calls.quiet_of_same (kw _ (HE.out.1.drewN _))) | (go_at_call 45; exact Calls.quiet_of_same (ks _ (HE.out.1.tab.drewN _)))))
    have HQ : Hid (ArAt B (w2.drewN nq) s' ∧ AlM B q (w2.drewN nq) p { a with bs := v } t ∧ FrS (S3 B q a.x) w (w2.drewN nq)) := ⟨HE.out.1.drewN nq, HE.out.2.1.below ⟨rfl, rfl, rfl, Nat.le_refl _, fun _ _ => rfl⟩, HE.out.2.2.drewN nq⟩
    clear HE kw ks d7 d10
    go_wp2_with fail
    go_ret
    exact ⟨_, t, ⟨rfl, HQ.out.1, HQ.out.2.1, HQ.out.2.2, .inl rfl⟩, rfl, rfl⟩
end
end Go.Proofs.YtopnkfbcphbbiaaDoor.S1
namespace Go.Proofs.YtopnkfbcphbbiaaDoor.S1
open Go.RowKit
open H8 (okP sizeF HTab below_then packV packF)
open A9 (Ab ArAt ArMem FrA Ar rawA setRawA swapRawA addRawA useA Left9 ptrA Ok9 okB bornS bornA)
open F0 (Pl5 Tn PuAt PoAt FrS noT puStep poStep TuPost ToPost PuStep_any PoStep_any Base_any baseF headF NewPop_any NewPush_any NewPoPost NewPuPost plBox plS plS_of below_next Wk puB poB noT_new)

section
variable {B : Ab} {q : Nat} {w w' : World} {p : Pl5} {a : Al} {t t' : Tn} {s s' : Ar}
def carS (q : Nat) (p : Pl5) (a : Al) (w' : World) : Prop := w'.cell? ⟨q, 5, none⟩ = some (.int .i64 p.cv) ∧ w'.cell? ⟨q, 7, none⟩ = some (.int .i64 a.cl) ∧ w'.cell? ⟨q, 10, none⟩ = some (.int .i64 a.bs)
theorem AlAt.carS (h : AlAt q w p a) : carS q p a w := ⟨h.cell 5, h.cell 7, h.cell 10⟩
theorem aCarve_any (hA : ArAt B w s) (hM : AlM B q w p a t) (hc : 0 ≤ a.cl ∧ a.cl < 4) (hb : 0 ≤ a.bs ∧ a.bs ≤ 1000000) :
    Calls Tryd.prog 48 #[.pointer (some ⟨q, 0, none⟩), ptrA B] w (SrE B q w p a.x (.int .i64 (if (swapRawA s p.cv a.bs (a.bs + sizeF a.cl)).2 = true then 3 else 1)) (swapRawA s p.cv a.bs (a.bs + sizeF a.cl)).1 fun a' t' => a' = a ∧ t' = t) := by
  have kr := fun wx (hx : ArAt B wx s) => A9.SwapRaw_any hx p.cv a.bs (a.bs + sizeF a.cl)
  have ks := fun wx (hx : HTab wx) => H8.Size_any a.cl wx hx
  have hz := A9.sizeF_bd hc.1 hc.2
  have hM0 := hM.al.carS
  obtain ⟨c5, c7, c10⟩ := hM0
  have HM : Hid (ArAt B w s ∧ AlM B q w p a t) := ⟨hA, hM⟩
  generalize swapRawA s p.cv a.bs (a.bs + sizeF a.cl) = R at *
  obtain ⟨s', ok⟩ := R
  simp only at kr ⊢
  generalize sizeF a.cl = z at *
  have hwr : IntKind.i64.wrap (a.bs + z) = a.bs + z := by rw [IntKind.wrap_i64]; omega
  clear hA hM
  go_enter Tryd.func48, Tryd.ntmps48
  go_wp2_with fail
  go_region_held3 (fun w' => w'.cell? ⟨q, 5, none⟩ = some (.int .i64 p.cv) ∧ w'.cell? ⟨q, 7, none⟩ = some (.int .i64 a.cl) ∧ w'.cell? ⟨q, 10, none⟩ = some (.int .i64 a.bs)) (first | exact ⟨c5, c7, c10⟩ | exact S2) (first
    | (go_at_call 45; refine (ks _ (by first | exact HM.out.1.tab | exact HM.out.1.drew.tab)).mono ?_; rintro e w1 ⟨rfl, rfl⟩)
    | (go_at_call 59; refine (kr _ (by first | exact HM.out.1 | exact HM.out.1.drew)).mono ?_; rintro e w2 ⟨rfl, HA2, hF2⟩; have HF2 : FrA B w w2 := (by first | exact hF2 | exact (FrA.refl B w).drew.trans hF2); have HM2 := HM.out.2.arena HF2; have S2 := HM2.1.al.carS))
  all_goals
    have HE : Hid (ArAt B w2 s' ∧ AlM B q w2 p a t ∧ FrS (S3 B q a.x) w w2) := ⟨HA2, HM2⟩
    clear HA2 hF2 HF2 HM2 S2 c5 c7 c10 kr ks HM
    cases ok
    · go_wp2_with fail
      go_ret
      exact ⟨a, t, ⟨rfl, HE.out.1, HE.out.2.1, HE.out.2.2, .inl rfl⟩, rfl, rfl⟩
    · go_wp2_with fail
      go_ret
      exact ⟨a, t, ⟨rfl, HE.out.1, HE.out.2.1, HE.out.2.2, .inl rfl⟩, rfl, rfl⟩
theorem aName_any (hA : ArAt B w s) (hM : AlM B q w p a t) {b : Nat} {c g : Int} (hc : a.cl = c) (hb : a.bs = 8 * (b : Int)) (hb2 : b ≤ 8192) (hg : 0 ≤ p.gn ∧ p.gn ≤ 1000000) {s1 : Ar} (hr : addRawA s (p.gn + b) 1 = (s1, g)) (hg2 : 0 ≤ g ∧ g ≤ 10000000) (ho : okP (8 * (b : Int)) (g + 1) c) (hB : bornA s1 (packV (8 * (b : Int)) (g + 1) c) = (bornS s1 (packV (8 * (b : Int)) (g + 1) c), true)) :
    Calls Tryd.prog 49 #[.pointer (some ⟨q, 0, none⟩), ptrA B] w (SrE B q w p a.x (.int .i64 4) (bornS s1 (packV (8 * (b : Int)) (g + 1) c)) fun a' t' => a' = { a with hn := packV (8 * (b : Int)) (g + 1) c } ∧ t' = t) := by
  have kr : ∀ n', n' = p.gn + (b : Int) → ∀ wx, ArAt B wx s → Calls Tryd.prog 60 #[ptrA B, .int .i64 n', .int .i64 1] wx (Left9 B wx (.int .i64 g) s1) := fun n' hn wx hx => by
    have h := A9.AddRaw_any hx (p.gn + b) 1
    rw [hr] at h
    rw [hn]
    exact h
  have kp := fun wx (hx : HTab wx) => H8.Pack_ok ho wx hx
  have kb := fun wx (hx : ArAt B wx s1) => A9.Born_any hx (packV (8 * (b : Int)) (g + 1) c)
  rw [hB] at kb
  obtain ⟨-, -, -, -, c4, -, -, c7, -, -, c10, -⟩ := hM.cells
  rw [hc] at c7
  obtain ⟨v, hv⟩ : ∃ v, v = 8 * (b : Int) := ⟨_, rfl⟩
  rw [hb, ← hv] at c10
  rw [← hv] at kp kb
  have hv8 : v / 8 = (b : Int) := by omega
  have hv0 : 0 ≤ v := by omega
  have hq : IntKind.i64.wrap (v.tdiv 8) = (b : Int) := by rw [Int.tdiv_eq_ediv_of_nonneg hv0, hv8, IntKind.wrap_i64]; omega
  have hb0 : ∀ u, a.bs = u → u = v := fun u hu => by omega
  have HM : Hid (ArAt B w s ∧ AlM B q w p a t) := ⟨hA, hM⟩
  have HC : Hid (a.cl = c ∧ a.bs = v) := ⟨hc, hb.trans hv.symm⟩
  rw [← hv]
  generalize packV v (g + 1) c = h at *
  generalize bornS s1 h = s2 at *
  have hw1 : IntKind.i64.wrap (g + 1) = g + 1 := by rw [IntKind.wrap_i64]; omega
  have hw2 : IntKind.i64.wrap (p.gn + (b : Int)) = p.gn + (b : Int) := by rw [IntKind.wrap_i64]; omega
  simp only at kb
  clear hA hM ho hB hr hc hb hb0 hv
  go_enter Tryd.func49, Tryd.ntmps49
  go_wp2_with fail
  go_region_held3 (fun w' => w'.cell? ⟨q, 4, none⟩ = some (.int .i64 p.gn) ∧ w'.cell? ⟨q, 10, none⟩ = some (.int .i64 v)) (first | exact ⟨c4, c10⟩ | exact S2) (first
    | (go_at_call 60; refine (kr _ (by first | rfl | (rw [hq]; exact hw2)) _ (by first | exact HM.out.1 | exact HM.out.1.drew)).mono ?_; rintro e w2 ⟨rfl, HA2, hF2⟩; have HF2 : FrA B w w2 := (by first | exact hF2 | exact (FrA.refl B w).drew.trans hF2); have HM2 := HM.out.2.arena HF2; have d4 := HM2.1.cells.2.2.2.2.1; have d10 := HM2.1.cells.2.2.2.2.2.2.2.2.2.2.1; rw [HC.out.2] at d10; have S2 := And.intro d4 d10))
  all_goals
    have HE : Hid (ArAt B w2 s1 ∧ AlM B q w2 p a t ∧ FrS (S3 B q a.x) w w2) := ⟨HA2, HM2⟩
    have d7 := HE.out.2.1.cells.2.2.2.2.2.2.2.1
    rw [HC.out.1] at d7
    have S3' := And.intro d7 d10
    clear HA2 hF2 HF2 HM2 S2 c4 c7 c10 kr HM
    go_wp2_with fail
    go_region_held3 (fun w' => w'.cell? ⟨q, 7, none⟩ = some (.int .i64 c) ∧ w'.cell? ⟨q, 10, none⟩ = some (.int .i64 v)) (first | exact S3' | exact S4) (first
      | (go_at_call 61; refine (kp _ (by first | exact HE.out.1.tab | exact HE.out.1.drew.tab)).mono ?_; rintro e w3 ⟨rfl, hb3⟩; have hb4 : Below w2.heap.size w2 w3 := (by first | exact hb3 | exact below_then (Below.refl _ _).drew hb3); have HM3 := HE.out.2.1.below hb4; have e7 := HM3.cells.2.2.2.2.2.2.2.1; have e10 := HM3.cells.2.2.2.2.2.2.2.2.2.2.1; rw [HC.out.1] at e7; rw [HC.out.2] at e10; have S4 := And.intro e7 e10))
    all_goals
      have HE3 : Hid (ArAt B w3 s1 ∧ AlM B q w3 p a t ∧ FrS (S3 B q a.x) w w3) := ⟨HE.out.1.below hb4, HM3, HE.out.2.2.trans (FrS.of_below hb4)⟩
      have kb3 := kb _ HE3.out.1
      clear d4 d7 d10 S3' hb3 hb4 HM3 e7 e10 S4 HE kb kp
      go_wp2_with fail
      refine kb3.mono ?_
      rintro e w4 ⟨rfl, hA4, hF4⟩
      obtain ⟨h2, h3⟩ := HE3.out.2.1.arena hF4
      have f11 := h2.al.frozen 11
      have d11 : w4.cell? ⟨q, 11, none⟩ = some (.int .i64 a.hn) := h2.al.cell 11
      have HQ : Hid (SrPost B q w p a.x (.int .i64 4) s2 { a with hn := h } t (.returned (.int .i64 4)) (w4.setCell ⟨q, 11, none⟩ (.int .i64 h))) := ⟨rfl, hA4.setOther h2.qB h2.qT.1 h2.qT.2 11 _, h2.set 11 _ rfl rfl, (HE3.out.2.2.trans h3).setCell (.inr (.inl rfl)) _ _, .inl rfl⟩
      clear hA4 hF4 h2 h3 HE3 kb3
      go_wp2_with fail
      go_ret
      exact ⟨_, t, HQ.out, rfl, rfl⟩
end
end Go.Proofs.YtopnkfbcphbbiaaDoor.S1
namespace Go.Proofs.YtopnkfbcphbbiaaDoor.S1
open Go.RowKit
open H8 (okP sizeF HTab below_then packV packF)
open A9 (Ab ArAt ArMem FrA Ar rawA setRawA swapRawA addRawA useA Left9 ptrA Ok9 okB bornS bornA diedA)
open F0 (Pl5 Tn PuAt PoAt FrS noT puStep poStep TuPost ToPost PuStep_any PoStep_any Base_any baseF headF NewPop_any NewPush_any NewPoPost NewPuPost plBox plS plS_of below_next Wk puB poB noT_new)

section
variable {B : Ab} {q : Nat} {w w' : World} {p : Pl5} {a : Al} {t t' : Tn} {s s' : Ar}
theorem aStep0 (hM : AlM B q w p a t) (h0 : a.nx = 0) {v : Int} {Φ : Al → Tn → Prop} (hc : Calls Tryd.prog 46 #[.pointer (some ⟨q, 0, none⟩), ptrA B] w (SrE B q w p a.x (.int .i64 v) s' Φ)) :
    Calls Tryd.prog 25 #[.pointer (some ⟨q, 0, none⟩), ptrA B] w fun e w' => ∃ a' t', SrPost B q w p a.x (.bool (v == 4)) s' { a' with nx := v } t' e w' ∧ Φ a' t' := by
  have c9 : w.cell? ⟨q, 9, none⟩ = some (.int .i64 a.nx) := hM.al.cell 9
  rw [h0] at c9
  clear hM h0
  go_enter Tryd.func25, Tryd.ntmps25
  go_wp2_with fail
  refine hc.mono ?_
  rintro e w1 ⟨a', t', ⟨rfl, h1, h2, h3, h4⟩, hΦ⟩
  have d9 : w1.cell? ⟨q, 9, none⟩ = some (.int .i64 a'.nx) := h2.al.cell 9
  have f9 := h2.al.frozen 9
  have HQ : Hid (SrPost B q w p a.x (.bool (v == 4)) s' { a' with nx := v } t' (.returned (.bool (v == 4))) (w1.setCell ⟨q, 9, none⟩ (.int .i64 v)) ∧ Φ a' t') := ⟨⟨rfl, h1.setOther h2.qB h2.qT.1 h2.qT.2 9 _, h2.set 9 _ rfl rfl, h3.setCell (.inr (.inl rfl)) _ _, h4⟩, hΦ⟩
  clear h1 h2 h3 h4 hΦ c9 hc
  generalize hz : (v == 4) = z at *
  go_wp2_with fail
  go_ret
  subst hz
  exact ⟨a', t', HQ.out⟩
theorem aStep1 (hM : AlM B q w p a t) (h0 : a.nx = 1) {v : Int} {Φ : Al → Tn → Prop} (hc : Calls Tryd.prog 47 #[.pointer (some ⟨q, 0, none⟩), ptrA B] w (SrE B q w p a.x (.int .i64 v) s' Φ)) :
    Calls Tryd.prog 25 #[.pointer (some ⟨q, 0, none⟩), ptrA B] w fun e w' => ∃ a' t', SrPost B q w p a.x (.bool (v == 4)) s' { a' with nx := v } t' e w' ∧ Φ a' t' := by
  have c9 : w.cell? ⟨q, 9, none⟩ = some (.int .i64 a.nx) := hM.al.cell 9
  rw [h0] at c9
  clear hM h0
  go_enter Tryd.func25, Tryd.ntmps25
  go_wp2_with fail
  refine hc.mono ?_
  rintro e w1 ⟨a', t', ⟨rfl, h1, h2, h3, h4⟩, hΦ⟩
  have d9 : w1.cell? ⟨q, 9, none⟩ = some (.int .i64 a'.nx) := h2.al.cell 9
  have f9 := h2.al.frozen 9
  have HQ : Hid (SrPost B q w p a.x (.bool (v == 4)) s' { a' with nx := v } t' (.returned (.bool (v == 4))) (w1.setCell ⟨q, 9, none⟩ (.int .i64 v)) ∧ Φ a' t') := ⟨⟨rfl, h1.setOther h2.qB h2.qT.1 h2.qT.2 9 _, h2.set 9 _ rfl rfl, h3.setCell (.inr (.inl rfl)) _ _, h4⟩, hΦ⟩
  clear h1 h2 h3 h4 hΦ c9 hc
  generalize hz : (v == 4) = z at *
  go_wp2_with fail
  go_ret
  subst hz
  exact ⟨a', t', HQ.out⟩
theorem aStep2 (hM : AlM B q w p a t) (h0 : a.nx = 2) {v : Int} {Φ : Al → Tn → Prop} (hc : Calls Tryd.prog 48 #[.pointer (some ⟨q, 0, none⟩), ptrA B] w (SrE B q w p a.x (.int .i64 v) s' Φ)) :
    Calls Tryd.prog 25 #[.pointer (some ⟨q, 0, none⟩), ptrA B] w fun e w' => ∃ a' t', SrPost B q w p a.x (.bool (v == 4)) s' { a' with nx := v } t' e w' ∧ Φ a' t' := by
  have c9 : w.cell? ⟨q, 9, none⟩ = some (.int .i64 a.nx) := hM.al.cell 9
  rw [h0] at c9
  clear hM h0
  go_enter Tryd.func25, Tryd.ntmps25
  go_wp2_with fail
  refine hc.mono ?_
  rintro e w1 ⟨a', t', ⟨rfl, h1, h2, h3, h4⟩, hΦ⟩
  have d9 : w1.cell? ⟨q, 9, none⟩ = some (.int .i64 a'.nx) := h2.al.cell 9
  have f9 := h2.al.frozen 9
  have HQ : Hid (SrPost B q w p a.x (.bool (v == 4)) s' { a' with nx := v } t' (.returned (.bool (v == 4))) (w1.setCell ⟨q, 9, none⟩ (.int .i64 v)) ∧ Φ a' t') := ⟨⟨rfl, h1.setOther h2.qB h2.qT.1 h2.qT.2 9 _, h2.set 9 _ rfl rfl, h3.setCell (.inr (.inl rfl)) _ _, h4⟩, hΦ⟩
  clear h1 h2 h3 h4 hΦ c9 hc
  generalize hz : (v == 4) = z at *
  go_wp2_with fail
  go_ret
  subst hz
  exact ⟨a', t', HQ.out⟩
theorem aStep3 (hM : AlM B q w p a t) (h0 : a.nx = 3) {v : Int} {Φ : Al → Tn → Prop} (hc : Calls Tryd.prog 49 #[.pointer (some ⟨q, 0, none⟩), ptrA B] w (SrE B q w p a.x (.int .i64 v) s' Φ)) :
    Calls Tryd.prog 25 #[.pointer (some ⟨q, 0, none⟩), ptrA B] w fun e w' => ∃ a' t', SrPost B q w p a.x (.bool (v == 4)) s' { a' with nx := v } t' e w' ∧ Φ a' t' := by
  have c9 : w.cell? ⟨q, 9, none⟩ = some (.int .i64 a.nx) := hM.al.cell 9
  rw [h0] at c9
  clear hM h0
  go_enter Tryd.func25, Tryd.ntmps25
  go_wp2_with fail
  refine hc.mono ?_
  rintro e w1 ⟨a', t', ⟨rfl, h1, h2, h3, h4⟩, hΦ⟩
  have d9 : w1.cell? ⟨q, 9, none⟩ = some (.int .i64 a'.nx) := h2.al.cell 9
  have f9 := h2.al.frozen 9
  have HQ : Hid (SrPost B q w p a.x (.bool (v == 4)) s' { a' with nx := v } t' (.returned (.bool (v == 4))) (w1.setCell ⟨q, 9, none⟩ (.int .i64 v)) ∧ Φ a' t') := ⟨⟨rfl, h1.setOther h2.qB h2.qT.1 h2.qT.2 9 _, h2.set 9 _ rfl rfl, h3.setCell (.inr (.inl rfl)) _ _, h4⟩, hΦ⟩
  clear h1 h2 h3 h4 hΦ c9 hc
  generalize hz : (v == 4) = z at *
  go_wp2_with fail
  go_ret
  subst hz
  exact ⟨a', t', HQ.out⟩
theorem aStep4 (hA : ArAt B w s) (hM : AlM B q w p a t) (h0 : a.nx = 4) :
    Calls Tryd.prog 25 #[.pointer (some ⟨q, 0, none⟩), ptrA B] w (SrPost B q w p a.x (.bool true) s a t) := by
  have c9 : w.cell? ⟨q, 9, none⟩ = some (.int .i64 a.nx) := hM.al.cell 9
  rw [h0] at c9
  have HQ : Hid (SrPost B q w p a.x (.bool true) s a t (.returned (.bool true)) w) := ⟨rfl, hA, hM, FrS.refl _ _, .inl rfl⟩
  clear hM h0 hA
  go_enter Tryd.func25, Tryd.ntmps25
  go_wp2_with fail
  go_ret
  exact HQ.out
/-- a free in memory -/
structure FeM (B : Ab) (q : Nat) (w : World) (p : Pl5) (f : Fe) (b : Int) (t : Tn) : Prop where
  al : FeAt q w f
  po : PuAt f.y w p b t
  qB : ¬ B.has q
  xB : ¬ B.has f.y
  qT : noT q
  xT : noT f.y
def FePost (B : Ab) (q : Nat) (w : World) (p : Pl5) (v : Value) (s' : Ar) (f : Fe) (b : Int) (t' : Tn) (e : Ending) (w' : World) : Prop :=
  e = .returned v ∧ ArAt B w' s' ∧ FeM B q w' p f b t' ∧ FrS (S3 B q f.y) w w'
end
section
variable {B : Ab} {q : Nat} {w w' : World} {p : Pl5} {f : Fe} {b : Int} {t t' : Tn} {s s' : Ar}
theorem FeM.ne (h : FeM B q w p f b t) : f.y ≠ q := fun e => by
  have h1 := h.al
  have h2 := h.po
  unfold FeAt at h1
  unfold PuAt at h2
  rw [e, h1] at h2
  cases h2
theorem FeM.step (h : FeM B q w p f b t) (hP : PuAt f.y w' p b t') (hF : FrS (fun k => B.has k ∨ k = f.y) w w') : FeM B q w' p f b t' ∧ FrS (S3 B q f.y) w w' :=
  ⟨⟨h.al.same (hF.block q h.al.lt fun hh => hh.elim h.qB (fun e => h.ne e.symm)), hP, h.qB, h.xB, h.qT, h.xT⟩, hF.wide fun _ hk => hk.elim .inl fun e => .inr (.inr e)⟩
theorem FeM.arena (h : FeM B q w p f b t) (hF : FrA B w w') : FeM B q w' p f b t ∧ FrS (S3 B q f.y) w w' :=
  ⟨⟨h.al.same (hF.block q h.al.lt h.qB), h.po.same (hF.block f.y h.po.lt h.xB), h.qB, h.xB, h.qT, h.xT⟩, (FrS.of_arena (S := B.has) hF fun _ hk => hk).wide fun _ hk => .inl hk⟩
theorem FeM.below (h : FeM B q w p f b t) (hb : Below w.heap.size w w') : FeM B q w' p f b t :=
  ⟨h.al.same (hb.block q h.al.lt), h.po.same (hb.block f.y h.po.lt), h.qB, h.xB, h.qT, h.xT⟩
theorem FeM.set (h : FeM B q w p f b t) (i : Nat) (v : Value) {f' : Fe} (e : (feB f).setIfInBounds i v = feB f') (hx : f'.y = f.y) : FeM B q (w.setCell ⟨q, i, none⟩ v) p f' b t :=
  ⟨h.al.set i v e, by rw [hx]; exact h.po.same (Below.heap_setCell _ _ _ _ h.ne), h.qB, by rw [hx]; exact h.xB, h.qT, by rw [hx]; exact h.xT⟩
theorem feStep_go (hA : ArAt B w s) (hM : FeM B q w p f b t) (he : f.en = false) (hr : t.ph = 0 ∨ t.ph = 1 ∨ t.ph = 2 ∨ t.ph = 3) (hd : (puStep p b s t).2.2 = false) :
    Calls Tryd.prog 54 #[.pointer (some ⟨q, 0, none⟩), ptrA B] w (FePost B q w p (.bool false) (puStep p b s t).1 f b (puStep p b s t).2.1) := by
  have kp := PuStep_any hA hM.xB hM.xT hM.po hr
  have c0 : w.cell? ⟨q, 0, none⟩ = some (.pointer (some ⟨f.y, 0, none⟩)) := hM.al.cell 0
  have c2 : w.cell? ⟨q, 2, none⟩ = some (.bool f.en) := hM.al.cell 2
  rw [he] at c2
  have HM : Hid (FeM B q w p f b t ∧ f.en = false) := ⟨hM, he⟩
  generalize puStep p b s t = R at *
  obtain ⟨s', t', d⟩ := R
  simp only at hd
  subst hd
  clear hA hM hr he
  go_enter Tryd.func54, Tryd.ntmps54
  go_wp2_with fail
  refine kp.mono ?_
  rintro e w1 ⟨rfl, hA1, hP1, hF1⟩
  obtain ⟨h1, h2⟩ := HM.out.1.step hP1 hF1
  have d2 : w1.cell? ⟨q, 2, none⟩ = some (.bool f.en) := h1.al.cell 2
  rw [HM.out.2] at d2
  have HE : Hid (FePost B q w p (.bool false) s' f b t' (.returned (.bool false)) w1) := ⟨rfl, hA1, h1, h2⟩
  clear hA1 hP1 hF1 h1 h2 kp c0 c2
  go_wp2_with fail
  go_ret
  exact HE.out
theorem feStep_end (hA : ArAt B w s) (hM : FeM B q w p f b t) (he : f.en = false) (hr : t.ph = 0 ∨ t.ph = 1 ∨ t.ph = 2 ∨ t.ph = 3) (hd : (puStep p b s t).2.2 = true) :
    Calls Tryd.prog 54 #[.pointer (some ⟨q, 0, none⟩), ptrA B] w (FePost B q w p (.bool true) (diedA (puStep p b s t).1 f.h).1 { f with en := true } b (puStep p b s t).2.1) := by
  have kp := PuStep_any hA hM.xB hM.xT hM.po hr
  have c0 : w.cell? ⟨q, 0, none⟩ = some (.pointer (some ⟨f.y, 0, none⟩)) := hM.al.cell 0
  have c2 : w.cell? ⟨q, 2, none⟩ = some (.bool f.en) := hM.al.cell 2
  rw [he] at c2
  have HM : Hid (FeM B q w p f b t) := hM
  generalize puStep p b s t = R at *
  obtain ⟨s', t', d⟩ := R
  simp only at hd ⊢
  subst hd
  have kd := fun wx (hx : ArAt B wx s') => A9.Died_any hx f.h
  generalize diedA s' f.h = D at *
  clear hA hM hr he
  go_enter Tryd.func54, Tryd.ntmps54
  go_wp2_with fail
  refine kp.mono ?_
  rintro e w1 ⟨rfl, hA1, hP1, hF1⟩
  obtain ⟨h1, h2⟩ := HM.out.step hP1 hF1
  have d1 : w1.cell? ⟨q, 1, none⟩ = some (.int .i64 f.h) := h1.al.cell 1
  have kd1 := kd _ hA1
  have HE : Hid (FeM B q w1 p f b t' ∧ FrS (S3 B q f.y) w w1) := ⟨h1, h2⟩
  clear hA1 hP1 hF1 h1 h2 kp c0 c2 kd
  go_wp2_with fail
  refine kd1.mono ?_
  rintro e w2 ⟨rfl, hA2, hF2⟩
  obtain ⟨h3, h4⟩ := HE.out.1.arena hF2
  have f2 := h3.al.frozen 2
  have d2 : w2.cell? ⟨q, 2, none⟩ = some (.bool f.en) := h3.al.cell 2
  have h5 := h3.set 2 (.bool true) (f' := { f with en := true }) rfl rfl
  have HQ : Hid (FePost B q w p (.bool true) D.1 { f with en := true } b t' (.returned (.bool true)) (w2.setCell ⟨q, 2, none⟩ (.bool true))) := ⟨rfl, hA2.setOther h3.qB h3.qT.1 h3.qT.2 2 _, h5, (HE.out.2.trans h4).setCell (.inr (.inl rfl)) _ _⟩
  clear hA2 hF2 h3 h4 h5 HE kd1 d1
  go_wp2_with fail
  go_ret
  exact HQ.out
end
end Go.Proofs.YtopnkfbcphbbiaaDoor.S1
