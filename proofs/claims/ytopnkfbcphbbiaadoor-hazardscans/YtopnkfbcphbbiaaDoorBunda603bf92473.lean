/-
  Helpers: Zl, Zn, Zi.
-/
import Derived.Test.YtopnkfbcphbbiaaDoorBunf14a82fe5b4e
import Derived.Test.YtopnkfbcphbbiaaDoorBun62387182a664
namespace Go.Proofs.YtopnkfbcphbbiaaDoor
open Go.RowKit
open H8 (okP sizeF HTab below_then packV packF isH)
open A9 (Ab ArAt ArMem FrA Ar rawA setRawA useA ptrA Ok9 MapI But SrcN Left9 isTab htab_keep upF src_one bN)
open F0 (Pl5 Tn PuAt PoAt FrS noT noT_new plBox plS plS_of below_next Wk Pu Po upO)
open S1 (RowO MAt Mc Out FeM FeR stepF grN clN clN_lt PlS)

section
variable {B : Ab} {base : Nat} {w w' w0 : World} {p : Pl5} {t : Tb} {sc : Sc} {b : Sb} {s : Ar} {K M N T cg : Nat} {ls : Nat → List Nat} {live : List Int} {m0 : Option Mc}
theorem RowO.lower {v : Value} {xs : List Int} {b0 b1 : Nat} (h : RowO w b0 v xs) (hb : b1 ≤ b0) : RowO w b1 v xs := by
  rcases h with h | ⟨r, off, cap, cur, e, h1, h2⟩
  · exact .inl h
  · exact .inr ⟨r, off, cap, cur, e, Nat.le_trans hb h1, h2⟩
theorem scLook_lk (t : Tb) (sc : Sc) (v : Int) : (scLook t sc v).lk = sc.lk + 1 := by
  unfold scLook
  split <;> rfl
theorem scOut_lk (sc : Sc) (tl : List Int) (o : Out) : (scOut sc tl o).lk = sc.lk := by
  unfold scOut
  split <;> rfl
theorem scF_lk (K M : Nat) (t : Tb) (s : Ar) (sc : Sc) : (scF K M t s sc).2.lk ≤ sc.lk + 1 := by
  unfold scF
  split
  · rw [scLook_lk]; exact Nat.le_refl _
  · split
    · exact Nat.le_succ _
    · rw [scOut_lk]; exact Nat.le_succ _
/-- what is asked of a table -/
structure TbOk (K M : Nat) (t : Tb) (s : Ar) : Prop where
  tw : t.tw ≤ 1000
  a : t.a ≤ 100000
  fit : t.a + 2 * t.tw ≤ s.nr
  far : K + M + M < t.a
theorem TbOk.same {s' : Ar} (h : TbOk K M t s) (e : s'.nr = s.nr) : TbOk K M t s' := ⟨h.tw, h.a, by rw [e]; exact h.fit, h.far⟩
set_option maxHeartbeats 1000000 in
theorem Step_any (hA : ArAt B w s) (hM : ScM B base w p t sc b) (hO : Old B base) (h0 : base ≤ w.heap.size) (hp : PlS K M p) (hI : ScI K M t s cg ls live m0 sc T) (ht : TbOk K M t s) (hlen : sc.lf.length + sc.hs.length ≤ 10000) :
    Calls Tryd.prog 15 #[.pointer (some ⟨b.q, 0, none⟩), ptrA B] w fun e w' => e = .returned (.bool (endS t (scF K M t s sc).2)) ∧ LkPost B base w p t (scF K M t s sc).2 b (scF K M t s sc).1 w' := by
  have htw := ht.tw
  have hlk := hI.lk
  have hlk2 := scF_lk K M t s sc
  have kL := looking_any hM (by omega)
  have kE : ∀ wx, LkPost B base w p t (scF K M t s sc).2 b (scF K M t s sc).1 wx → Calls Tryd.prog 37 #[.pointer (some ⟨b.q, 0, none⟩)] wx fun e w' => e = .returned (.bool (endS t (scF K M t s sc).2)) ∧ LkPost B base w p t (scF K M t s sc).2 b (scF K M t s sc).1 w' := fun wx hx => by
    obtain ⟨x1, x2, b', x3, x4⟩ := hx
    have k := ended_any x4 (by omega)
    rw [x3] at k
    exact k.mono fun e w' hh => ⟨hh.1, x1.below hh.2, x2.trans (FrB.below hh.2), b', x3, x4.below hh.2⟩
  have HE : Hid _ := kE
  clear kE
  by_cases hl : sc.lk < 2 * t.tw
  · have hd : decide (sc.lk < 2 * t.tw) = true := decide_eq_true hl
    rw [hd] at kL
    have HK : Hid (∀ wx, Below w.heap.size w wx → Calls Tryd.prog 36 #[.pointer (some ⟨b.q, 0, none⟩), ptrA B] wx fun e w' => e = .returned (.tuple #[]) ∧ LkPost B base w p t (scF K M t s sc).2 b (scF K M t s sc).1 w') := fun wx hb => by
      have hfit := ht.fit
      rw [scF_look hl]
      refine (look_any (hA.below hb) (hM.below hb) hO (Nat.le_trans h0 hb.size) (hI.lo hl).2 hlen hl htw ht.a (by omega)).mono fun e w' hh => ?_
      exact ⟨hh.1, hh.2.1, (FrB.below hb).trans hh.2.2.1, hh.2.2.2⟩
    clear hA hM hI hlen ht hd
    generalize endS t (scF K M t s sc).2 = d at *
    generalize scF K M t s sc = R at *
    go_enter Tryd.func15, Tryd.ntmps15
    go_wp2_with fail
    refine kL.mono ?_
    rintro e w1 ⟨rfl, hb1⟩
    have k1 := HK.out _ hb1
    clear hb1 kL HK
    go_wp2_with fail
    refine k1.mono ?_
    rintro e w2 ⟨rfl, h2⟩
    have k2 := HE.out _ h2
    clear h2 k1 HE
    go_wp2_with fail
    refine k2.mono ?_
    rintro e w3 ⟨rfl, h3⟩
    have H3 : Hid _ := h3
    clear h3 k2
    go_wp2_with fail
    go_ret
    exact ⟨rfl, H3.out⟩
  · have hd : decide (sc.lk < 2 * t.tw) = false := decide_eq_false hl
    rw [hd] at kL
    have kD : ∀ wx, Below w.heap.size w wx → Calls Tryd.prog 37 #[.pointer (some ⟨b.q, 0, none⟩)] wx fun e w' => e = .returned (.bool sc.hs.isEmpty) ∧ Below w.heap.size w w' := fun wx hb => by
      have k := ended_any (hM.below hb) (by omega)
      rw [hd] at k
      exact k.mono fun e w' hh => ⟨hh.1, below_then hb hh.2⟩
    have HD : Hid _ := kD
    clear kD
    cases hs : sc.hs with
    | nil =>
      have e : scF K M t s sc = (s, sc) := by
        unfold scF
        rw [if_neg hl, hs]
      have HP : Hid (∀ wx, Below w.heap.size w wx → LkPost B base w p t (scF K M t s sc).2 b (scF K M t s sc).1 wx) := fun wx hb => by
        rw [e]
        exact ⟨hA.below hb, FrB.below hb, b, rfl, hM.below hb⟩
      rw [hs] at HD
      simp only [List.isEmpty_nil] at HD
      clear hA hM hI hlen ht hd e hs
      generalize endS t (scF K M t s sc).2 = d at *
      generalize scF K M t s sc = R at *
      go_enter Tryd.func15, Tryd.ntmps15
      go_wp2_with fail
      refine kL.mono ?_
      rintro e w1 ⟨rfl, hb1⟩
      have k1 := HD.out _ hb1
      clear hb1 kL HD
      go_wp2_with fail
      refine k1.mono ?_
      rintro e w2 ⟨rfl, h2⟩
      have k2 := HE.out _ (HP.out _ h2)
      clear h2 k1 HE HP
      go_wp2_with fail
      refine k2.mono ?_
      rintro e w3 ⟨rfl, h3⟩
      have H3 : Hid _ := h3
      clear h3 k2
      go_wp2_with fail
      go_ret
      exact ⟨rfl, H3.out⟩
    | cons x tl =>
      have hx : x ∈ sc.lf ++ sc.hs := by simp [hs]
      have hst := hI.W.waits hx
      obtain ⟨n1, n2, n3, -, -⟩ := hI.W.name hA.ok (a := x) (by omega)
      have hK := hI.W.iK
      have hInv := hI.W.invF hx (Nat.le_refl T)
      rw [pm_frO hs] at hInv
      have HK : Hid (∀ wx, Below w.heap.size w wx → Calls Tryd.prog 38 #[.pointer (some ⟨b.q, 0, none⟩), ptrA B] wx fun e w' => e = .returned (.tuple #[]) ∧ LkPost B base w p t (scF K M t s sc).2 b (scF K M t s sc).1 w') := fun wx hb => by
        have h0' := Nat.le_trans h0 hb.size
        have key : Calls Tryd.prog 38 #[.pointer (some ⟨b.q, 0, none⟩), ptrA B] wx fun e w' => e = .returned (.tuple #[]) ∧ LkPost B base wx p t (scF K M t s sc).2 b (scF K M t s sc).1 w' := by
          cases hf : sc.fr with
          | none => exact free_none (hA.below hb) (hM.below hb) hO h0' hl hs hf hp hInv n1 n2 (by omega)
          | some m => exact free_some (hA.below hb) (hM.below hb) hO h0' hl hs hf hp hInv
        exact key.mono fun e w' hh => ⟨hh.1, hh.2.1, (FrB.below hb).trans hh.2.2.1, hh.2.2.2⟩
      rw [hs] at HD
      simp only [List.isEmpty_cons] at HD
      clear hA hM hI hlen ht hd hx hst n1 n2 n3 hInv hs
      generalize endS t (scF K M t s sc).2 = d at *
      generalize scF K M t s sc = R at *
      go_enter Tryd.func15, Tryd.ntmps15
      go_wp2_with fail
      refine kL.mono ?_
      rintro e w1 ⟨rfl, hb1⟩
      have k1 := HD.out _ hb1
      clear hb1 kL HD
      go_wp2_with fail
      refine k1.mono ?_
      rintro e w2 ⟨rfl, h2⟩
      have k2 := HK.out _ h2
      clear h2 k1 HK
      go_wp2_with fail
      refine k2.mono ?_
      rintro e w3 ⟨rfl, h3⟩
      have k3 := HE.out _ h3
      clear h3 k2 HE
      go_wp2_with fail
      refine k3.mono ?_
      rintro e w4 ⟨rfl, h4⟩
      have H4 : Hid _ := h4
      clear h4 k3
      go_wp2_with fail
      go_ret
      exact ⟨rfl, H4.out⟩
/-- those that are left -/
theorem Left_any (hM : ScM B base w p t sc b) (hl : sc.lk ≤ 1000000) (he : endS t sc = true) (hn : sc.lf.length ≤ 100000) : Calls Tryd.prog 17 #[.pointer (some ⟨b.q, 0, none⟩)] w fun e w' => ∃ v', e = .returned v' ∧ RowO w' w.heap.size v' sc.lf ∧ Below w.heap.size w w' := by
  have k := ended_any hM hl
  have he' : (!decide (sc.lk < 2 * t.tw) && sc.hs.isEmpty) = true := he
  rw [he'] at k
  have kC := fun wx (hb : Below w.heap.size w wx) => clone_any (hM.below hb).lr hn
  have c11 := fun wx (hb : Below w.heap.size w wx) => (hM.below hb).cell 11
  simp only [scB] at c11
  have HC : Hid _ := kC
  have H11 : Hid (∀ wx, Below w.heap.size w wx → wx.cell? ⟨b.q, 11, none⟩ = some b.lv) := c11
  clear hM he he' kC c11
  go_enter Tryd.func17, Tryd.ntmps17
  go_wp2_with fail
  refine k.mono ?_
  rintro e w1 ⟨rfl, hb1⟩
  have c := H11.out _ hb1
  have k1 := HC.out _ hb1
  go_wp2_with fail
  refine k1.mono ?_
  rintro e w2 ⟨v', rfl, hr, hb2⟩
  have HR : Hid (RowO w2 w1.heap.size v' sc.lf ∧ Below w1.heap.size w1 w2) := ⟨hr, hb2⟩
  clear hr hb2
  go_wp2_with fail
  go_ret
  exact ⟨_, rfl, RowO.lower HR.out.1 hb1.size, below_then hb1 HR.out.2⟩
end
end Go.Proofs.YtopnkfbcphbbiaaDoor
namespace Go.Proofs.YtopnkfbcphbbiaaDoor
open Go.RowKit
open H8 (okP sizeF HTab below_then packV packF isH)
open A9 (Ab ArAt ArMem FrA Ar rawA setRawA useA ptrA Ok9 MapI But SrcN Left9 isTab htab_keep upF src_one bN)
open F0 (Pl5 Tn PuAt PoAt FrS noT noT_new plBox plS plS_of below_next Wk Pu Po upO)
open S1 (RowO MAt Mc Out FeM FeR stepF grN clN clN_lt PlS)

section
variable {B : Ab} {base : Nat} {w w' w0 w1 : World} {p : Pl5} {t : Tb} {sc : Sc} {b : Sb} {s : Ar} {K M N T cg : Nat} {ls : Nat → List Nat} {live : List Int} {m0 : Option Mc}
theorem ScM.begin {m : Nat} {hv : Value} {l : List Int} (p : Pl5) (t : Tb) (hb : Below w.heap.size w w1) (hm : MapI w1 m (snF []) 0) (hmw : w.heap.size ≤ m) (hr : RowO w1 w.heap.size hv l) (hne : ∀ g, hv.ownBlock = some g → g ≠ m) (hB : ∀ k, B.has k → k < w.heap.size) (hT : HTab w) :
    ScM B w.heap.size (w1.alloc (.cells (scB p t 0 ⟨w1.heap.size, m, hv, .slice none 0 0, none⟩) 72 (0, 0))) p t ⟨0, [], l, [], none⟩ ⟨w1.heap.size, m, hv, .slice none 0 0, none⟩ := by
  have hsz := hb.size
  have hml := hm.lt
  have hbn : ∀ k, w.heap.size ≤ k → ¬ B.has k := fun k hk hh => by have := hB k hh; omega
  refine ⟨(Go.MapKept.heap_alloc w1 _).1, ⟨0, hm.alloc _⟩, hr.kept fun g hg => Below.heap_alloc _ _ _ (hr.lt g hg).2, RowO.nil _ _, fun _ => rfl, fun m e => (by cases e), fun i j x hi hj => ?_, fun i x hx => ?_, fun x hx => noT_new hT hx⟩
  · have e : ∀ i x, scK ⟨w1.heap.size, m, hv, .slice none 0 0, none⟩ i = some x → (i = 0 ∧ x = w1.heap.size) ∨ (i = 1 ∧ x = m) ∨ (i = 2 ∧ hv.ownBlock = some x) := fun i x hx => by
      match i, hx with
      | 0, hx => exact .inl ⟨rfl, (Option.some.inj hx).symm⟩
      | 1, hx => exact .inr (.inl ⟨rfl, (Option.some.inj hx).symm⟩)
      | 2, hx => exact .inr (.inr ⟨rfl, hx⟩)
      | 3, hx => cases hx
      | 4, hx => cases hx
      | 5, hx => cases hx
      | n + 6, hx => cases hx
    rcases e i x hi with ⟨a1, a2⟩ | ⟨a1, a2⟩ | ⟨a1, a2⟩ <;> rcases e j x hj with ⟨c1, c2⟩ | ⟨c1, c2⟩ | ⟨c1, c2⟩
    · omega
    · omega
    · have := (hr.lt x c2).2; omega
    · omega
    · omega
    · exact absurd a2 (hne x c2)
    · have := (hr.lt x a2).2; omega
    · exact absurd c2 (hne x a2)
    · omega
  · have e : w.heap.size ≤ x ∧ x ≤ w1.heap.size := by
      match i, hx with
      | 0, hx => cases hx; exact ⟨hsz, Nat.le_refl _⟩
      | 1, hx => cases hx; exact ⟨hmw, Nat.le_of_lt hml⟩
      | 2, hx => exact ⟨(hr.lt x hx).1, Nat.le_of_lt (hr.lt x hx).2⟩
      | 3, hx => cases hx
      | 4, hx => cases hx
      | 5, hx => cases hx
      | n + 6, hx => cases hx
    refine ⟨e.1, ?_, hbn x e.1⟩
    simp
    omega
def NsPost (B : Ab) (w : World) (p : Pl5) (t : Tb) (l : List Int) (e : Ending) (w' : World) : Prop := ∃ b : Sb, e = .returned (.pointer (some ⟨b.q, 0, none⟩)) ∧ Below w.heap.size w w' ∧ ScM B w.heap.size w' p t ⟨0, [], l, [], none⟩ b
set_option maxHeartbeats 1000000 in
theorem NewScan_any (p : Pl5) (t : Tb) {v : Value} {l : List Int} {b0 : Nat} (hr : RowO w b0 v l) (hl : l.length ≤ 100000) (hB : ∀ k, B.has k → k < w.heap.size) (hT : HTab w) :
    Calls Tryd.prog 13 #[.agg #[.int .i64 (t.tw : Int), .int .i64 (t.a : Int)], p.v, .int .i64 (t.wk : Int), v] w (NsPost B w p t l) := by
  have kC := fun wx (hb : Below w.heap.size w wx) => clone_any (w := wx) (hr.kept fun g hg => hb.block g (hr.lt g hg).2) hl
  have HC : Hid _ := kC
  have hmm := @run_makeMap Tryd.prog
  obtain ⟨wA, hwA⟩ : ∃ W, W = (w.alloc (.cells #[.int .i64 (t.tw : Int), .int .i64 (t.a : Int)] 28 (0, 0))).alloc (plBox p) := ⟨_, rfl⟩
  have hbA : Below w.heap.size w wA := by rw [hwA]; exact ((Below.refl _ _).alloc (Nat.le_refl _) _).alloc (by simp) _
  have hA1 : wA.heap[w.heap.size]? = some (.cells #[.int .i64 (t.tw : Int), .int .i64 (t.a : Int)] 28 (0, 0)) := by
    rw [hwA]
    exact (Below.heap_alloc _ _ _ (by simp)).trans (Go.MapKept.heap_alloc w _).1
  have hA2 : wA.heap[w.heap.size + 1]? = some (plBox p) := by
    rw [hwA]
    have := (Go.MapKept.heap_alloc (w.alloc (.cells #[.int .i64 (t.tw : Int), .int .i64 (t.a : Int)] 28 (0, 0))) (plBox p)).1
    simpa using this
  have hsA : wA.heap.size = w.heap.size + 2 := by rw [hwA]; simp
  have hcs : ∀ W, Below wA.heap.size wA W → W.cell? ⟨w.heap.size, 0, none⟩ = some (.int .i64 (t.tw : Int)) ∧ W.cell? ⟨w.heap.size, 1, none⟩ = some (.int .i64 (t.a : Int)) ∧ W.cell? ⟨w.heap.size + 1, 0, none⟩ = some (.int .i64 p.wk) ∧ W.cell? ⟨w.heap.size + 1, 1, none⟩ = some (.int .i64 p.hd) ∧ W.cell? ⟨w.heap.size + 1, 2, none⟩ = some (.int .i64 p.ln) ∧ W.cell? ⟨w.heap.size + 1, 3, none⟩ = some (.int .i64 p.gn) ∧ W.cell? ⟨w.heap.size + 1, 4, none⟩ = some (.int .i64 p.cv) := fun W hW => by
    have e1 := (hW.block w.heap.size (by omega)).trans hA1
    have e2 := (hW.block (w.heap.size + 1) (by omega)).trans hA2
    exact ⟨cell_of_row _ _ 0 _ _ _ e1, cell_of_row _ _ 1 _ _ _ e1, cell_of_row _ _ 0 _ _ _ e2, cell_of_row _ _ 1 _ _ _ e2, cell_of_row _ _ 2 _ _ _ e2, cell_of_row _ _ 3 _ _ _ e2, cell_of_row _ _ 4 _ _ _ e2⟩
  have HCS : Hid _ := hcs
  have hS0 := hcs _ (Below.refl _ _)
  have HWA : Hid (wA = (w.alloc (.cells #[.int .i64 (t.tw : Int), .int .i64 (t.a : Int)] 28 (0, 0))).alloc (plBox p)) := hwA
  have HBA : Hid (Below w.heap.size w wA) := hbA
  have HB : Hid ((∀ k, B.has k → k < w.heap.size) ∧ HTab w) := ⟨hB, hT⟩
  clear kC hr hcs hA1 hA2 hsA hwA hbA hB hT
  unfold Pl5.v
  unfold plBox at HWA
  go_enter Tryd.func13, Tryd.ntmps13
  go_wp2_with fail
  rw [← HWA.out]
  have bB : Below wA.heap.size wA (wA.alloc (.map #[] 0)).drew := ((Below.refl wA.heap.size wA).alloc (Nat.le_refl _) _).drew
  have hS1 := HCS.out _ bB
  have HbB : Hid _ := bB
  clear bB
  go_region_held3 (fun W => W.cell? ⟨w.heap.size, 0, none⟩ = some (.int .i64 (t.tw : Int)) ∧ W.cell? ⟨w.heap.size, 1, none⟩ = some (.int .i64 (t.a : Int)) ∧ W.cell? ⟨w.heap.size + 1, 0, none⟩ = some (.int .i64 p.wk) ∧ W.cell? ⟨w.heap.size + 1, 1, none⟩ = some (.int .i64 p.hd) ∧ W.cell? ⟨w.heap.size + 1, 2, none⟩ = some (.int .i64 p.ln) ∧ W.cell? ⟨w.heap.size + 1, 3, none⟩ = some (.int .i64 p.gn) ∧ W.cell? ⟨w.heap.size + 1, 4, none⟩ = some (.int .i64 p.cv)) (first | exact hS0 | exact hS1 | exact hS2 | exact hS4 _ | exact hS3 | exact hS4 _) (first
    | (go_at_call 34; refine (HC.out _ (below_then HBA.out HbB.out)).mono ?_; rintro e w2 ⟨v', rfl, hr2, hb2⟩; obtain ⟨va, vc, hv'⟩ := hr2.len; generalize l.length = vl at hv'; subst hv'; have hb3 := below_then HbB.out hb2; have hS2 := HCS.out _ hb3; have hS4 := fun o : Obj => HCS.out _ (below_then hb3 ((Below.refl w2.heap.size w2).alloc (Nat.le_refl _) o)); have HE : Hid (RowO w2 (wA.alloc (.map #[] 0)).drew.heap.size (.slice va vl vc) l ∧ Below (wA.alloc (.map #[] 0)).drew.heap.size (wA.alloc (.map #[] 0)).drew w2) := ⟨hr2, hb2⟩; clear hr2 hb2 hb3)
    | (go_at_call 34; refine (HC.out _ (below_then HBA.out (Below.refl wA.heap.size wA).drew)).mono ?_; rintro e w2 ⟨v', rfl, hr2, hb2⟩; obtain ⟨va, vc, hv'⟩ := hr2.len; generalize l.length = vl at hv'; subst hv'; have hb3 := below_then (Below.refl wA.heap.size wA).drew hb2; have hS2 := HCS.out _ hb3; have hS3 := HCS.out _ (below_then hb3 ((Below.refl w2.heap.size w2).alloc (Nat.le_refl _) (.map #[] 0))); have hS4 := fun o : Obj => HCS.out _ (below_then hb3 (((Below.refl w2.heap.size w2).alloc (Nat.le_refl _) (.map #[] 0)).alloc (by simp) o)); have HE : Hid (RowO w2 wA.drew.heap.size (.slice va vl vc) l ∧ Below wA.heap.size wA w2) := ⟨hr2, hb3⟩; clear hr2 hb2 hb3))
  · go_wp2_with fail
    go_ret
    obtain ⟨hr2, hb2⟩ := HE.out
    have hbz := below_then (below_then HBA.out HbB.out) hb2
    have hz : (wA.alloc (.map #[] 0)).drew.heap.size = wA.heap.size + 1 := by simp
    have hm : MapI w2 wA.heap.size (snF []) 0 := (MapI.made wA).drew.below hb2
    exact ⟨_, rfl, hbz.alloc hbz.size _, ScM.begin (hv := .slice va vl vc) p t hbz hm HBA.out.size (RowO.lower hr2 (below_then HBA.out HbB.out).size) (fun g hg e => by have := (hr2.lt g hg).1; rw [hz, e] at this; exact absurd this (Nat.not_succ_le_self _)) HB.out.1 HB.out.2⟩
  · go_wp2_with fail
    go_ret
    obtain ⟨hr2, hb2⟩ := HE.out
    have hbz := below_then HBA.out hb2
    have hm : MapI (w2.alloc (.map #[] 0)) w2.heap.size (snF []) 0 := MapI.made w2
    have hba := hbz.alloc hbz.size (.map #[] 0)
    have k := ScM.begin (hv := .slice va vl vc) p t hba hm hbz.size (RowO.lower (hr2.kept fun g hg => Below.heap_alloc _ _ _ (hr2.lt g hg).2) HBA.out.size) (fun g hg => by have := (hr2.lt g hg).2; omega) HB.out.1 HB.out.2
    rw [show (w2.alloc (.map #[] 0)).heap.size = w2.heap.size + 1 by simp] at k
    exact ⟨⟨w2.heap.size + 1, w2.heap.size, .slice va vl vc, .slice none 0 0, none⟩, rfl, hba.alloc hba.size _, k⟩
end
end Go.Proofs.YtopnkfbcphbbiaaDoor
namespace Go.Proofs.YtopnkfbcphbbiaaDoor
open Go.RowKit
open H8 (okP sizeF HTab below_then packV packF)
open A9 (Ab ArAt ArMem FrA Ar rawA setRawA swapRawA addRawA useA Left9 ptrA Ok9 okB bornS bornA diedA diedS)
open S1 (Al Fe AlM FeM AlR FeR Mc Out Inv Run RnA RnF stepF endB outR outF PlS S3 alStep feStep step_uses nilAl mthAl nilFe mthFe ifAl ifFe EndA EndF S3.far)
open F0 (Pl5 Tn PuAt PoAt FrS noT plBox plS plS_of below_next Wk noT_new Pu Po)

/-- all that holds at a round's head -/
structure RnA (B : Ab) (q : Nat) (W : World) (p : Pl5) (K M N x0 : Nat) (sE : Ar) (o : Out) (i : Nat) (w : World) (s : Ar) (m : Mc) (a : Al) (t : Tn) (n : Nat) : Prop where
  ar : ArAt B w s
  al : AlM B q w p a t
  R : AlR m a t
  I : Inv K M s m (N + i)
  run : Run K M n s m sE o
  le : i + n ≤ 2000
  fr : FrS (S3 B q x0) W w
  nx : a.x = x0 ∨ W.heap.size ≤ a.x
def EndA (B : Ab) (q : Nat) (W : World) (p : Pl5) (x0 : Nat) (sE : Ar) (o : Out) (e : Ending) (w : World) : Prop :=
  e = .returned (.bool true) ∧ ArAt B w sE ∧ ∃ a t, AlM B q w p a t ∧ outR o a t ∧ FrS (S3 B q x0) W w ∧ (a.x = x0 ∨ W.heap.size ≤ a.x)
section
variable {B : Ab} {q : Nat} {w w' : World} {p : Pl5} {a : Al} {t t' : Tn} {s s' : Ar} {K M N : Nat}
theorem S3.far {W : World} {x0 x : Nat} {w1 w2 : World} (h1 : FrS (S3 B q x0) W w1) (h2 : FrS (S3 B q x) w1 w2) (hx : x = x0 ∨ W.heap.size ≤ x) : FrS (S3 B q x0) W w2 := by
  refine ⟨h2.os.trans h1.os, h2.tape.trans h1.tape, h2.output.trans h1.output, Nat.le_trans h1.size h2.size, fun k hk hn => (h2.block k (Nat.lt_of_lt_of_le hk h1.size) fun hh => ?_).trans (h1.block k hk hn)⟩
  rcases hh with hh | hh | hh
  · exact hn (.inl hh)
  · exact hn (.inr (.inl hh))
  · rcases hx with e | e
    · exact hn (.inr (.inr (hh.trans e)))
    · omega
theorem RnA.step {W : World} {x0 i n : Nat} {sE : Ar} {o : Out} {m : Mc} (h : RnA B q W p K M N x0 sE o i w s m a t n) (hp : PlS K M p) (hN : N ≤ 800000) :
    Calls Tryd.prog 25 #[.pointer (some ⟨q, 0, none⟩), ptrA B] w fun e w' => ∃ d s', e = .returned (.bool d) ∧ s'.uses = wrap64 (s.uses + 1) ∧ ArAt B w' s' ∧
      (d = true → EndA B q W p x0 sE o (.returned (.bool true)) w') ∧ (d = false → ∃ m' a' t' n', RnA B q W p K M N x0 sE o (i + 1) w' s' m' a' t' n') := by
  have hle := h.le
  refine (alStep h.ar h.al h.R hp h.I (by omega)).mono fun e w' hh => ?_
  obtain ⟨a', t', ⟨e1, e2, e3, e4, e5⟩, e6⟩ := hh
  have hu := (step_uses K M s m).1
  have hfr := S3.far h.fr e4 h.nx
  have hnx : a'.x = x0 ∨ W.heap.size ≤ a'.x := by
    rcases e5 with e5 | e5
    · rw [e5]; exact h.nx
    · exact .inr (Nat.le_trans h.fr.size e5)
  refine ⟨_, _, e1, hu, e2, fun hd => ?_, fun hd => ?_⟩
  · rcases h.run.cases' with ⟨-, -, r1, r2⟩ | ⟨n', s', m', -, r, -⟩
    · rw [r1] at e2
      rw [r2] at e6
      exact ⟨rfl, e2, a', t', e3, e6, hfr, hnx⟩
    · rw [r] at hd
      simp [endB] at hd
  · rcases h.run.cases' with ⟨r0, -, -, -⟩ | ⟨n', s', m', rfl, r, hr⟩
    · rw [r0] at hd
      cases hd
    · have hI := h.I.step h.ar.ok (by omega) r
      rw [r] at e2 e6
      rw [r]
      exact ⟨m', a', t', n', e2, e3, e6, hI, hr, by omega, hfr, hnx⟩
set_option maxHeartbeats 1000000 in
theorem runAl (hA : ArAt B w s) (hM : AlM B q w p a t) {m : Mc} (hR : AlR m a t) (hp : PlS K M p) (hI : Inv K M s m N) (hN : N ≤ 800000) {n : Nat} {sE : Ar} {o : Out} (hr : Run K M n s m sE o) (hn : n ≤ 2000) :
    Calls Tryd.prog 16 #[ptrA B, ifAl q] w (EndA B q w p a.x sE o) := by
  have h0 : Hid (RnA B q w p K M N a.x sE o 0 w s m a t n) := ⟨hA, hM, hR, hI, hr, by omega, FrS.refl _ _, .inl rfl⟩
  have hn1 := nilAl ⟨q, 0, none⟩
  have hm1 := mthAl ⟨q, 0, none⟩
  generalize a.x = x0 at *
  clear hA hM hR hI hr hn
  go_enter Tryd.func16, Tryd.ntmps16
  go_wp2_with fail
  go_loopw [5] (fun iv wr => ∃ i : Nat, iv = .int .i64 i ∧ ∃ s m a t n, RnA B q w p K M N x0 sE o i wr s m a t n) (fun iv _ => 2000 - (intOf iv).toNat)
  case atStart => exact ⟨0, rfl, _, _, _, _, _, h0.out⟩
  case round =>
    obtain ⟨i, rfl, s1, m1, a1, t1, n1, hR⟩ := hrel
    clear h0
    obtain ⟨wq, rfl⟩ : ∃ W, W = wr := ⟨wr, rfl⟩
    have hi3 : (i : Int) < 2000 := by
      have h1 := hR.le
      have h2 := hR.run.pos
      omega
    have ku := A9.Uses_any hR.ar
    have ks := hR.step hp hN
    clear hR
    go_wp2_with fail
    refine ku.mono ?_
    rintro e w1 ⟨rfl, rfl⟩
    go_wp2_with fail
    refine ks.mono ?_
    rintro e w2 ⟨d, s2, rfl, hu, hA2, ht, hf⟩
    have ku2 := A9.Uses_any hA2
    have hdec : decide (wrap64 (s1.uses + 1) < s2.uses) = false := by simp [hu]
    clear hA2 hu ku ks
    generalize s1.uses = u1 at *
    generalize s2.uses = u2 at *
    go_wp2_with fail
    refine ku2.mono ?_
    rintro e w3 ⟨rfl, rfl⟩
    cases d with
    | true =>
      have HE : Hid (EndA B q w p x0 sE o (.returned (.bool true)) w3) := ht rfl
      clear ht hf
      go_wp2_with fail
      go_ret
      exact HE.out
    | false =>
      have HE : Hid (∃ m' a' t' n', RnA B q w p K M N x0 sE o (i + 1) w3 s2 m' a' t' n') := hf rfl
      clear ht hf
      go_wp2_with fail
      go_roundw
      case rel =>
        obtain ⟨m', a', t', n', h⟩ := HE.out
        exact ⟨i + 1, by go_num, _, m', a', t', n', h⟩
      case measure => simp [intOf]; omega
/-! ### a free -/
structure RnF (B : Ab) (q : Nat) (W : World) (p : Pl5) (K M N y0 : Nat) (b : Int) (sE : Ar) (o : Out) (i : Nat) (w : World) (s : Ar) (m : Mc) (f : Fe) (t : Tn) (n : Nat) : Prop where
  ar : ArAt B w s
  al : FeM B q w p f b t
  R : FeR m f b t
  I : Inv K M s m (N + i)
  run : Run K M n s m sE o
  le : i + n ≤ 2000
  fr : FrS (S3 B q y0) W w
  nx : f.y = y0
def EndF (B : Ab) (q : Nat) (W : World) (y0 : Nat) (sE : Ar) (e : Ending) (w : World) : Prop :=
  e = .returned (.bool true) ∧ ArAt B w sE ∧ FrS (S3 B q y0) W w
theorem RnF.step {W : World} {y0 i n : Nat} {b : Int} {f : Fe} {sE : Ar} {o : Out} {m : Mc} (h : RnF B q W p K M N y0 b sE o i w s m f t n) (hp : PlS K M p) (hN : N ≤ 800000) :
    Calls Tryd.prog 54 #[.pointer (some ⟨q, 0, none⟩), ptrA B] w fun e w' => ∃ d s', e = .returned (.bool d) ∧ s'.uses = wrap64 (s.uses + 1) ∧ ArAt B w' s' ∧
      (d = true → EndF B q W y0 sE (.returned (.bool true)) w') ∧ (d = false → ∃ m' f' t' n', RnF B q W p K M N y0 b sE o (i + 1) w' s' m' f' t' n') := by
  have hle := h.le
  refine (feStep h.ar h.al h.R hp h.I).mono fun e w' hh => ?_
  obtain ⟨f', t', ⟨e1, e2, e3, e4⟩, e5, e6⟩ := hh
  have hu := (step_uses K M s m).1
  have hfr : FrS (S3 B q y0) W w' := S3.far h.fr (x := f'.y) e4 (.inl (e5.trans h.nx))
  refine ⟨_, _, e1, hu, e2, fun hd => ?_, fun hd => ?_⟩
  · rcases h.run.cases' with ⟨-, -, r1, r2⟩ | ⟨n', s', m', -, r, -⟩
    · rw [r1] at e2
      exact ⟨rfl, e2, hfr⟩
    · rw [r] at hd
      simp [endB] at hd
  · rcases h.run.cases' with ⟨r0, -, -, -⟩ | ⟨n', s', m', rfl, r, hr⟩
    · rw [r0] at hd
      cases hd
    · have hI := h.I.step h.ar.ok (by omega) r
      rw [r] at e2 e6
      rw [r]
      exact ⟨m', f', t', n', e2, e3, e6, hI, hr, by omega, hfr, e5.trans h.nx⟩
set_option maxHeartbeats 1000000 in
theorem runFe {f : Fe} {b : Int} (hA : ArAt B w s) (hM : FeM B q w p f b t) {m : Mc} (hR : FeR m f b t) (hp : PlS K M p) (hI : Inv K M s m N) (hN : N ≤ 800000) {n : Nat} {sE : Ar} {o : Out} (hr : Run K M n s m sE o) (hn : n ≤ 2000) :
    Calls Tryd.prog 16 #[ptrA B, ifFe q] w (EndF B q w f.y sE) := by
  have h0 : Hid (RnF B q w p K M N f.y b sE o 0 w s m f t n) := ⟨hA, hM, hR, hI, hr, by omega, FrS.refl _ _, rfl⟩
  have hn1 := nilFe ⟨q, 0, none⟩
  have hm1 := mthFe ⟨q, 0, none⟩
  generalize f.y = x0 at *
  clear hA hM hR hI hr hn
  go_enter Tryd.func16, Tryd.ntmps16
  go_wp2_with fail
  go_loopw [5] (fun iv wr => ∃ i : Nat, iv = .int .i64 i ∧ ∃ s m f t n, RnF B q w p K M N x0 b sE o i wr s m f t n) (fun iv _ => 2000 - (intOf iv).toNat)
  case atStart => exact ⟨0, rfl, _, _, _, _, _, h0.out⟩
  case round =>
    obtain ⟨i, rfl, s1, m1, a1, t1, n1, hR⟩ := hrel
    clear h0
    obtain ⟨wq, rfl⟩ : ∃ W, W = wr := ⟨wr, rfl⟩
    have hi3 : (i : Int) < 2000 := by
      have h1 := hR.le
      have h2 := hR.run.pos
      omega
    have ku := A9.Uses_any hR.ar
    have ks := hR.step hp hN
    clear hR
    go_wp2_with fail
    refine ku.mono ?_
    rintro e w1 ⟨rfl, rfl⟩
    go_wp2_with fail
    refine ks.mono ?_
    rintro e w2 ⟨d, s2, rfl, hu, hA2, ht, hf⟩
    have ku2 := A9.Uses_any hA2
    have hdec : decide (wrap64 (s1.uses + 1) < s2.uses) = false := by simp [hu]
    clear hA2 hu ku ks
    generalize s1.uses = u1 at *
    generalize s2.uses = u2 at *
    go_wp2_with fail
    refine ku2.mono ?_
    rintro e w3 ⟨rfl, rfl⟩
    cases d with
    | true =>
      have HE : Hid (EndF B q w x0 sE (.returned (.bool true)) w3) := ht rfl
      clear ht hf
      go_wp2_with fail
      go_ret
      exact HE.out
    | false =>
      have HE : Hid (∃ m' f' t' n', RnF B q w p K M N x0 b sE o (i + 1) w3 s2 m' f' t' n') := hf rfl
      clear ht hf
      go_wp2_with fail
      go_roundw
      case rel =>
        obtain ⟨m', a', t', n', h⟩ := HE.out
        exact ⟨i + 1, by go_num, _, m', a', t', n', h⟩
      case measure => simp [intOf]; omega
end
end Go.Proofs.YtopnkfbcphbbiaaDoor
