/-
  Helpers: S1Sj, S1Sk, S1Sm.
-/
import Derived.Test.YtopnkfbcphbbiaaDoorBun3e9ffec32249
namespace Go.Proofs.YtopnkfbcphbbiaaDoor.S1
open Go.RowKit
open H8 (okP sizeF HTab below_then packV packF isH)
open A9 (Ab ArAt ArMem FrA Ar rawA useA Ok9 okB bornS retireS retireA diedA diedS inS zN bN opB_pack isH_pack)
open F0 (Pu Po upH upH_same upH_other upLs upLs_same upLs_other upO upO_same upO_other RwL Ls)

structure On1 (K M : Nat) (s : Ar) (gn : Nat → Int) (cg : Nat) (cl : Nat → Option Nat) (ls : Nat → List Nat) (hs : List Int) (T : Nat) : Prop where
  ex : ∃ hd lk own mc, Sl K M 1 s hd lk gn cg cl ls own mc T ∧ own 0 = hs ∧ mc 0 = none
def outH : Out → Int
  | .got h => h
  | _ => 0
theorem Run.bad {K M n : Nat} {s : Ar} {m : Mc} {sE : Ar} {o : Out} (h : Run K M n s m sE o) : sE.bad = s.bad := by
  induction h with
  | @last s m s' o e h =>
    have := (step_uses K M s m).2
    rw [e] at this
    exact this
  | @more n s s' s2 m m' o e h ih =>
    have := (step_uses K M s m).2
    rw [e] at this
    exact ih.trans this
theorem Run.us {K M n : Nat} {s : Ar} {m : Mc} {sE : Ar} {o : Out} (h : Run K M n s m sE o) : sE.uses = wrap64 (s.uses + n) := by
  induction h with
  | @last s m s' o e h =>
    have := (step_uses K M s m).1
    rw [e] at this
    exact this
  | @more n s s' s2 m m' o e h ih =>
    have := (step_uses K M s m).1
    rw [e] at this
    simp only at this
    rw [ih, this, A9.wr64_add]
    congr 1
    omega
theorem step_was (K M : Nat) (s : Ar) (m : Mc) (p : Nat) : (stepF K M s m).1.was p = true ↔ s.was p = true ∨ ∃ h, (stepF K M s m).2 = .got h ∧ inS h p := by
  cases m with
  | free h i m =>
    unfold stepF
    dsimp only
    split
    · simp [useA]
    · split
      · simp [F0.linkS, useA]
      · split
        · simp [diedS, F0.headS, useA]
        · simp [useA]
  | pop c i n m =>
    unfold stepF
    dsimp only
    split
    · split <;> simp [useA]
    · split
      · simp [useA]
      · split
        · simp [F0.headS, useA]
        · simp [useA]
  | look c =>
    unfold stepF
    dsimp only
    split <;> simp [useA]
  | carve c v =>
    unfold stepF
    dsimp only
    split
    · simp [F0.headS, useA]
    · simp [useA]
  | gen c b =>
    unfold stepF
    dsimp only
    simp only [bornS, genS, useA]
    by_cases e : inS (nmV b (s.raw (K + M + b) + 1) c) p
    · simp [e]
    · simp [e]
theorem Run.was {K M n : Nat} {s : Ar} {m : Mc} {sE : Ar} {o : Out} (h : Run K M n s m sE o) (p : Nat) : sE.was p = true ↔ s.was p = true ∨ ∃ h, o = .got h ∧ inS h p := by
  induction h with
  | @last s m s' o e h =>
    have := step_was K M s m p
    rw [e] at this
    exact this
  | @more n s s' s2 m m' o e h ih =>
    have := step_was K M s m p
    rw [e] at this
    simp at this
    rw [ih, this]
/-- what one that was asked for ends with -/
inductive AskR (K M : Nat) (gn : Nat → Int) (cg : Nat) (cl : Nat → Option Nat) (ls : Nat → List Nat) (hs : List Int) (T c nw i n : Nat) : Ar → Out → Prop
  | old {s' : Ar} (j b : Nat) (r : List Nat) (hj : j ≤ n) (he : ∀ l, l < j → ls (itL K i l) = []) (hl : ls (itL K i j) = b :: r) (hb : cl b = some c) (ok : okP (8 * (b : Int)) (gn b + 1) c)
      (h : On1 K M s' (upH gn b (gn b + 1)) cg cl (upLs ls (itL K i j) r) (hs ++ [nmV b (gn b + 1) c]) (T + 2)) (hn : s'.nw = nw) : AskR K M gn cg cl ls hs T c nw i n s' (.got (nmV b (gn b + 1) c))
  | new {s' : Ar} (he : ∀ l, l ≤ n → ls (itL K i l) = []) (hf : 8 * cg + 8 * zg c ≤ nw) (ok : okP (8 * (cg : Int)) (gn cg + 1) c)
      (h : On1 K M s' (upH gn cg (gn cg + 1)) (cg + zg c) (upC cl cg c) ls (hs ++ [nmV cg (gn cg + 1) c]) (T + 2)) (hn : s'.nw = nw) : AskR K M gn cg cl ls hs T c nw i n s' (.got (nmV cg (gn cg + 1) c))
  | none {s' : Ar} (he : ∀ l, l ≤ n → ls (itL K i l) = []) (hf : ¬ 8 * cg + 8 * zg c ≤ nw)
      (h : On1 K M s' gn cg cl ls hs (T + 2)) (hn : s'.nw = nw) : AskR K M gn cg cl ls hs T c nw i n s' .refused
section
variable {K M T : Nat} {s : Ar} {gn : Nat → Int} {cg : Nat} {cl : Nat → Option Nat} {ls : Nat → List Nat} {hs : List Int}
theorem On1.wide (h : On1 K M s gn cg cl ls hs T) {T' : Nat} (hT : T ≤ T') : On1 K M s gn cg cl ls hs T' := by
  obtain ⟨hd, lk, own, mc, h1, h2, h3⟩ := h.ex
  exact ⟨hd, lk, own, mc, h1.wide hT, h2, h3⟩
theorem On1.used (h : On1 K M s gn cg cl ls hs T) (u : Int) : On1 K M (F0.usedA s u) gn cg cl ls hs T := by
  obtain ⟨hd, lk, own, mc, h1, h2, h3⟩ := h.ex
  exact ⟨hd, lk, own, mc, ⟨h1.I.same rfl rfl rfl rfl rfl, h1.N.same rfl rfl rfl rfl rfl⟩, h2, h3⟩
theorem On1.ask (h : On1 K M s gn cg cl ls hs T) (hO : Ok9 s) (hT : T ≤ 800000) {i c n : Nat} (hi : i < K) (hic : i % 4 = c) (hn : n ≤ 200) :
    ∃ a s' o, a ≤ 300 ∧ Run K M a s (.pop c i n ⟨0, 0, 0⟩) s' o ∧ Inv K M s (.pop c i n ⟨0, 0, 0⟩) T ∧ AskR K M gn cg cl ls hs T c s.nw i n s' o := by
  obtain ⟨hd, lk, own, mc, h1, h2, h3⟩ := h.ex
  have h4 := h1.ask (w := 0) (by omega) h3 (c := c) (i := i) (n := n) hi hic
  obtain ⟨a, s', o, ha, hr, hg⟩ := h4.runAsk n hO (by omega) (w := 0) (by omega) (c := c) (i := i) (m := ⟨0, 0, 0⟩) (upO_same _ _ _) rfl
  refine ⟨a, s', o, by omega, hr, ⟨1, hd, lk, gn, cg, cl, ls, own, _, T, 0, h4, by omega, upO_same _ _ _, Nat.le_refl _⟩, ?_⟩
  cases hg with
  | old j b r hj he hl hb ok h6 hn => exact .old j b r hj he hl hb ok ⟨_, _, _, _, h6, by rw [upO_same, h2], upO_same _ _ _⟩ hn
  | new he hf ok h6 hn => exact .new he hf ok ⟨_, _, _, _, h6, by rw [upO_same, h2], upO_same _ _ _⟩ hn
  | none he hf h6 hn => exact .none he hf ⟨_, _, _, _, h6, h2, upO_same _ _ _⟩ hn
theorem On1.give (h : On1 K M s gn cg cl ls hs T) (hT : T ≤ 800000) {l1 l2 : List Int} {a : Int} (ho : hs = l1 ++ a :: l2) {i : Nat} (hi : i < K) (hic : i % 4 = clN a) :
    s.st a = 1 ∧ Inv K M (retireS s a) (.free a i ⟨grN a, 0, 0⟩) T ∧ ∃ s', Run K M 3 (retireS s a) (.free a i ⟨grN a, 0, 0⟩) s' .freed ∧ s'.nw = s.nw ∧ s'.st a = 0 ∧ On1 K M s' gn cg cl (upLs ls i (grN a :: ls i)) (l1 ++ l2) (T + 1) := by
  obtain ⟨hd, lk, own, mc, h1, h2, h3⟩ := h.ex
  have h4 := h1.retire (by omega) (w := 0) (by omega) (h2.trans ho) h3 hi hic
  have hl := h1.I.live 0 (by omega) a (by rw [h2, ho]; simp)
  obtain ⟨s', hd', lk', e1, e2, hr, h5⟩ := h4.runFree (by omega) (w := 0) (by omega) (upO_same _ _ _) rfl
  refine ⟨hl, ⟨1, hd, lk, gn, cg, cl, ls, _, _, T, 0, h4, by omega, upO_same _ _ _, Nat.le_refl _⟩, s', hr, e1, e2, ⟨_, _, _, _, h5, upO_same _ _ _, upO_same _ _ _⟩⟩
/-- one that is this actor's -/
theorem On1.live (h : On1 K M s gn cg cl ls hs T) {a : Int} (ha : a ∈ hs) : s.st a = 1 := by
  obtain ⟨hd, lk, own, mc, h1, h2, h3⟩ := h.ex
  exact h1.I.live 0 (by omega) a (by rw [h2]; exact ha)
theorem On1.cv (h : On1 K M s gn cg cl ls hs T) : rawA s ((K + M + M : Nat) : Int) = (useA s, 8 * (cg : Int)) := by
  obtain ⟨hd, lk, own, mc, h1, h2, h3⟩ := h.ex
  exact rawA_cv h1.I.rw
theorem On1.lists (h : On1 K M s gn cg cl ls hs T) : ∃ hd lk, RwL K M s hd lk ∧ ∀ i, i < K → Ls M (hd i) lk (ls i) := by
  obtain ⟨hd, lk, own, mc, h1, h2, h3⟩ := h.ex
  exact ⟨hd, lk, h1.I.rw.toRwL, h1.I.L⟩
end
theorem On1.new {K M : Nat} (r n : Int) (hr : K + M + M + 1 ≤ (A9.new9 r n false).nr) (hb : K + M + M + 1 ≤ 65536) (hn : (A9.new9 r n false).nw ≤ 8 * M) (hM : M ≤ 8192) (hK : K % 4 = 0) : On1 K M (A9.new9 r n false) (fun _ => 0) 0 (fun _ => none) (fun _ => []) [] 0 :=
  ⟨_, _, _, _, ⟨SxI.new r n hr hb hn hM hK, SxC.new r n⟩, rfl, rfl⟩
/-- a name is none of 0 -/
theorem nm_ne {b c : Nat} {g : Int} (h : okP (8 * (b : Int)) g c) : nmV b g c ≠ 0 := by
  obtain ⟨h1, h2, h3, h4, h5, h6⟩ := h
  unfold nmV packV
  omega
theorem no_zero : ¬ isH 0 := by
  rintro ⟨a, b, c, ⟨h1, h2, h3, h4, h5, h6⟩, e⟩
  unfold packV at e
  omega
end Go.Proofs.YtopnkfbcphbbiaaDoor.S1
namespace Go.Proofs.YtopnkfbcphbbiaaDoor.S1
open Go.RowKit
open H8 (okP sizeF HTab below_then packV packF isH opA opB opC)
open A9 (Ab ArAt ArMem FrA Ar rawA useA ptrA Ok9 okB bornS retireS retireA diedA diedS inS zN bN opB_pack isH_pack isH_parts Left9 opA_bN opC_bd)
open F0 (Pl5 Tn PuAt PoAt FrS noT noT_new plBox plS plS_of below_next Wk headF headF_eq Pu Po upH upLs upO RwL Ls usedA)

/-- an alloc that begins, beside an arena -/
structure AlN (B : Ab) (W w : World) (s : Ar) (g : Nat) (p : Pl5) (w0 : World) (q : Nat) (k c nx : Int) : Prop where
  wk : Wk B W w s g p
  ex : ∃ x, AlM B q w p ⟨x, k, c, p.wk - 1, nx, 0, 0⟩ ⟨headF p k c, 0, 0, 0⟩ ∧ w0.heap.size ≤ x
  q0 : w0.heap.size ≤ q
  bel : Below w0.heap.size w0 w
structure FeN (B : Ab) (W w : World) (s : Ar) (g : Nat) (p : Pl5) (w0 : World) (q : Nat) (k h : Int) : Prop where
  wk : Wk B W w s g p
  ex : ∃ y, FeM B q w p ⟨y, h, false⟩ ((grN h : Int) + 1) ⟨headF p k (opC h), 0, 0, 0⟩ ∧ w0.heap.size ≤ y
  q0 : w0.heap.size ≤ q
  bel : Below w0.heap.size w0 w
def AlNew (B : Ab) (W : World) (s : Ar) (g : Nat) (p : Pl5) (w : World) (k c nx : Int) (e : Ending) (w' : World) : Prop := ∃ q, e = .returned (.pointer (some ⟨q, 0, none⟩)) ∧ AlN B W w' s g p w q k c nx
def FeNew (B : Ab) (W : World) (s : Ar) (g : Nat) (p : Pl5) (w : World) (k h : Int) (e : Ending) (w' : World) : Prop := ∃ q, e = .returned (.pointer (some ⟨q, 0, none⟩)) ∧ FeN B W w' s g p w q k h
/-- its end -/
def AlEnd (q : Nat) (w : World) (p : Pl5) (h : Int) : Prop := ∃ a, AlAt q w p a ∧ a.hn = h
section
variable {B : Ab} {W w w' w0 : World} {s s' : Ar} {g q : Nat} {p : Pl5} {K M T : Nat} {gn : Nat → Int} {cg : Nat} {cl : Nat → Option Nat} {ls : Nat → List Nat} {hs : List Int}
theorem frA_of {x : Nat} (hb : Below w0.heap.size w0 w) (hF : FrS (S3 B q x) w w') (hq : w0.heap.size ≤ q) (hx : w0.heap.size ≤ x) : FrA B w0 w' :=
  ⟨hF.os.trans hb.os, hF.tape.trans hb.tape, hF.output.trans hb.output, Nat.le_trans hb.size hF.size, fun k hk hn => (hF.block k (Nat.lt_of_lt_of_le hk hb.size) (fun hh => by
    rcases hh with hh | hh | hh
    · exact hn hh
    · omega
    · omega)).trans (hb.block k hk)⟩
theorem newAlW (hW : Wk B W w s g p) {k c : Int} (h1 : 1 ≤ p.wk) (h2 : p.wk ≤ 1000000) (hc : sizeF c ≠ 0) : Calls Tryd.prog 24 #[p.v, .int .i64 k, .int .i64 c] w (AlNew B W s g p w k c 0) := by
  refine (NewAl_ok p k c h1 h2 hc w hW.ar.tab).mono fun e w' hh => ?_
  obtain ⟨q, x, e1, e2, e3, e4, e5, e6, e7⟩ := hh
  have hl := fun k (hk : B.has k) => hW.ar.lt hk
  exact ⟨q, e1, ⟨hW.below e4, ⟨x, ⟨e2, e3, fun hb => by have := hl _ hb; omega, fun hb => by have := hl _ hb; simp only at this; omega, noT_new hW.ar.tab e5, noT_new hW.ar.tab e6⟩, e6⟩, e5, e4⟩⟩
theorem newAlW4 (hW : Wk B W w s g p) {k c : Int} (h1 : 1 ≤ p.wk) (h2 : p.wk ≤ 1000000) (hc : sizeF c = 0) : Calls Tryd.prog 24 #[p.v, .int .i64 k, .int .i64 c] w (AlNew B W s g p w k c 4) := by
  refine (NewAl_no p k c h1 h2 hc w hW.ar.tab).mono fun e w' hh => ?_
  obtain ⟨q, x, e1, e2, e3, e4, e5, e6, e7⟩ := hh
  have hl := fun k (hk : B.has k) => hW.ar.lt hk
  exact ⟨q, e1, ⟨hW.below e4, ⟨x, ⟨e2, e3, fun hb => by have := hl _ hb; omega, fun hb => by have := hl _ hb; simp only at this; omega, noT_new hW.ar.tab e5, noT_new hW.ar.tab e6⟩, e6⟩, e5, e4⟩⟩
/-- what the run of one leaves -/
structure RunP (B : Ab) (W w : World) (s : Ar) (g : Nat) (p : Pl5) (K M : Nat) (gn : Nat → Int) (cg : Nat) (cl : Nat → Option Nat) (ls : Nat → List Nat) (hs : List Int) (T : Nat) (q k c : Nat) (w' : World) (s' : Ar) (o : Out) : Prop where
  wk : Wk B W w' s' g p
  fr : FrA B w w'
  R : AskR K M gn cg cl ls hs T c s.nw (4 * k + c) (K / 4 - 1) s' o
  bad : s'.bad = s.bad
  was : ∀ x, s'.was x = true ↔ s.was x = true ∨ ∃ h, o = .got h ∧ inS h x
  us : ∃ n : Nat, n ≤ 300 ∧ s'.uses = wrap64 (s.uses + n)
  en : AlEnd q w' p (outH o)
theorem handleW {h : Int} (hE : AlEnd q w p h) : Calls Tryd.prog 26 #[.pointer (some ⟨q, 0, none⟩)] w fun e w' => e = .returned (.tuple #[.int .i64 h, .bool (h != 0)]) ∧ Below w.heap.size w w' := by
  obtain ⟨a, ha, rfl⟩ := hE
  exact Handle_any ha
/-- a slot that this actor has goes back -/
theorem On1.name (hO : On1 K M s gn cg cl ls hs T) (hOk : Ok9 s) {a : Int} (ha : a ∈ hs) : isH a ∧ bN a = 8 * grN a ∧ clN a < 4 ∧ grN a < 8192 := by
  have h1 := hO.live ha
  obtain ⟨hd, lk, own, mc, h2, h3, h4⟩ := hO.ex
  obtain ⟨⟨x1, x2⟩, -⟩ := h2.I.seen a (by rw [h1]; decide)
  obtain ⟨f1, f2, f3⟩ := hOk.fit a (by rw [h1]; decide)
  have := h2.I.Mlt x2
  have := h2.I.M8
  exact ⟨f1, x1, clN_lt a, by omega⟩
theorem newFeW (hW : Wk B W w s g p) {k a : Int} (hh : isH a) (hb : bN a = 8 * grN a) : Calls Tryd.prog 53 #[p.v, .int .i64 k, .int .i64 a] w (FeNew B W s g p w k a) := by
  obtain ⟨ho, he⟩ := isH_parts hh
  have h := NewFe_ok p k (opA a) (opB a) (opC a) ho w hW.ar.tab
  rw [← he] at h
  refine h.mono fun e w' hh => ?_
  obtain ⟨q, y, e1, e2, e3, e4, e5, e6, e7⟩ := hh
  have hl := fun k (hk : B.has k) => hW.ar.lt hk
  have hm : opA a / 8 + 1 = (grN a : Int) + 1 := by rw [opA_bN, hb]; omega
  rw [hm] at e3
  exact ⟨q, e1, ⟨hW.below e4, ⟨y, ⟨e2, e3, fun hb => by have := hl _ hb; omega, fun hb => by have := hl _ hb; simp only at this; omega, noT_new hW.ar.tab e5, noT_new hW.ar.tab e6⟩, e6⟩, e5, e4⟩⟩
structure GiveP (B : Ab) (W w : World) (s : Ar) (g : Nat) (p : Pl5) (K M : Nat) (gn : Nat → Int) (cg : Nat) (cl : Nat → Option Nat) (ls : Nat → List Nat) (hs : List Int) (T : Nat) (a : Int) (w' : World) (s' : Ar) : Prop where
  wk : Wk B W w' s' g p
  fr : FrA B w w'
  on : On1 K M s' gn cg cl ls hs T
  bad : s'.bad = s.bad
  nw : s'.nw = s.nw
  dead : s'.st a = 0
  us : ∃ n : Nat, n ≤ 300 ∧ s'.uses = wrap64 (s.uses + n)
end
end Go.Proofs.YtopnkfbcphbbiaaDoor.S1
namespace Go.Proofs.YtopnkfbcphbbiaaDoor.S1
open Go.RowKit
open H8 (okP sizeF HTab below_then packV packF isH opA opB opC)
open A9 (Ab ArAt ArMem FrA Ar rawA useA ptrA Ok9 okB bornS retireS retireA diedA diedS inS zN bN Left9 New9 new9)
open F0 (Pl5 FrS noT noT_new plBox plS plS_of below_next Wk Raw_at tab_new)

def awP : Pl5 := ⟨1, 0, 4, 12, 20⟩
theorem aw_pls : PlS 4 8 awP := ⟨rfl, rfl, rfl, rfl, rfl, by decide, by decide⟩
/-- Open of a slot's name -/
theorem Open_nm {b c : Nat} {g : Int} (ok : okP (8 * (b : Int)) g c) (w : World) (hT : HTab w) : Calls Tryd.prog 63 #[.int .i64 (nmV b g c)] w fun e w' => e = .returned (.tuple #[.int .i64 (8 * (b : Int)), .int .i64 g, .int .i64 c, .bool true]) ∧ Below w.heap.size w w' := H8.Open_ok ok w hT
theorem Open_0 (w : World) (hT : HTab w) : Calls Tryd.prog 63 #[.int .i64 0] w fun e w' => e = .returned (.tuple #[.int .i64 0, .int .i64 0, .int .i64 0, .bool false]) ∧ Below w.heap.size w w' := H8.Open_no no_zero w hT
end Go.Proofs.YtopnkfbcphbbiaaDoor.S1
