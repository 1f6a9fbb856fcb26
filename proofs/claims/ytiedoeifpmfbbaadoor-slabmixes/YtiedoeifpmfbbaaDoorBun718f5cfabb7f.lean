/-
  Helpers: Si, Sj, Sk, Sm.
-/
import Derived.Test.YtiedoeifpmfbbaaDoorBun727b03c7d345
namespace Go.Proofs.YtiedoeifpmfbbaaDoor
open Go.RowKit
open H8 (okP sizeF HTab below_then packV packF)
open A9 (Ab ArAt ArMem FrA Ar rawA setRawA swapRawA addRawA useA Left9 ptrA Ok9 okB bornS bornA diedA diedS)
open F0 (Pl5 Tn PuAt PoAt FrS noT plBox plS plS_of below_next Wk noT_new Pu Po)

theorem nilAl (a : Addr) (w : World) : (nilAhead 223 36 (.pointer (some a)) "Step").run Tryd.prog w = .ok (some false) w := by kernel_rfl
theorem mthAl (a : Addr) (w : World) : (method 223 36 (.pointer (some a)) "Step").run Tryd.prog w = .ok (61, .pointer (some a)) w := by kernel_rfl
theorem nilFe (a : Addr) (w : World) : (nilAhead 223 32 (.pointer (some a)) "Step").run Tryd.prog w = .ok (some false) w := by kernel_rfl
theorem mthFe (a : Addr) (w : World) : (method 223 32 (.pointer (some a)) "Step").run Tryd.prog w = .ok (54, .pointer (some a)) w := by kernel_rfl
abbrev ifAl (q : Nat) : Value := .iface 36 (.pointer (some ⟨q, 0, none⟩))
abbrev ifFe (q : Nat) : Value := .iface 32 (.pointer (some ⟨q, 0, none⟩))
/-- a step, as a letter -/
theorem Run.cases' {K M n : Nat} {s : Ar} {m : Mc} {sE : Ar} {o : Out} (h : Run K M n s m sE o) : (endB (stepF K M s m).2 = true ∧ n = 1 ∧ (stepF K M s m).1 = sE ∧ (stepF K M s m).2 = o) ∨ ∃ n' s' m', n = n' + 1 ∧ stepF K M s m = (s', .go m') ∧ Run K M n' s' m' sE o := by
  cases h with
  | last e hh =>
    left
    rw [e]
    cases o with
    | go m => exact hh.elim
    | freed => exact ⟨rfl, rfl, rfl, rfl⟩
    | refused => exact ⟨rfl, rfl, rfl, rfl⟩
    | got x => exact ⟨rfl, rfl, rfl, rfl⟩
  | more e hh => exact .inr ⟨_, _, _, rfl, e, hh⟩
theorem Run.pos {K M n : Nat} {s : Ar} {m : Mc} {sE : Ar} {o : Out} (h : Run K M n s m sE o) : 1 ≤ n := by cases h <;> omega
/-- all that holds at a round's head -/
structure RnA (B : Ab) (q : Nat) (W : World) (p : Pl5) (K M N x0 : Nat) (sE : Ar) (o : Out) (i : Nat) (w : World) (s : Ar) (m : Mc) (a : Al) (t : Tn) (n : Nat) : Prop where
  ar : ArAt B w s
  al : AlM B q w p a t
  R : AlR m a t
  I : Inv K M s m (N + i)
  run : Run K M n s m sE o
  le : i + n ≤ 300
  fr : FrS (S3 B q x0) W w
  nx : a.x = x0 ∨ W.heap.size ≤ a.x
def EndA (B : Ab) (q : Nat) (W : World) (p : Pl5) (x0 : Nat) (sE : Ar) (o : Out) (e : Ending) (w : World) : Prop :=
  e = .returned (.bool true) ∧ ArAt B w sE ∧ ∃ a t, AlM B q w p a t ∧ outR o a t ∧ FrS (S3 B q x0) W w ∧ (a.x = x0 ∨ W.heap.size ≤ a.x)
section
variable {B : Ab} {q : Nat} {w w' : World} {p : Pl5} {a : Al} {t t' : Tn} {s s' : Ar} {K M N : Nat}
theorem S3.far {W : World} {x0 x : Nat} {w1 w2 : World} (h1 : FrS (S3 B q x0) W w1) (h2 : FrS (S3 B q x) w1 w2) (hx : x = x0 ∨ W.heap.size ≤ x) : FrS (S3 B q x0) W w2 := by
  refine ⟨h2.os.trans h1.os, h2.tape.trans h1.tape, h2.output.trans h1.output, Nat.le_trans h1.size h2.size, fun k hk hn => (h2.block k (Nat.lt_of_lt_of_le hk h1.size) fun hh => ?_).trans (h1.block k hk hn)⟩
  rcases hh with hh | hh | hh
  · exact hn (.inl hh)
  · exact hn (.inr (.inl hh))
  · rcases hx with e | e
    · exact hn (.inr (.inr (hh.trans e)))
    · omega
theorem RnA.step {W : World} {x0 i n : Nat} {sE : Ar} {o : Out} {m : Mc} (h : RnA B q W p K M N x0 sE o i w s m a t n) (hp : PlS K M p) (hN : N ≤ 800000) :
    Calls Tryd.prog 61 #[.pointer (some ⟨q, 0, none⟩), ptrA B] w fun e w' => ∃ d s', e = .returned (.bool d) ∧ s'.uses = wrap64 (s.uses + 1) ∧ ArAt B w' s' ∧
      (d = true → EndA B q W p x0 sE o (.returned (.bool true)) w') ∧ (d = false → ∃ m' a' t' n', RnA B q W p K M N x0 sE o (i + 1) w' s' m' a' t' n') := by
  have hle := h.le
  refine (alStep h.ar h.al h.R hp h.I (by omega)).mono fun e w' hh => ?_
  obtain ⟨a', t', ⟨e1, e2, e3, e4, e5⟩, e6⟩ := hh
  have hu := (step_uses K M s m).1
  have hfr := S3.far h.fr e4 h.nx
  have hnx : a'.x = x0 ∨ W.heap.size ≤ a'.x := by
    rcases e5 with e5 | e5
    · rw [e5]; exact h.nx
    · exact .inr (Nat.le_trans h.fr.size e5)
  refine ⟨_, _, e1, hu, e2, fun hd => ?_, fun hd => ?_⟩
  · rcases h.run.cases' with ⟨-, -, r1, r2⟩ | ⟨n', s', m', -, r, -⟩
    · rw [r1] at e2
      rw [r2] at e6
      exact ⟨rfl, e2, a', t', e3, e6, hfr, hnx⟩
    · rw [r] at hd
      simp [endB] at hd
  · rcases h.run.cases' with ⟨r0, -, -, -⟩ | ⟨n', s', m', rfl, r, hr⟩
    · rw [r0] at hd
      cases hd
    · have hI := h.I.step h.ar.ok (by omega) r
      rw [r] at e2 e6
      rw [r]
      exact ⟨m', a', t', n', e2, e3, e6, hI, hr, by omega, hfr, hnx⟩
set_option maxHeartbeats 1000000 in
theorem runAl (hA : ArAt B w s) (hM : AlM B q w p a t) {m : Mc} (hR : AlR m a t) (hp : PlS K M p) (hI : Inv K M s m N) (hN : N ≤ 800000) {n : Nat} {sE : Ar} {o : Out} (hr : Run K M n s m sE o) (hn : n ≤ 300) :
    Calls Tryd.prog 11 #[ptrA B, ifAl q] w (EndA B q w p a.x sE o) := by
  have h0 : Hid (RnA B q w p K M N a.x sE o 0 w s m a t n) := ⟨hA, hM, hR, hI, hr, by omega, FrS.refl _ _, .inl rfl⟩
  have hn1 := nilAl ⟨q, 0, none⟩
  have hm1 := mthAl ⟨q, 0, none⟩
  generalize a.x = x0 at *
  clear hA hM hR hI hr hn
  go_enter Tryd.func11, Tryd.ntmps11
  go_wp2_with fail
  go_loopw [5] (fun iv wr => ∃ i : Nat, iv = .int .i64 i ∧ ∃ s m a t n, RnA B q w p K M N x0 sE o i wr s m a t n) (fun iv _ => 300 - (intOf iv).toNat)
  case atStart => exact ⟨0, rfl, _, _, _, _, _, h0.out⟩
  case round =>
    obtain ⟨i, rfl, s1, m1, a1, t1, n1, hR⟩ := hrel
    clear h0
    obtain ⟨wq, rfl⟩ : ∃ W, W = wr := ⟨wr, rfl⟩
    have hi3 : (i : Int) < 300 := by
      have h1 := hR.le
      have h2 := hR.run.pos
      omega
    have ku := A9.Uses_any hR.ar
    have ks := hR.step hp hN
    clear hR
    go_wp2_with fail
    refine ku.mono ?_
    rintro e w1 ⟨rfl, rfl⟩
    go_wp2_with fail
    refine ks.mono ?_
    rintro e w2 ⟨d, s2, rfl, hu, hA2, ht, hf⟩
    have ku2 := A9.Uses_any hA2
    have hdec : decide (wrap64 (s1.uses + 1) < s2.uses) = false := by simp [hu]
    clear hA2 hu ku ks
    generalize s1.uses = u1 at *
    generalize s2.uses = u2 at *
    go_wp2_with fail
    refine ku2.mono ?_
    rintro e w3 ⟨rfl, rfl⟩
    cases d with
    | true =>
      have HE : Hid (EndA B q w p x0 sE o (.returned (.bool true)) w3) := ht rfl
      clear ht hf
      go_wp2_with fail
      go_ret
      exact HE.out
    | false =>
      have HE : Hid (∃ m' a' t' n', RnA B q w p K M N x0 sE o (i + 1) w3 s2 m' a' t' n') := hf rfl
      clear ht hf
      go_wp2_with fail
      go_roundw
      case rel =>
        obtain ⟨m', a', t', n', h⟩ := HE.out
        exact ⟨i + 1, by go_num, _, m', a', t', n', h⟩
      case measure => simp [intOf]; omega
/-! ### a free -/
structure RnF (B : Ab) (q : Nat) (W : World) (p : Pl5) (K M N y0 : Nat) (b : Int) (sE : Ar) (o : Out) (i : Nat) (w : World) (s : Ar) (m : Mc) (f : Fe) (t : Tn) (n : Nat) : Prop where
  ar : ArAt B w s
  al : FeM B q w p f b t
  R : FeR m f b t
  I : Inv K M s m (N + i)
  run : Run K M n s m sE o
  le : i + n ≤ 300
  fr : FrS (S3 B q y0) W w
  nx : f.y = y0
def EndF (B : Ab) (q : Nat) (W : World) (y0 : Nat) (sE : Ar) (e : Ending) (w : World) : Prop :=
  e = .returned (.bool true) ∧ ArAt B w sE ∧ FrS (S3 B q y0) W w
theorem RnF.step {W : World} {y0 i n : Nat} {b : Int} {f : Fe} {sE : Ar} {o : Out} {m : Mc} (h : RnF B q W p K M N y0 b sE o i w s m f t n) (hp : PlS K M p) (hN : N ≤ 800000) :
    Calls Tryd.prog 54 #[.pointer (some ⟨q, 0, none⟩), ptrA B] w fun e w' => ∃ d s', e = .returned (.bool d) ∧ s'.uses = wrap64 (s.uses + 1) ∧ ArAt B w' s' ∧
      (d = true → EndF B q W y0 sE (.returned (.bool true)) w') ∧ (d = false → ∃ m' f' t' n', RnF B q W p K M N y0 b sE o (i + 1) w' s' m' f' t' n') := by
  have hle := h.le
  refine (feStep h.ar h.al h.R hp h.I).mono fun e w' hh => ?_
  obtain ⟨f', t', ⟨e1, e2, e3, e4⟩, e5, e6⟩ := hh
  have hu := (step_uses K M s m).1
  have hfr : FrS (S3 B q y0) W w' := S3.far h.fr (x := f'.y) e4 (.inl (e5.trans h.nx))
  refine ⟨_, _, e1, hu, e2, fun hd => ?_, fun hd => ?_⟩
  · rcases h.run.cases' with ⟨-, -, r1, r2⟩ | ⟨n', s', m', -, r, -⟩
    · rw [r1] at e2
      exact ⟨rfl, e2, hfr⟩
    · rw [r] at hd
      simp [endB] at hd
  · rcases h.run.cases' with ⟨r0, -, -, -⟩ | ⟨n', s', m', rfl, r, hr⟩
    · rw [r0] at hd
      cases hd
    · have hI := h.I.step h.ar.ok (by omega) r
      rw [r] at e2 e6
      rw [r]
      exact ⟨m', f', t', n', e2, e3, e6, hI, hr, by omega, hfr, e5.trans h.nx⟩
set_option maxHeartbeats 1000000 in
theorem runFe {f : Fe} {b : Int} (hA : ArAt B w s) (hM : FeM B q w p f b t) {m : Mc} (hR : FeR m f b t) (hp : PlS K M p) (hI : Inv K M s m N) (hN : N ≤ 800000) {n : Nat} {sE : Ar} {o : Out} (hr : Run K M n s m sE o) (hn : n ≤ 300) :
    Calls Tryd.prog 11 #[ptrA B, ifFe q] w (EndF B q w f.y sE) := by
  have h0 : Hid (RnF B q w p K M N f.y b sE o 0 w s m f t n) := ⟨hA, hM, hR, hI, hr, by omega, FrS.refl _ _, rfl⟩
  have hn1 := nilFe ⟨q, 0, none⟩
  have hm1 := mthFe ⟨q, 0, none⟩
  generalize f.y = x0 at *
  clear hA hM hR hI hr hn
  go_enter Tryd.func11, Tryd.ntmps11
  go_wp2_with fail
  go_loopw [5] (fun iv wr => ∃ i : Nat, iv = .int .i64 i ∧ ∃ s m f t n, RnF B q w p K M N x0 b sE o i wr s m f t n) (fun iv _ => 300 - (intOf iv).toNat)
  case atStart => exact ⟨0, rfl, _, _, _, _, _, h0.out⟩
  case round =>
    obtain ⟨i, rfl, s1, m1, a1, t1, n1, hR⟩ := hrel
    clear h0
    obtain ⟨wq, rfl⟩ : ∃ W, W = wr := ⟨wr, rfl⟩
    have hi3 : (i : Int) < 300 := by
      have h1 := hR.le
      have h2 := hR.run.pos
      omega
    have ku := A9.Uses_any hR.ar
    have ks := hR.step hp hN
    clear hR
    go_wp2_with fail
    refine ku.mono ?_
    rintro e w1 ⟨rfl, rfl⟩
    go_wp2_with fail
    refine ks.mono ?_
    rintro e w2 ⟨d, s2, rfl, hu, hA2, ht, hf⟩
    have ku2 := A9.Uses_any hA2
    have hdec : decide (wrap64 (s1.uses + 1) < s2.uses) = false := by simp [hu]
    clear hA2 hu ku ks
    generalize s1.uses = u1 at *
    generalize s2.uses = u2 at *
    go_wp2_with fail
    refine ku2.mono ?_
    rintro e w3 ⟨rfl, rfl⟩
    cases d with
    | true =>
      have HE : Hid (EndF B q w x0 sE (.returned (.bool true)) w3) := ht rfl
      clear ht hf
      go_wp2_with fail
      go_ret
      exact HE.out
    | false =>
      have HE : Hid (∃ m' f' t' n', RnF B q w p K M N x0 b sE o (i + 1) w3 s2 m' f' t' n') := hf rfl
      clear ht hf
      go_wp2_with fail
      go_roundw
      case rel =>
        obtain ⟨m', a', t', n', h⟩ := HE.out
        exact ⟨i + 1, by go_num, _, m', a', t', n', h⟩
      case measure => simp [intOf]; omega
end
end Go.Proofs.YtiedoeifpmfbbaaDoor
namespace Go.Proofs.YtiedoeifpmfbbaaDoor
open Go.RowKit
open H8 (okP sizeF HTab below_then packV packF isH)
open A9 (Ab ArAt ArMem FrA Ar rawA useA Ok9 okB bornS retireS retireA diedA diedS inS zN bN opB_pack isH_pack)
open F0 (Pu Po upH upH_same upH_other upLs upLs_same upLs_other upO upO_same upO_other RwL Ls)

structure On1 (K M : Nat) (s : Ar) (gn : Nat → Int) (cg : Nat) (cl : Nat → Option Nat) (ls : Nat → List Nat) (hs : List Int) (T : Nat) : Prop where
  ex : ∃ hd lk own mc, Sl K M 1 s hd lk gn cg cl ls own mc T ∧ own 0 = hs ∧ mc 0 = none
def outH : Out → Int
  | .got h => h
  | _ => 0
theorem Run.bad {K M n : Nat} {s : Ar} {m : Mc} {sE : Ar} {o : Out} (h : Run K M n s m sE o) : sE.bad = s.bad := by
  induction h with
  | @last s m s' o e h =>
    have := (step_uses K M s m).2
    rw [e] at this
    exact this
  | @more n s s' s2 m m' o e h ih =>
    have := (step_uses K M s m).2
    rw [e] at this
    exact ih.trans this
theorem Run.us {K M n : Nat} {s : Ar} {m : Mc} {sE : Ar} {o : Out} (h : Run K M n s m sE o) : sE.uses = wrap64 (s.uses + n) := by
  induction h with
  | @last s m s' o e h =>
    have := (step_uses K M s m).1
    rw [e] at this
    exact this
  | @more n s s' s2 m m' o e h ih =>
    have := (step_uses K M s m).1
    rw [e] at this
    simp only at this
    rw [ih, this, A9.wr64_add]
    congr 1
    omega
theorem step_was (K M : Nat) (s : Ar) (m : Mc) (p : Nat) : (stepF K M s m).1.was p = true ↔ s.was p = true ∨ ∃ h, (stepF K M s m).2 = .got h ∧ inS h p := by
  cases m with
  | free h i m =>
    unfold stepF
    dsimp only
    split
    · simp [useA]
    · split
      · simp [F0.linkS, useA]
      · split
        · simp [diedS, F0.headS, useA]
        · simp [useA]
  | pop c i n m =>
    unfold stepF
    dsimp only
    split
    · split <;> simp [useA]
    · split
      · simp [useA]
      · split
        · simp [F0.headS, useA]
        · simp [useA]
  | look c =>
    unfold stepF
    dsimp only
    split <;> simp [useA]
  | carve c v =>
    unfold stepF
    dsimp only
    split
    · simp [F0.headS, useA]
    · simp [useA]
  | gen c b =>
    unfold stepF
    dsimp only
    simp only [bornS, genS, useA]
    by_cases e : inS (nmV b (s.raw (K + M + b) + 1) c) p
    · simp [e]
    · simp [e]
theorem Run.was {K M n : Nat} {s : Ar} {m : Mc} {sE : Ar} {o : Out} (h : Run K M n s m sE o) (p : Nat) : sE.was p = true ↔ s.was p = true ∨ ∃ h, o = .got h ∧ inS h p := by
  induction h with
  | @last s m s' o e h =>
    have := step_was K M s m p
    rw [e] at this
    exact this
  | @more n s s' s2 m m' o e h ih =>
    have := step_was K M s m p
    rw [e] at this
    simp at this
    rw [ih, this]
/-- what one that was asked for ends with -/
inductive AskR (K M : Nat) (gn : Nat → Int) (cg : Nat) (cl : Nat → Option Nat) (ls : Nat → List Nat) (hs : List Int) (T c nw i n : Nat) : Ar → Out → Prop
  | old {s' : Ar} (j b : Nat) (r : List Nat) (hj : j ≤ n) (he : ∀ l, l < j → ls (itL K i l) = []) (hl : ls (itL K i j) = b :: r) (hb : cl b = some c) (ok : okP (8 * (b : Int)) (gn b + 1) c)
      (h : On1 K M s' (upH gn b (gn b + 1)) cg cl (upLs ls (itL K i j) r) (hs ++ [nmV b (gn b + 1) c]) (T + 2)) (hn : s'.nw = nw) : AskR K M gn cg cl ls hs T c nw i n s' (.got (nmV b (gn b + 1) c))
  | new {s' : Ar} (he : ∀ l, l ≤ n → ls (itL K i l) = []) (hf : 8 * cg + 8 * zg c ≤ nw) (ok : okP (8 * (cg : Int)) (gn cg + 1) c)
      (h : On1 K M s' (upH gn cg (gn cg + 1)) (cg + zg c) (upC cl cg c) ls (hs ++ [nmV cg (gn cg + 1) c]) (T + 2)) (hn : s'.nw = nw) : AskR K M gn cg cl ls hs T c nw i n s' (.got (nmV cg (gn cg + 1) c))
  | none {s' : Ar} (he : ∀ l, l ≤ n → ls (itL K i l) = []) (hf : ¬ 8 * cg + 8 * zg c ≤ nw)
      (h : On1 K M s' gn cg cl ls hs (T + 2)) (hn : s'.nw = nw) : AskR K M gn cg cl ls hs T c nw i n s' .refused
section
variable {K M T : Nat} {s : Ar} {gn : Nat → Int} {cg : Nat} {cl : Nat → Option Nat} {ls : Nat → List Nat} {hs : List Int}
theorem On1.wide (h : On1 K M s gn cg cl ls hs T) {T' : Nat} (hT : T ≤ T') : On1 K M s gn cg cl ls hs T' := by
  obtain ⟨hd, lk, own, mc, h1, h2, h3⟩ := h.ex
  exact ⟨hd, lk, own, mc, h1.wide hT, h2, h3⟩
theorem On1.used (h : On1 K M s gn cg cl ls hs T) (u : Int) : On1 K M (F0.usedA s u) gn cg cl ls hs T := by
  obtain ⟨hd, lk, own, mc, h1, h2, h3⟩ := h.ex
  exact ⟨hd, lk, own, mc, ⟨h1.I.same rfl rfl rfl rfl rfl, h1.N.same rfl rfl rfl rfl rfl⟩, h2, h3⟩
theorem On1.ask (h : On1 K M s gn cg cl ls hs T) (hO : Ok9 s) (hT : T ≤ 800000) {i c n : Nat} (hi : i < K) (hic : i % 4 = c) (hn : n ≤ 200) :
    ∃ a s' o, a ≤ 300 ∧ Run K M a s (.pop c i n ⟨0, 0, 0⟩) s' o ∧ Inv K M s (.pop c i n ⟨0, 0, 0⟩) T ∧ AskR K M gn cg cl ls hs T c s.nw i n s' o := by
  obtain ⟨hd, lk, own, mc, h1, h2, h3⟩ := h.ex
  have h4 := h1.ask (w := 0) (by omega) h3 (c := c) (i := i) (n := n) hi hic
  obtain ⟨a, s', o, ha, hr, hg⟩ := h4.runAsk n hO (by omega) (w := 0) (by omega) (c := c) (i := i) (m := ⟨0, 0, 0⟩) (upO_same _ _ _) rfl
  refine ⟨a, s', o, by omega, hr, ⟨1, hd, lk, gn, cg, cl, ls, own, _, T, 0, h4, by omega, upO_same _ _ _, Nat.le_refl _⟩, ?_⟩
  cases hg with
  | old j b r hj he hl hb ok h6 hn => exact .old j b r hj he hl hb ok ⟨_, _, _, _, h6, by rw [upO_same, h2], upO_same _ _ _⟩ hn
  | new he hf ok h6 hn => exact .new he hf ok ⟨_, _, _, _, h6, by rw [upO_same, h2], upO_same _ _ _⟩ hn
  | none he hf h6 hn => exact .none he hf ⟨_, _, _, _, h6, h2, upO_same _ _ _⟩ hn
theorem On1.give (h : On1 K M s gn cg cl ls hs T) (hT : T ≤ 800000) {l1 l2 : List Int} {a : Int} (ho : hs = l1 ++ a :: l2) {i : Nat} (hi : i < K) (hic : i % 4 = clN a) :
    s.st a = 1 ∧ Inv K M (retireS s a) (.free a i ⟨grN a, 0, 0⟩) T ∧ ∃ s', Run K M 3 (retireS s a) (.free a i ⟨grN a, 0, 0⟩) s' .freed ∧ s'.nw = s.nw ∧ s'.st a = 0 ∧ On1 K M s' gn cg cl (upLs ls i (grN a :: ls i)) (l1 ++ l2) (T + 1) := by
  obtain ⟨hd, lk, own, mc, h1, h2, h3⟩ := h.ex
  have h4 := h1.retire (by omega) (w := 0) (by omega) (h2.trans ho) h3 hi hic
  have hl := h1.I.live 0 (by omega) a (by rw [h2, ho]; simp)
  obtain ⟨s', hd', lk', e1, e2, hr, h5⟩ := h4.runFree (by omega) (w := 0) (by omega) (upO_same _ _ _) rfl
  refine ⟨hl, ⟨1, hd, lk, gn, cg, cl, ls, _, _, T, 0, h4, by omega, upO_same _ _ _, Nat.le_refl _⟩, s', hr, e1, e2, ⟨_, _, _, _, h5, upO_same _ _ _, upO_same _ _ _⟩⟩
/-- one that is this actor's -/
theorem On1.live (h : On1 K M s gn cg cl ls hs T) {a : Int} (ha : a ∈ hs) : s.st a = 1 := by
  obtain ⟨hd, lk, own, mc, h1, h2, h3⟩ := h.ex
  exact h1.I.live 0 (by omega) a (by rw [h2]; exact ha)
theorem On1.cv (h : On1 K M s gn cg cl ls hs T) : rawA s ((K + M + M : Nat) : Int) = (useA s, 8 * (cg : Int)) := by
  obtain ⟨hd, lk, own, mc, h1, h2, h3⟩ := h.ex
  exact rawA_cv h1.I.rw
theorem On1.lists (h : On1 K M s gn cg cl ls hs T) : ∃ hd lk, RwL K M s hd lk ∧ ∀ i, i < K → Ls M (hd i) lk (ls i) := by
  obtain ⟨hd, lk, own, mc, h1, h2, h3⟩ := h.ex
  exact ⟨hd, lk, h1.I.rw.toRwL, h1.I.L⟩
end
theorem On1.new {K M : Nat} (r n : Int) (hr : K + M + M + 1 ≤ (A9.new9 r n false).nr) (hb : K + M + M + 1 ≤ 65536) (hn : (A9.new9 r n false).nw ≤ 8 * M) (hM : M ≤ 8192) (hK : K % 4 = 0) : On1 K M (A9.new9 r n false) (fun _ => 0) 0 (fun _ => none) (fun _ => []) [] 0 :=
  ⟨_, _, _, _, ⟨SxI.new r n hr hb hn hM hK, SxC.new r n⟩, rfl, rfl⟩
/-- a name is none of 0 -/
theorem nm_ne {b c : Nat} {g : Int} (h : okP (8 * (b : Int)) g c) : nmV b g c ≠ 0 := by
  obtain ⟨h1, h2, h3, h4, h5, h6⟩ := h
  unfold nmV packV
  omega
theorem no_zero : ¬ isH 0 := by
  rintro ⟨a, b, c, ⟨h1, h2, h3, h4, h5, h6⟩, e⟩
  unfold packV at e
  omega
end Go.Proofs.YtiedoeifpmfbbaaDoor
namespace Go.Proofs.YtiedoeifpmfbbaaDoor
open Go.RowKit
open H8 (okP sizeF HTab below_then packV packF isH opA opB opC)
open A9 (Ab ArAt ArMem FrA Ar rawA useA ptrA Ok9 okB bornS retireS retireA diedA diedS inS zN bN opB_pack isH_pack isH_parts Left9 opA_bN opC_bd)
open F0 (Pl5 Tn PuAt PoAt FrS noT noT_new plBox plS plS_of below_next Wk headF headF_eq Pu Po upH upLs upO RwL Ls usedA)

/-- an alloc that begins, beside an arena -/
structure AlN (B : Ab) (W w : World) (s : Ar) (g : Nat) (p : Pl5) (w0 : World) (q : Nat) (k c nx : Int) : Prop where
  wk : Wk B W w s g p
  ex : ∃ x, AlM B q w p ⟨x, k, c, p.wk - 1, nx, 0, 0⟩ ⟨headF p k c, 0, 0, 0⟩ ∧ w0.heap.size ≤ x
  q0 : w0.heap.size ≤ q
  bel : Below w0.heap.size w0 w
structure FeN (B : Ab) (W w : World) (s : Ar) (g : Nat) (p : Pl5) (w0 : World) (q : Nat) (k h : Int) : Prop where
  wk : Wk B W w s g p
  ex : ∃ y, FeM B q w p ⟨y, h, false⟩ ((grN h : Int) + 1) ⟨headF p k (opC h), 0, 0, 0⟩ ∧ w0.heap.size ≤ y
  q0 : w0.heap.size ≤ q
  bel : Below w0.heap.size w0 w
def AlNew (B : Ab) (W : World) (s : Ar) (g : Nat) (p : Pl5) (w : World) (k c nx : Int) (e : Ending) (w' : World) : Prop := ∃ q, e = .returned (.pointer (some ⟨q, 0, none⟩)) ∧ AlN B W w' s g p w q k c nx
def FeNew (B : Ab) (W : World) (s : Ar) (g : Nat) (p : Pl5) (w : World) (k h : Int) (e : Ending) (w' : World) : Prop := ∃ q, e = .returned (.pointer (some ⟨q, 0, none⟩)) ∧ FeN B W w' s g p w q k h
/-- its end -/
def AlEnd (q : Nat) (w : World) (p : Pl5) (h : Int) : Prop := ∃ a, AlAt q w p a ∧ a.hn = h
section
variable {B : Ab} {W w w' w0 : World} {s s' : Ar} {g q : Nat} {p : Pl5} {K M T : Nat} {gn : Nat → Int} {cg : Nat} {cl : Nat → Option Nat} {ls : Nat → List Nat} {hs : List Int}
theorem frA_of {x : Nat} (hb : Below w0.heap.size w0 w) (hF : FrS (S3 B q x) w w') (hq : w0.heap.size ≤ q) (hx : w0.heap.size ≤ x) : FrA B w0 w' :=
  ⟨hF.os.trans hb.os, hF.tape.trans hb.tape, hF.output.trans hb.output, Nat.le_trans hb.size hF.size, fun k hk hn => (hF.block k (Nat.lt_of_lt_of_le hk hb.size) (fun hh => by
    rcases hh with hh | hh | hh
    · exact hn hh
    · omega
    · omega)).trans (hb.block k hk)⟩
theorem newAlW (hW : Wk B W w s g p) {k c : Int} (h1 : 1 ≤ p.wk) (h2 : p.wk ≤ 1000000) (hc : sizeF c ≠ 0) : Calls Tryd.prog 15 #[p.v, .int .i64 k, .int .i64 c] w (AlNew B W s g p w k c 0) := by
  refine (NewAl_ok p k c h1 h2 hc w hW.ar.tab).mono fun e w' hh => ?_
  obtain ⟨q, x, e1, e2, e3, e4, e5, e6, e7⟩ := hh
  have hl := fun k (hk : B.has k) => hW.ar.lt hk
  exact ⟨q, e1, ⟨hW.below e4, ⟨x, ⟨e2, e3, fun hb => by have := hl _ hb; omega, fun hb => by have := hl _ hb; simp only at this; omega, noT_new hW.ar.tab e5, noT_new hW.ar.tab e6⟩, e6⟩, e5, e4⟩⟩
theorem newAlW4 (hW : Wk B W w s g p) {k c : Int} (h1 : 1 ≤ p.wk) (h2 : p.wk ≤ 1000000) (hc : sizeF c = 0) : Calls Tryd.prog 15 #[p.v, .int .i64 k, .int .i64 c] w (AlNew B W s g p w k c 4) := by
  refine (NewAl_no p k c h1 h2 hc w hW.ar.tab).mono fun e w' hh => ?_
  obtain ⟨q, x, e1, e2, e3, e4, e5, e6, e7⟩ := hh
  have hl := fun k (hk : B.has k) => hW.ar.lt hk
  exact ⟨q, e1, ⟨hW.below e4, ⟨x, ⟨e2, e3, fun hb => by have := hl _ hb; omega, fun hb => by have := hl _ hb; simp only at this; omega, noT_new hW.ar.tab e5, noT_new hW.ar.tab e6⟩, e6⟩, e5, e4⟩⟩
/-- what the run of one leaves -/
structure RunP (B : Ab) (W w : World) (s : Ar) (g : Nat) (p : Pl5) (K M : Nat) (gn : Nat → Int) (cg : Nat) (cl : Nat → Option Nat) (ls : Nat → List Nat) (hs : List Int) (T : Nat) (q k c : Nat) (w' : World) (s' : Ar) (o : Out) : Prop where
  wk : Wk B W w' s' g p
  fr : FrA B w w'
  R : AskR K M gn cg cl ls hs T c s.nw (4 * k + c) (K / 4 - 1) s' o
  bad : s'.bad = s.bad
  was : ∀ x, s'.was x = true ↔ s.was x = true ∨ ∃ h, o = .got h ∧ inS h x
  us : ∃ n : Nat, n ≤ 300 ∧ s'.uses = wrap64 (s.uses + n)
  en : AlEnd q w' p (outH o)
theorem runAlW {k c : Nat} (hN : AlN B W w s g p w0 q (k : Int) (c : Int) 0) (hW0 : Wk B W w0 s g p) (hp : PlS K M p) (hO : On1 K M s gn cg cl ls hs T) (hT : T ≤ 800000) (hk : 4 * k + c < K) (hc : c < 4) :
    Calls Tryd.prog 11 #[ptrA B, ifAl q] w fun e w' => e = .returned (.bool true) ∧ ∃ s' o, RunP B W w0 s g p K M gn cg cl ls hs T q k c w' s' o := by
  obtain ⟨x, hM, hx⟩ := hN.ex
  have hwk := hp.wk
  have h4 := hp.four
  have hms := hp.most
  have hK4 : K % 4 = 0 := by omega
  obtain ⟨a, s', o, ha, hr, hI, hR⟩ := hO.ask hN.wk.ar.ok hT (i := 4 * k + c) (c := c) (n := K / 4 - 1) hk (by omega) (by omega)
  have hal : AlR (.pop c (4 * k + c) (K / 4 - 1) ⟨0, 0, 0⟩) ⟨x, k, c, p.wk - 1, 0, 0, 0⟩ ⟨headF p k c, 0, 0, 0⟩ := by
    refine ⟨rfl, rfl, rfl, ?_, ?_, ⟨?_, rfl, fun h => by simp at h, fun h => by simp at h⟩, by omega⟩
    · show p.wk - 1 = ((K / 4 - 1 : Nat) : Int)
      omega
    · show (k : Int) = (((4 * k + c) / 4 : Nat) : Int)
      omega
    · show headF p k c = ((4 * k + c : Nat) : Int)
      rw [headF_eq hp.k (by omega) (by omega) (by omega) (by omega)]
      omega
  refine (runAl hN.wk.ar hM hal hp hI hT hr ha).mono fun e w' hh => ?_
  obtain ⟨e1, hA, a', t', hM', ho, hF, hx'⟩ := hh
  have hfr := frA_of hN.bel hF hN.q0 hx
  refine ⟨e1, s', o, hW0.arena hA hfr, hfr, hR, hr.bad, hr.was, ⟨a, ha, hr.us⟩, a', hM'.al, ?_⟩
  cases hR with
  | old j b r hj he hl hb ok h6 hn => exact ho.2
  | new he hf ok h6 hn => exact ho.2
  | none he hf h6 hn => exact ho.2
/-- .. of a class that is none -/
theorem runAl4 (hA : ArAt B w s) {a : Al} {t : Tn} (hM : AlM B q w p a t) (h4 : a.nx = 4) (hu : wrap64 (s.uses + 1) = s.uses + 1) :
    Calls Tryd.prog 11 #[ptrA B, ifAl q] w fun e w' => e = .returned (.bool true) ∧ ArAt B w' s ∧ AlM B q w' p a t ∧ FrS (S3 B q a.x) w w' := by
  have ku := fun wx (hx : ArAt B wx s) => A9.Uses_any hx
  have k0 := ku _ hA
  have ks := aStep4 hA hM h4
  have hn1 := nilAl ⟨q, 0, none⟩
  have hm1 := mthAl ⟨q, 0, none⟩
  have hd : decide (s.uses + 1 < s.uses) = false := by simp; omega
  have hw : IntKind.i64.wrap (s.uses + 1) = s.uses + 1 := by rw [IntKind.wrap_i64]; unfold wrap64 at hu; omega
  have h00 : (0 : Int) < 300 := by decide
  clear hA hM h4
  generalize s.uses = u at *
  go_enter Tryd.func11, Tryd.ntmps11
  go_wp2_with fail
  refine wp_loop_rounds 1 ?_
  rw [rounds_succ]
  go_wp2_with fail
  refine k0.mono ?_
  rintro e w1 ⟨rfl, rfl⟩
  go_wp2_with fail
  refine ks.mono ?_
  rintro e w2 ⟨rfl, h1, h2, h3, -⟩
  have k2 := ku _ h1
  have HE : Hid (ArAt B w2 s ∧ AlM B q w2 p a t ∧ FrS (S3 B q a.x) w1 w2) := ⟨h1, h2, h3⟩
  clear h1 h2 h3 ku ks k0
  go_wp2_with fail
  refine k2.mono ?_
  rintro e w3 ⟨rfl, rfl⟩
  go_wp2_with fail
  go_ret
  exact ⟨rfl, HE.out⟩
theorem runAlW4 {k c : Int} (hN : AlN B W w s g p w0 q k c 4) (hW0 : Wk B W w0 s g p) (hu : wrap64 (s.uses + 1) = s.uses + 1) :
    Calls Tryd.prog 11 #[ptrA B, ifAl q] w fun e w' => e = .returned (.bool true) ∧ Wk B W w' s g p ∧ FrA B w0 w' ∧ AlEnd q w' p 0 := by
  obtain ⟨x, hM, hx⟩ := hN.ex
  refine (runAl4 hN.wk.ar hM rfl hu).mono fun e w' hh => ?_
  obtain ⟨e1, hA, hM', hF⟩ := hh
  have hfr := frA_of hN.bel hF hN.q0 hx
  exact ⟨e1, hW0.arena hA hfr, hfr, _, hM'.al, rfl⟩
theorem handleW {h : Int} (hE : AlEnd q w p h) : Calls Tryd.prog 16 #[.pointer (some ⟨q, 0, none⟩)] w fun e w' => e = .returned (.tuple #[.int .i64 h, .bool (h != 0)]) ∧ Below w.heap.size w w' := by
  obtain ⟨a, ha, rfl⟩ := hE
  exact Handle_any ha
/-- a slot that this actor has goes back -/
theorem On1.name (hO : On1 K M s gn cg cl ls hs T) (hOk : Ok9 s) {a : Int} (ha : a ∈ hs) : isH a ∧ bN a = 8 * grN a ∧ clN a < 4 ∧ grN a < 8192 := by
  have h1 := hO.live ha
  obtain ⟨hd, lk, own, mc, h2, h3, h4⟩ := hO.ex
  obtain ⟨⟨x1, x2⟩, -⟩ := h2.I.seen a (by rw [h1]; decide)
  obtain ⟨f1, f2, f3⟩ := hOk.fit a (by rw [h1]; decide)
  have := h2.I.Mlt x2
  have := h2.I.M8
  exact ⟨f1, x1, clN_lt a, by omega⟩
theorem newFeW (hW : Wk B W w s g p) {k a : Int} (hh : isH a) (hb : bN a = 8 * grN a) : Calls Tryd.prog 12 #[p.v, .int .i64 k, .int .i64 a] w (FeNew B W s g p w k a) := by
  obtain ⟨ho, he⟩ := isH_parts hh
  have h := NewFe_ok p k (opA a) (opB a) (opC a) ho w hW.ar.tab
  rw [← he] at h
  refine h.mono fun e w' hh => ?_
  obtain ⟨q, y, e1, e2, e3, e4, e5, e6, e7⟩ := hh
  have hl := fun k (hk : B.has k) => hW.ar.lt hk
  have hm : opA a / 8 + 1 = (grN a : Int) + 1 := by rw [opA_bN, hb]; omega
  rw [hm] at e3
  exact ⟨q, e1, ⟨hW.below e4, ⟨y, ⟨e2, e3, fun hb => by have := hl _ hb; omega, fun hb => by have := hl _ hb; simp only at this; omega, noT_new hW.ar.tab e5, noT_new hW.ar.tab e6⟩, e6⟩, e5, e4⟩⟩
structure GiveP (B : Ab) (W w : World) (s : Ar) (g : Nat) (p : Pl5) (K M : Nat) (gn : Nat → Int) (cg : Nat) (cl : Nat → Option Nat) (ls : Nat → List Nat) (hs : List Int) (T : Nat) (a : Int) (w' : World) (s' : Ar) : Prop where
  wk : Wk B W w' s' g p
  fr : FrA B w w'
  on : On1 K M s' gn cg cl ls hs T
  bad : s'.bad = s.bad
  nw : s'.nw = s.nw
  dead : s'.st a = 0
  us : ∃ n : Nat, n ≤ 300 ∧ s'.uses = wrap64 (s.uses + n)
theorem runFeW {k : Nat} {l1 l2 : List Int} {a : Int} (hN : FeN B W w (retireS s a) g p w0 q (k : Int) a) (hW0 : Wk B W w0 (retireS s a) g p) (hp : PlS K M p) (hO : On1 K M s gn cg cl ls hs T) (hT : T ≤ 800000) (ho : hs = l1 ++ a :: l2) (hk : 4 * k + clN a < K) :
    Calls Tryd.prog 11 #[ptrA B, ifFe q] w fun e w' => e = .returned (.bool true) ∧ ∃ s', GiveP B W w0 s g p K M gn cg cl (upLs ls (4 * k + clN a) (grN a :: ls (4 * k + clN a))) (l1 ++ l2) (T + 1) a w' s' := by
  obtain ⟨y, hM, hy⟩ := hN.ex
  have hms := hp.most
  have hc4 := clN_lt a
  obtain ⟨h1, hI, s', hr, e1, e2, hO2⟩ := hO.give hT ho (i := 4 * k + clN a) hk (by omega)
  have hcl : opC a = (clN a : Int) := by have := opC_bd a; unfold clN; omega
  have hfe : FeR (.free a (4 * k + clN a) ⟨grN a, 0, 0⟩) ⟨y, a, false⟩ ((grN a : Int) + 1) ⟨headF p k (opC a), 0, 0, 0⟩ := by
    refine ⟨rfl, rfl, rfl, ?_, rfl, fun h => by simp at h, fun h => by simp at h⟩
    show headF p k (opC a) = ((4 * k + clN a : Nat) : Int)
    rw [hcl, headF_eq hp.k (by omega) (by omega) (by omega) (by omega)]
    omega
  refine (runFe hN.wk.ar hM hfe hp hI hT hr (by omega)).mono fun e w' hh => ?_
  obtain ⟨x1, x2, x3⟩ := hh
  have hfr := frA_of hN.bel x3 hN.q0 hy
  exact ⟨x1, s', hW0.arena x2 hfr, hfr, hO2, hr.bad, e1, e2, 3, by omega, hr.us⟩
end
end Go.Proofs.YtiedoeifpmfbbaaDoor
namespace Go.Proofs.YtiedoeifpmfbbaaDoor
open Go.RowKit
open H8 (okP sizeF HTab below_then packV packF isH opA opB opC)
open A9 (Ab ArAt ArMem FrA Ar rawA useA ptrA Ok9 okB bornS retireS retireA diedA diedS inS zN bN Left9 New9 new9)
open F0 (Pl5 FrS noT noT_new plBox plS plS_of below_next Wk Raw_at tab_new)

def awP : Pl5 := ⟨1, 0, 4, 12, 20⟩
theorem aw_pls : PlS 4 8 awP := ⟨rfl, rfl, rfl, rfl, rfl, by decide, by decide⟩
/-- Open of a slot's name -/
theorem Open_nm {b c : Nat} {g : Int} (ok : okP (8 * (b : Int)) g c) (w : World) (hT : HTab w) : Calls Tryd.prog 17 #[.int .i64 (nmV b g c)] w fun e w' => e = .returned (.tuple #[.int .i64 (8 * (b : Int)), .int .i64 g, .int .i64 c, .bool true]) ∧ Below w.heap.size w w' := H8.Open_ok ok w hT
theorem Open_0 (w : World) (hT : HTab w) : Calls Tryd.prog 17 #[.int .i64 0] w fun e w' => e = .returned (.tuple #[.int .i64 0, .int .i64 0, .int .i64 0, .bool false]) ∧ Below w.heap.size w w' := H8.Open_no no_zero w hT
set_option maxHeartbeats 4000000 in
theorem awake_any (w : World) (hT : HTab w) : Calls Tryd.prog 21 #[] w fun e w' => e = .returned (.bool true) ∧ Below w.heap.size w w' := by
  have kR := fun wx => Raw_at (a := 1) (n := 64) awP 21 rfl rfl (by omega) (by omega) wx
  have kN := fun wx (hx : HTab wx) => A9.New_any 21 64 false wx hx
  have h0 : Hid (On1 4 8 (new9 21 64 false) (fun _ => 0) 0 (fun _ => none) (fun _ => []) [] 0) := On1.new (K := 4) (M := 8) 21 64 (by decide) (by decide) (by decide) (by decide) (by decide)
  have h0n : Hid ((new9 21 64 false).nw = 64) := rfl
  have HT : Hid (HTab w) := hT
  generalize new9 21 64 false = s0 at *
  clear hT
  unfold Pl5.v awP at kR
  go_enter Tryd.func21, Tryd.ntmps21
  go_wp2_with fail
  refine (kR _).mono ?_
  rintro e w1 ⟨rfl, hb1⟩
  go_wp2_with fail
  refine (kN _ (tab_new HT.out hb1)).mono ?_
  rintro e w2 ⟨B, rfl, hA2, hb2, hlB⟩
  have hW2 : Wk B w w2 s0 w1.heap.size awP := Wk.begin hb1 hA2 hb2 hlB
  clear hA2 hb2 hlB hb1 kR kN
  generalize w1.heap.size = g at *
  have kA := newAlW (k := 0) (c := 0) hW2 (by decide) (by decide) (by decide)
  have HW2 : Hid (Wk B w w2 s0 g awP) := hW2
  have q2 : plS g awP w2 := hW2.pl
  obtain ⟨c0, c1, c2, c3, c4⟩ := q2
  unfold Pl5.v awP at kA
  simp only [awP] at c0 c1 c2 c3 c4
  clear hW2
  go_wp2_with fail
  refine kA.mono ?_
  rintro e w3 ⟨q, rfl, hN3⟩
  have kX := runAlW (k := 0) (c := 0) hN3 HW2.out aw_pls h0.out (by omega) (by omega) (by omega)
  clear kA c0 c1 c2 c3 c4 hN3
  go_wp2_with fail
  refine kX.mono ?_
  rintro e w4 ⟨rfl, s4, o4, hP⟩
  have HP : Hid (∃ h, outH o4 = h ∧ h ≠ 0 ∧ s4.st h = 1 ∧ (∀ wx (_ : HTab wx), Calls Tryd.prog 17 #[.int .i64 h] wx fun e w' => e = .returned (.tuple #[.int .i64 0, .int .i64 1, .int .i64 0, .bool true]) ∧ Below wx.heap.size wx w') ∧ rawA s4 20 = (useA s4, 8)) := by
    have hR := hP.R
    cases hR with
    | old j b r hj he hl hb ok h6 hn => cases hl
    | new he hf ok h6 hn =>
      refine ⟨nmV 0 1 0, rfl, nm_ne ok, h6.live (by simp), fun wx hx => ?_, h6.cv⟩
      exact Open_nm ok wx hx
    | none he hf h6 hn =>
      rw [h0n.out] at hf
      exact absurd (by decide) hf
  obtain ⟨h, ho, hne, hst, kO, hcv⟩ := HP.out
  have hen := hP.en
  rw [ho] at hen
  have kH := handleW hen
  have hnb : (h != 0) = true := by simpa using hne
  rw [hnb] at kH
  have HW4 : Hid (Wk B w w4 s4 g awP) := hP.wk
  have HS : Hid (s4.st h = 1 ∧ rawA s4 20 = (useA s4, 8)) := ⟨hst, hcv⟩
  clear hP HP ho hen hnb hne hst hcv kX
  go_wp2_with fail
  refine kH.mono ?_
  rintro e w5 ⟨rfl, hb5⟩
  have hW5 := HW4.out.below hb5
  have kO5 := kO _ hW5.ar.tab
  have HW5 : Hid (Wk B w w5 s4 g awP) := hW5
  clear hb5 hW5 kO kH
  go_wp2_with fail
  refine kO5.mono ?_
  rintro e w6 ⟨rfl, hb6⟩
  have hW6 := HW5.out.below hb6
  have kS := A9.State_any hW6.ar h
  rw [HS.out.1] at kS
  have kC := A9.Raw_any hW6.ar 20
  rw [HS.out.2] at kC
  have c4 := hW6.pl.2.2.2.2
  simp only [awP] at c4
  have HW6 : Hid (Wk B w w6 s4 g awP) := hW6
  clear hb6 hW6 kO5
  go_wp2_with fail
  refine kS.mono ?_
  rintro e w7 ⟨rfl, rfl⟩
  go_wp2_with fail
  refine kC.mono ?_
  rintro e w8 ⟨rfl, hA8, hF8⟩
  have HE : Hid (Below w.heap.size w w8) := (HW6.out.arena hA8 hF8).low
  clear hA8 hF8 kC kS c4
  go_wp2_with fail
  go_ret
  exact ⟨rfl, HE.out⟩
end Go.Proofs.YtiedoeifpmfbbaaDoor
