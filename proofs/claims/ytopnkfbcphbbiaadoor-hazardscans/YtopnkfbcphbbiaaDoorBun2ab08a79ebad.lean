/-
  Helpers: S1Sr, Za, F0FrL.
-/
import Derived.Test.YtopnkfbcphbbiaaDoorBun4b08913fcc17
import Derived.Test.YtopnkfbcphbbiaaDoorBun7c921592253b
import Derived.Test.YtopnkfbcphbbiaaDoorBun7ff973b94fcb
namespace Go.Proofs.YtopnkfbcphbbiaaDoor.S1
open Go.RowKit
open H8 (okP sizeF)
open A9 (Ar useA Ok9 okB bornS retireS diedS bN zN inS zN_bd)
open F0 (upH upL upLs upO upO_same upO_other headS linkS Ls Pu Po PuOk PoOk Old tagF codF mkF tag_mk cod_mk cod_bd trnF trnF_eq sumN)

def Out.ends : Out → Prop
  | .go _ => False
  | _ => True
/-- n steps to the end -/
inductive Run (K M : Nat) : Nat → Ar → Mc → Ar → Out → Prop
  | last {s : Ar} {m : Mc} {s' : Ar} {o : Out} (e : stepF K M s m = (s', o)) (h : o.ends) : Run K M 1 s m s' o
  | more {n : Nat} {s s' s2 : Ar} {m m' : Mc} {o : Out} (e : stepF K M s m = (s', .go m')) (h : Run K M n s' m' s2 o) : Run K M (n + 1) s m s2 o
theorem Ok9.step {K M : Nat} {s : Ar} {m : Mc} (hO : Ok9 s) (h : ∀ a i n, m = .free a i n → s.st a ≠ 0) (hb : ∀ c b, m = .gen c b → okB (genS K M s b (s.raw (K + M + b) + 1)) (nmV b (s.raw (K + M + b) + 1) c)) : Ok9 (stepF K M s m).1 := by
  have hu : ∀ s' : Ar, s'.st = s.st → s'.nw = s.nw → s'.tak = s.tak → s'.gen = s.gen → s'.nr = s.nr → s'.cC = s.cC → Ok9 s' := fun s' e1 e2 e3 e4 e5 e6 => hO.same e1 e2 e3 e4 e5 e6
  cases m with
  | free a i n =>
    unfold stepF
    dsimp only
    split
    · exact hu _ rfl rfl rfl rfl rfl rfl
    · split
      · exact hu _ rfl rfl rfl rfl rfl rfl
      · split
        · exact (hu (headS s i (trnF n.h ((n.b : Int) + 1))) rfl rfl rfl rfl rfl rfl).died (h a i n rfl)
        · exact hu _ rfl rfl rfl rfl rfl rfl
  | gen c b => exact (hu (genS K M s b (s.raw (K + M + b) + 1)) rfl rfl rfl rfl rfl rfl).born (hb c b rfl)
  | pop c i n m => unfold stepF; dsimp only; (repeat' split) <;> exact hu _ rfl rfl rfl rfl rfl rfl
  | look c => unfold stepF; dsimp only; split <;> exact hu _ rfl rfl rfl rfl rfl rfl
  | carve c v => unfold stepF; dsimp only; split <;> exact hu _ rfl rfl rfl rfl rfl rfl
def itL (K i : Nat) : Nat → Nat
  | 0 => i
  | j + 1 => itL K ((i + 4) % K) j
theorem itL_ok {K c : Nat} (hK : K % 4 = 0) : ∀ (j i : Nat), i < K → i % 4 = c → itL K i j < K ∧ itL K i j % 4 = c
  | 0, _, hi, hc => ⟨hi, hc⟩
  | j + 1, i, hi, hc => itL_ok hK j _ (Nat.mod_lt _ (by omega)) (by
    obtain ⟨q, rfl⟩ : ∃ q, K = 4 * q := ⟨K / 4, by omega⟩
    rw [Nat.mod_mul_right_mod]
    omega)
section
variable {K M k T w : Nat} {s : Ar} {hd lk gn : Nat → Int} {cg : Nat} {cl : Nat → Option Nat} {ls : Nat → List Nat} {own : Nat → List Int} {mc : Nat → Option Mc}
theorem upO_upO {α : Type} (f : Nat → α) (w : Nat) (a b : α) : upO (upO f w a) w b = upO f w b := by
  funext j
  unfold upO
  split <;> rfl
/-- what one that was asked for ends with -/
inductive GotR (K M k : Nat) (hd lk gn : Nat → Int) (cg : Nat) (cl : Nat → Option Nat) (ls : Nat → List Nat) (own : Nat → List Int) (mc : Nat → Option Mc) (T w c nw i n : Nat) : Ar → Out → Prop
  | old {s' : Ar} {hd' : Nat → Int} (j b : Nat) (r : List Nat) (hj : j ≤ n) (he : ∀ l, l < j → ls (itL K i l) = []) (hl : ls (itL K i j) = b :: r) (hb : cl b = some c) (ok : okP (8 * (b : Int)) (gn b + 1) c)
      (h : Sl K M k s' hd' lk (upH gn b (gn b + 1)) cg cl (upLs ls (itL K i j) r) (upO own w (own w ++ [nmV b (gn b + 1) c])) (upO mc w none) (T + 2)) (hn : s'.nw = nw) : GotR K M k hd lk gn cg cl ls own mc T w c nw i n s' (.got (nmV b (gn b + 1) c))
  | new {s' : Ar} (he : ∀ l, l ≤ n → ls (itL K i l) = []) (hf : 8 * cg + 8 * zg c ≤ nw) (ok : okP (8 * (cg : Int)) (gn cg + 1) c)
      (h : Sl K M k s' hd lk (upH gn cg (gn cg + 1)) (cg + zg c) (upC cl cg c) ls (upO own w (own w ++ [nmV cg (gn cg + 1) c])) (upO mc w none) (T + 2)) (hn : s'.nw = nw) : GotR K M k hd lk gn cg cl ls own mc T w c nw i n s' (.got (nmV cg (gn cg + 1) c))
  | none {s' : Ar} (he : ∀ l, l ≤ n → ls (itL K i l) = []) (hf : ¬ 8 * cg + 8 * zg c ≤ nw)
      (h : Sl K M k s' hd lk gn cg cl ls own (upO mc w Option.none) (T + 2)) (hn : s'.nw = nw) : GotR K M k hd lk gn cg cl ls own mc T w c nw i n s' .refused
theorem Sl.runGen (h : Sl K M k s hd lk gn cg cl ls own mc T) (hO : Ok9 s) (hT : T ≤ 1000000) (hw : w < k) {c b : Nat} (hm : mc w = some (.gen c b)) :
    Run K M 1 s (.gen c b) (bornS (genS K M s b (gn b + 1)) (nmV b (gn b + 1) c)) (.got (nmV b (gn b + 1) c)) ∧ cl b = some c ∧ okP (8 * (b : Int)) (gn b + 1) c ∧ Sl K M k (bornS (genS K M s b (gn b + 1)) (nmV b (gn b + 1) c)) hd lk (upH gn b (gn b + 1)) cg cl ls (upO own w (own w ++ [nmV b (gn b + 1) c])) (upO mc w none) (T + 1) := by
  obtain ⟨-, ho, hb, h6⟩ := h.gen hO hT hw hm
  refine ⟨.last ?_ trivial, h.I.P w hw _ hm, ho, h6⟩
  unfold stepF
  simp only [h.I.rw.gns b hb]
theorem Sl.runLook (h : Sl K M k s hd lk gn cg cl ls own mc T) (hO : Ok9 s) (hT : T ≤ 1000000) (hw : w < k) {c : Nat} (hm : mc w = some (.look c)) :
    (¬ 8 * cg + 8 * zg c ≤ s.nw ∧ Run K M 1 s (.look c) (useA s) .refused ∧ Sl K M k (useA s) hd lk gn cg cl ls own (upO mc w none) T) ∨
    (8 * cg + 8 * zg c ≤ s.nw ∧ ∃ s', s'.nw = s.nw ∧ Run K M 3 s (.look c) s' (.got (nmV cg (gn cg + 1) c)) ∧ okP (8 * (cg : Int)) (gn cg + 1) c ∧ Sl K M k s' hd lk (upH gn cg (gn cg + 1)) (cg + zg c) (upC cl cg c) ls (upO own w (own w ++ [nmV cg (gn cg + 1) c])) (upO mc w none) (T + 1)) := by
  by_cases hf : 8 * cg + 8 * zg c ≤ s.nw
  · have hfi : 8 * (cg : Int) + 8 * (zg c : Int) ≤ s.nw := by omega
    have h1 := h.look0 hw hm hfi
    have h2 := h1.carve1 hw (c := c) (v := 8 * (cg : Int)) (upO_same _ _ _) rfl
    rw [upO_upO] at h2
    have hO2 : Ok9 (headS (useA s) (K + M + M) (8 * ((cg + zg c : Nat) : Int))) := hO.same rfl rfl rfl rfl rfl rfl
    obtain ⟨r, -, ho, h3⟩ := h2.runGen hO2 hT hw (c := c) (b := cg) (upO_same _ _ _)
    rw [upO_upO] at h3
    refine .inr ⟨hf, _, ?_, .more (s' := useA s) (m' := .carve c (8 * (cg : Int))) ?_ (.more (m' := .gen c cg) ?_ r), ho, h3⟩
    · rfl
    · unfold stepF
      simp only [h.I.rw.cvr]
      rw [if_pos hfi]
    · unfold stepF
      simp only [h1.I.rw.cvr]
      rw [if_pos trivial, show (8 * (cg : Int) / 8).toNat = cg by omega, show 8 * (cg : Int) + 8 * (zg c : Int) = 8 * ((cg + zg c : Nat) : Int) by omega]
  · refine .inl ⟨hf, .last ?_ trivial, h.look1 hw hm⟩
    unfold stepF
    simp only [h.I.rw.cvr]
    rw [if_neg (by omega)]
theorem Sl.runPop (h : Sl K M k s hd lk gn cg cl ls own mc T) (hO : Ok9 s) (hT : T ≤ 900000) (hw : w < k) {c i n : Nat} {m : Po} (hm : mc w = some (.pop c i n m)) (hp : m.ph = 0) {b : Nat} {r : List Nat} (hl : ls i = b :: r) :
    ∃ s' hd', s'.nw = s.nw ∧ Run K M 4 s (.pop c i n m) s' (.got (nmV b (gn b + 1) c)) ∧ cl b = some c ∧ okP (8 * (b : Int)) (gn b + 1) c ∧ Sl K M k s' hd' lk (upH gn b (gn b + 1)) cg cl (upLs ls i r) (upO own w (own w ++ [nmV b (gn b + 1) c])) (upO mc w none) (T + 2) := by
  obtain ⟨hi, h2, h5⟩ := h.I.P w hw _ hm
  have hL := h.I.L i hi
  have hM := h.I.M8
  have hcd : codF (hd i) = (b : Int) + 1 := by rw [hL.head, hl]; rfl
  have hb : b < M := hL.lt b (by rw [hl]; simp)
  have h1 := h.pop0 hw hm (by omega)
  obtain ⟨-, h3⟩ := h1.pop1 hw (c := c) (i := i) (n := n) (m := ⟨1, hd i, 0⟩) (upO_same _ _ _) rfl
  rw [upO_upO] at h3
  obtain ⟨b', r', e1, e2, h4⟩ := h3.pop2 hw (c := c) (i := i) (n := n) (m := ⟨2, hd i, lk (codF (hd i) - 1).toNat⟩) (upO_same _ _ _) rfl rfl
  rw [upO_upO] at h4
  rw [hl] at e1
  cases e1
  have hO2 : Ok9 (headS (useA (useA s)) i (mkF (tagF (hd i) + 1) (lk (codF (hd i) - 1).toNat))) := hO.same rfl rfl rfl rfl rfl rfl
  obtain ⟨r, hcl, ho, h6⟩ := h4.runGen hO2 (by omega) hw (c := c) (b := b) (upO_same _ _ _)
  rw [upO_upO] at h6
  have hlb := hL.lb b hb
  refine ⟨_, _, ?_, .more (s' := useA s) (m' := .pop c i n ⟨1, hd i, 0⟩) ?_ (.more (s' := useA (useA s)) (m' := .pop c i n ⟨2, hd i, lk (codF (hd i) - 1).toNat⟩) ?_ (.more (m' := .gen c b) ?_ r)), hcl, ho, h6⟩
  · rfl
  · unfold stepF
    simp only [h.I.rw.hds i hi]
    rw [if_pos hp, if_neg (by omega)]
  · unfold stepF
    dsimp only
    rw [if_neg (by decide), if_pos rfl, h1.I.rw.lks _ (by omega)]
  · unfold stepF
    dsimp only
    rw [if_neg (by decide), if_neg (by decide), h3.I.rw.hds i hi, if_pos rfl, h.trn (by omega) hi (by rw [show (codF (hd i) - 1).toNat = b by omega]; exact hlb.1) (by rw [show (codF (hd i) - 1).toNat = b by omega]; omega), show (codF (hd i) - 1).toNat = b by omega]
/-- one is asked for, by itself -/
theorem Sl.runAsk : ∀ (n : Nat) {s : Ar} {mc : Nat → Option Mc} {i : Nat} {m : Po} (_ : Sl K M k s hd lk gn cg cl ls own mc T) (_ : Ok9 s) (_ : T ≤ 900000) (_ : w < k) {c : Nat} (_ : mc w = some (.pop c i n m)) (_ : m.ph = 0),
    ∃ a s' o, a ≤ n + 5 ∧ Run K M a s (.pop c i n m) s' o ∧ GotR K M k hd lk gn cg cl ls own mc T w c s.nw i n s' o
  | n, s, mc, i, m, h, hO, hT, hw, c, hm, hp => by
    obtain ⟨hi, h2, h5⟩ := h.I.P w hw _ hm
    have hL := h.I.L i hi
    cases hl : ls i with
    | cons b r =>
      obtain ⟨s', hd', hn, hr, hcl, ho, h6⟩ := h.runPop hO hT hw hm hp hl
      exact ⟨4, s', _, by omega, hr, .old 0 b r (Nat.zero_le _) (fun l hl => by omega) hl hcl ho h6 hn⟩
    | nil =>
      have hcd : codF (hd i) = 0 := by rw [hL.head, hl]; rfl
      have h1 := h.pop0e hw hm
      have hO1 : Ok9 (useA s) := hO.same rfl rfl rfl rfl rfl rfl
      have e0 : stepF K M s (.pop c i n m) = (useA s, .go (nextM K c i n)) := by
        unfold stepF
        simp only [h.I.rw.hds i hi]
        rw [if_pos hp, if_pos hcd]
      cases n with
      | zero =>
        rcases h1.runLook hO1 (by omega) hw (c := c) (upO_same _ _ _) with ⟨f1, f2, f3⟩ | ⟨f1, s', f4, f2, f5, f3⟩
        · rw [upO_upO] at f3
          exact ⟨2, _, _, by omega, .more e0 f2, .none (fun l hl2 => by obtain rfl : l = 0 := by omega
                                                                        exact hl) f1 (f3.wide (by omega)) rfl⟩
        · rw [upO_upO] at f3
          exact ⟨4, _, _, by omega, .more e0 f2, .new (fun l hl2 => by obtain rfl : l = 0 := by omega
                                                                       exact hl) f1 f5 (f3.wide (by omega)) f4⟩
      | succ n =>
        obtain ⟨a, s', o, ha, hr, hg⟩ := Sl.runAsk n h1 hO1 hT hw (c := c) (i := (i + 4) % K) (m := ⟨0, 0, 0⟩) (upO_same _ _ _) rfl
        refine ⟨a + 1, s', o, by omega, .more e0 hr, ?_⟩
        have hup : ∀ x : Option Mc, upO (upO mc w (some (nextM K c i (n + 1)))) w x = upO mc w x := fun x => upO_upO _ _ _ _
        cases hg with
        | old j b r hj he hl2 hb ok h6 hn => exact .old (j + 1) b r (by omega) (fun l hl3 => by
            cases l with
            | zero => exact hl
            | succ l => exact he l (by omega)) hl2 hb ok (by rw [hup] at h6; exact h6) hn
        | new he hf ok h6 hn => exact .new (fun l hl3 => by
            cases l with
            | zero => exact hl
            | succ l => exact he l (by omega)) hf ok (by rw [hup] at h6; exact h6) hn
        | none he hf h6 hn => exact .none (fun l hl3 => by
            cases l with
            | zero => exact hl
            | succ l => exact he l (by omega)) hf (by rw [hup] at h6; exact h6) hn
/-- one goes back, by itself -/
theorem Sl.runFree (h : Sl K M k s hd lk gn cg cl ls own mc T) (hT : T ≤ 1000000) (hw : w < k) {a : Int} {i : Nat} {m : Pu} (hm : mc w = some (.free a i m)) (hp : m.ph = 0) :
    ∃ s' hd' lk', s'.nw = s.nw ∧ s'.st a = 0 ∧ Run K M 3 s (.free a i m) s' .freed ∧ Sl K M k s' hd' lk' gn cg cl (upLs ls i (grN a :: ls i)) own (upO mc w none) (T + 1) := by
  obtain ⟨hi, h2, h3, h4, h5⟩ := h.I.P w hw _ hm
  have hM := h.I.M8
  have hb := h5.1
  have f1 := h.free0 hw hm
  have f2 := f1.free1 hw (a := a) (i := i) (m := ⟨m.b, 1, hd i⟩) (upO_same _ _ _) rfl
  rw [upO_upO] at f2
  have f3 := f2.free2 hT hw (a := a) (i := i) (m := ⟨m.b, 2, hd i⟩) (upO_same _ _ _) rfl rfl
  rw [upO_upO] at f3
  simp only [h3] at f3
  refine ⟨_, _, _, ?_, ?_, .more (s' := useA s) (m' := .free a i ⟨m.b, 1, hd i⟩) ?_ (.more (s' := linkS K (useA s) (grN a) (codF (hd i))) (m' := .free a i ⟨grN a, 2, hd i⟩) ?_ (.last ?_ trivial)), f3⟩
  · rfl
  · exact A9.upI_same _ _ _
  · unfold stepF
    simp only [h.I.rw.hds i hi]
    rw [if_pos hp]
  · unfold stepF
    dsimp only
    rw [if_neg (by decide), if_pos rfl]
    simp only [h3]
  · unfold stepF
    dsimp only
    have hb2 : grN a < M := by rw [← h3]; exact hb
    rw [if_neg (by decide), if_neg (by decide), ← h3, f2.I.rw.hds i hi, if_pos rfl, h.trn hT hi (by omega) (by omega)]
end
end Go.Proofs.YtopnkfbcphbbiaaDoor.S1
namespace Go.Proofs.YtopnkfbcphbbiaaDoor
open Go.RowKit
open H8 (okP sizeF)
open A9 (Ar useA Ok9 okB bornS retireS diedS bN zN inS zN_bd rawA setRawA swapRawA addRawA bornA diedA upN upN_other inR)
open F0 (upO upO_same upO_other headS linkS Pu Po sumN sumN_up sumN_ge)
open S1 (RwS SxI SxC Sl Mc McOk stepF genS grN clN zg mcC ownC ownC_app ownC_cons szO szO_app szF HSl nmV)

theorem sumN_move {f g : Nat → Nat} {w u k : Nat} (hw : w < k) (hu : u < k) (hne : u ≠ w) (hs : f w + f u = g w + g u) (ho : ∀ i, i ≠ w → i ≠ u → g i = f i) : sumN g k = sumN f k := by
  have h1 := (sumN_up (f := f) (g := fun i => if i = w then g w else f i) (w := w) (fun i hi => by simp [hi]) k).1 hw
  have h2 := (sumN_up (f := fun i => if i = w then g w else f i) (g := g) (w := u) (fun i hi => by
    by_cases e : i = w
    · subst e
      simp
    · simp [e, ho i e hi]) k).1 hu
  simp only [if_pos, if_neg hne] at h1 h2
  omega
section
variable {K M k T w u cg : Nat} {s s' : Ar} {hd lk gn : Nat → Int} {cv : Int} {cl : Nat → Option Nat} {ls : Nat → List Nat} {own : Nat → List Int} {mc : Nat → Option Mc}
theorem rws_far (h : RwS K M s hd lk gn cv) (e2 : s'.nr = s.nr) (e1 : ∀ j, j ≤ K + M + M → s'.raw j = s.raw j) : RwS K M s' hd lk gn cv :=
  ⟨⟨by rw [e2]; exact h.fit, h.big, fun j hj => (e1 j (by omega)).trans (h.hds j hj), fun j hj => (e1 _ (by omega)).trans (h.lks j hj)⟩, by rw [e2]; exact h.fit2, h.big2, fun j hj => (e1 _ (by omega)).trans (h.gns j hj), (e1 _ (by omega)).trans h.cvr⟩
/-- what is written behind the words of the lists changes nothing of them -/
theorem sl_far (h : Sl K M k s hd lk gn cg cl ls own mc T) (e1 : ∀ j, j ≤ K + M + M → s'.raw j = s.raw j) (e2 : s'.nr = s.nr) (e3 : s'.nw = s.nw) (e4 : s'.st = s.st) (e5 : s'.gen = s.gen) (e6 : s'.cL = s.cL) (e7 : s'.cR = s.cR) (e8 : s'.cC = s.cC) (e9 : s'.was = s.was) : Sl K M k s' hd lk gn cg cl ls own mc T := by
  obtain ⟨hI, hN⟩ := h
  refine ⟨⟨rws_far hI.rw e2 e1, by rw [e3]; exact hI.cap, by rw [e3]; exact hI.grs, hI.M8, hI.K4, hI.L, hI.tg, hI.cls, hI.slot, hI.apart, by rw [e5]; exact hI.gn0, fun w hw m hm => ?_, by rw [e4]; exact hI.live, by rw [e4]; exact hI.seen, hI.C⟩, hN.same e6 e7 e8 e9 e3⟩
  have := hI.P w hw m hm
  cases m <;> simpa only [McOk, e3, e4] using this
/-- a word behind the lists is set -/
theorem sl_word (h : Sl K M k s hd lk gn cg cl ls own mc T) {j : Nat} (hj : K + M + M < j) (hr : (j : Int) < s.nr) (x : Int) : Sl K M k (setRawA s j x) hd lk gn cg cl ls own mc T := by
  have hin : inR s j := by
    unfold inR
    omega
  unfold setRawA
  rw [if_pos hin]
  exact sl_far h (fun i hi => by
    show upN s.raw j x i = _
    exact upN_other _ _ (by omega)) rfl rfl rfl rfl rfl rfl rfl rfl
/-- a name goes from one actor to another -/
theorem sl_move (h : Sl K M k s hd lk gn cg cl ls own mc T) (hw : w < k) (hu : u < k) (hne : u ≠ w) {l1 l2 : List Int} {a : Int} (ho : own w = l1 ++ a :: l2) : Sl K M k s hd lk gn cg cl ls (upO (upO own w (l1 ++ l2)) u (own u ++ [a])) mc T := by
  obtain ⟨hI, hN⟩ := h
  have eu : upO (upO own w (l1 ++ l2)) u (own u ++ [a]) u = own u ++ [a] := upO_same _ _ _
  have ew : upO (upO own w (l1 ++ l2)) u (own u ++ [a]) w = l1 ++ l2 := by rw [upO_other _ _ (Ne.symm hne), upO_same]
  have eo : ∀ i, i ≠ w → i ≠ u → upO (upO own w (l1 ++ l2)) u (own u ++ [a]) i = own i := fun i h1 h2 => by rw [upO_other _ _ h2, upO_other _ _ h1]
  have eS : sumN (fun i => szO (upO (upO own w (l1 ++ l2)) u (own u ++ [a]) i)) k = sumN (fun i => szO (own i)) k := by
    refine sumN_move hw hu hne ?_ fun i h1 h2 => by simp only [eo i h1 h2]
    simp only [eu, ew, ho, szO_app, szO]
    omega
  refine ⟨⟨hI.rw, hI.cap, hI.grs, hI.M8, hI.K4, hI.L, hI.tg, hI.cls, hI.slot, hI.apart, hI.gn0, hI.P, fun v hv b hb => ?_, fun b hb => ?_, fun x => ?_⟩, ⟨by rw [eS]; exact hN.cL, hN.cR, by rw [eS]; exact hN.bd, hN.cC, hN.wa⟩⟩
  · by_cases e1 : v = u
    · subst e1
      rw [eu] at hb
      rcases List.mem_append.1 hb with h1 | h1
      · exact hI.live v hv b h1
      · simp only [List.mem_singleton] at h1
        subst h1
        exact hI.live w hw b (by rw [ho]; simp)
    · by_cases e2 : v = w
      · subst e2
        rw [ew] at hb
        refine hI.live v hv b ?_
        rw [ho]
        simp only [List.mem_append, List.mem_cons] at hb ⊢
        rcases hb with h1 | h1
        · exact .inl h1
        · exact .inr (.inr h1)
      · rw [eo v e2 e1] at hb
        exact hI.live v hv b hb
  · obtain ⟨h1, h2⟩ := hI.seen b hb
    refine ⟨h1, ?_⟩
    rcases h2 with ⟨v, hv, hm⟩ | h2
    · refine .inl ?_
      by_cases e2 : v = w
      · subst e2
        rw [ho] at hm
        simp only [List.mem_append, List.mem_cons] at hm
        rcases hm with h3 | h3 | h3
        · exact ⟨v, hv, by rw [ew]; simp [h3]⟩
        · exact ⟨u, hu, by rw [eu]; simp [h3]⟩
        · exact ⟨v, hv, by rw [ew]; simp [h3]⟩
      · by_cases e1 : v = u
        · subst e1
          exact ⟨v, hv, by rw [eu]; simp [hm]⟩
        · exact ⟨v, hv, by rw [eo v e2 e1]; exact hm⟩
    · exact .inr h2
  · rw [← hI.C x]
    congr 1
    refine sumN_move hw hu hne ?_ fun i h1 h2 => by simp only [eo i h1 h2]
    simp only [eu, ew, ho, ownC_app, ownC_cons, S1.ownC_nil]
    omega
/-- a machine goes from one actor to another -/
theorem sl_hand (h : Sl K M k s hd lk gn cg cl ls own mc T) (hw : w < k) (hu : u < k) (hne : u ≠ w) (hm : mc u = none) : Sl K M k s hd lk gn cg cl ls own (upO (upO mc w none) u (mc w)) T := by
  obtain ⟨hI, hN⟩ := h
  have eu : upO (upO mc w none) u (mc w) u = mc w := upO_same _ _ _
  have ew : upO (upO mc w none) u (mc w) w = none := by rw [upO_other _ _ (Ne.symm hne), upO_same]
  have eo : ∀ i, i ≠ w → i ≠ u → upO (upO mc w none) u (mc w) i = mc i := fun i h1 h2 => by rw [upO_other _ _ h2, upO_other _ _ h1]
  have eS : sumN (fun i => szF (upO (upO mc w none) u (mc w) i)) k = sumN (fun i => szF (mc i)) k := by
    refine sumN_move hw hu hne ?_ fun i h1 h2 => by simp only [eo i h1 h2]
    simp only [eu, ew, hm]
    omega
  refine ⟨⟨hI.rw, hI.cap, hI.grs, hI.M8, hI.K4, hI.L, hI.tg, hI.cls, hI.slot, hI.apart, hI.gn0, fun v hv m hm' => ?_, hI.live, fun b hb => ?_, fun x => ?_⟩, ⟨hN.cL, by rw [eS]; exact hN.cR, by rw [eS]; exact hN.bd, hN.cC, hN.wa⟩⟩
  · by_cases e1 : v = u
    · subst e1
      rw [eu] at hm'
      exact hI.P w hw m hm'
    · by_cases e2 : v = w
      · subst e2
        rw [ew] at hm'
        cases hm'
      · rw [eo v e2 e1] at hm'
        exact hI.P v hv m hm'
  · obtain ⟨h1, h2⟩ := hI.seen b hb
    refine ⟨h1, h2.imp id ?_⟩
    rintro ⟨v, i, m, hv, he⟩
    by_cases e2 : v = w
    · subst e2
      exact ⟨u, i, m, hu, by rw [eu]; exact he⟩
    · by_cases e1 : v = u
      · subst e1
        rw [hm] at he
        cases he
      · exact ⟨v, i, m, hv, by rw [eo v e2 e1]; exact he⟩
  · rw [← hI.C x]
    congr 1
    refine sumN_move hw hu hne ?_ fun i h1 h2 => by simp only [eo i h1 h2]
    simp only [eu, ew, hm]
    omega
/-- a machine's step leaves the words behind the lists -/
theorem step_far (h : Sl K M k s hd lk gn cg cl ls own mc T) (hw : w < k) {m : Mc} (hm : mc w = some m) {j : Nat} (hj : K + M + M < j) : (stepF K M s m).1.raw j = s.raw j := by
  have hP := h.I.P w hw m hm
  have hM := h.I.M8
  cases m with
  | free a i m =>
    have hb : m.b < M := by
      have := hP.2.2.2.2.1
      omega
    have hi := hP.1
    simp only [stepF]
    split
    · rfl
    · split
      · show upN s.raw (K + m.b) _ j = _
        exact upN_other _ _ (by omega)
      · split
        · show upN s.raw i _ j = _
          exact upN_other _ _ (by omega)
        · rfl
  | pop c i n m =>
    have hi := hP.1
    simp only [stepF]
    split
    · split <;> rfl
    · split
      · rfl
      · split
        · show upN s.raw i _ j = _
          exact upN_other _ _ (by omega)
        · rfl
  | look c =>
    simp only [stepF]
    split <;> rfl
  | carve c v =>
    simp only [stepF]
    split
    · show upN s.raw (K + M + M) _ j = _
      exact upN_other _ _ (by omega)
    · rfl
  | gen c b =>
    have hc : cl b = some c := hP
    have h1 := h.I.slot b c hc
    have h2 := h.I.cap
    have h3 := h.I.grs
    have h4 := S1.zg_bd h1.1
    simp only [stepF]
    show upN s.raw (K + M + b) _ j = _
    exact upN_other _ _ (by omega)
end
end Go.Proofs.YtopnkfbcphbbiaaDoor
namespace Go.Proofs.YtopnkfbcphbbiaaDoor.F0
open Go.RowKit
open A9 (Ab ArAt ArMem FrA Ar rawA useA ptrA intsV SrcN own_kept own_base infoInt intsV_one src_one isTab tab_lt htab_keep)
open H8 (HTab below_then)

/-- a row of the call's own, beside an arena -/
structure LsW (B : Ab) (w wr : World) (s : Ar) (v : Value) (xs : List Int) : Prop where
  row : wr.ownsRow w.heap.size 3 1 v xs.length (intsV xs)
  fr : FrA B w wr
  ar : ArAt B wr s
section
variable {B : Ab} {w wr : World} {s : Ar} {v : Value} {xs : List Int}
theorem LsW.nil (hA : ArAt B w s) : LsW B w w s (.slice none 0 0) [] := ⟨World.ownsRow_nil _ _ _ _, FrA.refl _ _, hA⟩
theorem LsW.notB (h : LsW B w wr s v xs) (hB : ∀ k, B.has k → k < w.heap.size) {g : Nat} (hg : v.ownBlock = some g) : ¬ B.has g := fun hb => by
  have := (h.row.lt g hg).1
  have := hB g hb
  omega
theorem LsW.step {w2 : World} {s2 : Ar} (h : LsW B w wr s v xs) (hB : ∀ k, B.has k → k < w.heap.size) (hA : ArAt B w2 s2) (hF : FrA B wr w2) : LsW B w w2 s2 v xs :=
  ⟨own_kept h.row fun g hg => hF.block g (h.row.lt g hg).2 (h.notB hB hg), h.fr.trans hF, hA⟩
theorem LsW.alloc (h : LsW B w wr s v xs) (hB : ∀ k, B.has k → k < w.heap.size) (o : Obj) : LsW B w (wr.alloc o) s v xs := h.step hB (h.ar.alloc o) (.of_below ((Below.refl _ _).alloc (Nat.le_refl _) o))
theorem LsW.app (ty : TypeId) (h : LsW B w wr s v xs) (hB : ∀ k, B.has k → k < w.heap.size) (hT : ∀ k, isTab k → k < w.heap.size) {ad : Option Addr} {len cap : Nat} {ys : List Int} (hs : SrcN wr ad len ys) (hn : xs.length + ys.length ≤ 20000) :
    ∃ v' w', (Builtin.append_ #[22, 22] ty #[v, .slice ad len cap]).run Tryd.prog wr = .ok v' w' ∧ LsW B w w' s v' (xs ++ ys) := by
  obtain ⟨i, hi, hz, hz1, hz2⟩ := infoInt
  obtain ⟨hl, a, rfl, hc⟩ := hs
  subst hl
  obtain ⟨v', w', hr, h2, h3, -, h5⟩ := run_append_own_at (P := Tryd.prog) wr w.heap.size 22 ty 3 i (.int .i64 0) 1 8 Tryd.underlying22 hi hz hz1 hz2 rfl (by decide) v xs.length (intsV xs) h.row a ys.length cap (intsV ys) (by simp [intsV]) hc intsV_one (by unfold maxLen; omega) (by omega) h.fr.size
  have hbk : ∀ k, k < wr.heap.size → v.ownBlock ≠ some k → w'.heap[k]? = wr.heap[k]? := fun k hk hne => h3.block k hk fun e => hne e.symm
  have hlo : ∀ k, k < w.heap.size → w'.heap[k]? = wr.heap[k]? := fun k hk => hbk k (Nat.lt_of_lt_of_le hk h.fr.size) fun e => by have := (h.row.lt k e).1; omega
  refine ⟨v', w', hr, ?_, ?_, ⟨h.ar.toArMem.same (fun k hk => hlo k (hB k hk)) (htab_keep h.ar.tab fun k hk => hlo k (hT k hk)), h.ar.ok⟩⟩
  · rw [List.length_append, show intsV (xs ++ ys) = intsV xs ++ intsV ys by simp [intsV]]
    exact h2
  · exact ⟨h3.os.trans h.fr.os, h3.tape.trans h.fr.tape, h3.output.trans h.fr.output, Nat.le_trans h.fr.size h3.size, fun k hk hn => (hlo k hk).trans (h.fr.block k hk hn)⟩
theorem list_appL {ops : Array Oper} {rest : List Oper} {o : Oper} {a : Act} {Q : Exit → Act → World → Prop} (hgd : o.guard = none) (x y : Operand)
    (ho : o.op = .call { callee := .builtin .append, args := #[x, y], argTypes := #[22, 22] }) (h : LsW B w wr s v xs) (hB : ∀ k, B.has k → k < w.heap.size) (hT : ∀ k, isTab k → k < w.heap.size) {ad : Option Addr} {len cap : Nat} {ys : List Int} (hx : a.eval x = v) (hy : a.eval y = .slice ad len cap) (hs : SrcN wr ad len ys) (hn : xs.length + ys.length ≤ 20000)
    (hK : ∀ v' w', LsW B w w' s v' (xs ++ ys) → wpList Tryd.prog ops Q rest (a.put o.dst v') w') : wpList Tryd.prog ops Q (o :: rest) a wr := by
  refine wpList_plain hgd fun K' hK' => ?_
  obtain ⟨v', w', hr, h2⟩ := h.app o.type hB hT (cap := cap) hs hn
  unfold Oper.wp execOp
  simp only [ho, resolve, invoke, builtin, Sem.run_bind, Sem.run_pure, Result.andThen_ok, List.map_toArray, List.map_cons, List.map_nil, hx, hy, hr]
  exact hK' _ _ (hK v' w' h2)
end
/-- the arena after some uses -/
def usedA (s : Ar) (u : Int) : Ar := { s with uses := u }
def basesF (l : List Nat) : List Int := l.map fun b : Nat => 8 * (b : Int)
/-- what List leaves -/
def ListPost (B : Ab) (w : World) (s : Ar) (l : List Nat) (e : Ending) (w' : World) : Prop := ∃ v u, e = .returned v ∧ LsW B w w' (usedA s u) v (basesF l)
def sliceLen : Value → Nat
  | .slice _ n _ => n
  | _ => 0
theorem basesF_len (l : List Nat) : (basesF l).length = l.length := by simp [basesF]
/-- all that holds at a round's head -/
structure LiR (B : Ab) (W : World) (s : Ar) (l : List Nat) (bv : Value) (done rest : List Nat) (wr : World) : Prop where
  sp : l = done ++ rest
  ls : ∃ u, LsW B W wr (usedA s u) bv (basesF done)
theorem chn_tail {lk : Nat → Int} : ∀ {a b : List Nat}, Chn lk (a ++ b) → Chn lk b
  | [], _, h => h
  | _ :: _, _, h => chn_tail h.2
theorem nodup_le : ∀ (M : Nat) (l : List Nat), l.Nodup → (∀ b ∈ l, b < M) → l.length ≤ M
  | 0, l, _, h => by
    cases l with
    | nil => exact Nat.le_refl _
    | cons a r => exact absurd (h a (by simp)) (by omega)
  | M + 1, l, hn, h => by
    by_cases hm : M ∈ l
    · have h1 := nodup_le M (l.erase M) (hn.erase M) fun b hb => by
        rw [hn.mem_erase_iff] at hb
        have := h b hb.2
        omega
      rw [List.length_erase_of_mem hm] at h1
      omega
    · have := nodup_le M l hn fun b hb => by
        have h1 := h b hb
        have h2 : b ≠ M := fun e => hm (e ▸ hb)
        omega
      omega
theorem nxt_cons (b : Nat) (r : List Nat) : nxt (b :: r) = (b : Int) + 1 := rfl
section
variable {K M : Nat} {B : Ab} {w : World} {s : Ar} {hd lk : Nat → Int} {p : Pl5} {k : Nat}
set_option maxHeartbeats 1000000 in
theorem List_any (hA : ArAt B w s) (hR : RwL K M s hd lk) (hp : PlK K p) {a c : Int} (hk : k < K) (hh : headF p a c = k) {l : List Nat} (hL : Ls M (hd k) lk l) (hM : M ≤ 9000) :
    Calls Tryd.prog 19 #[ptrA B, p.v, .int .i64 a, .int .i64 c] w (ListPost B w s l) := by
  have hh1 := fun wx => head_any p a c wx
  rw [hh] at hh1
  have hf := hR.fit
  have hg := hR.big
  have r0 : ∀ u wx, ArAt B wx (usedA s u) → ∃ u', Calls Tryd.prog 28 #[ptrA B, .int .i64 (k : Int)] wx (A9.Left9 B wx (.int .i64 (hd k)) (usedA s u')) := fun u wx hx => by
    have h := A9.Raw_any hx (k : Int)
    rw [rawA_head (s := usedA s u) ⟨hR.fit, hR.big, hR.hds, hR.lks⟩ hk] at h
    exact ⟨_, h⟩
  have r1 : ∀ (b : Nat), b < M → ∀ u wx, ArAt B wx (usedA s u) → ∃ u', Calls Tryd.prog 28 #[ptrA B, .int .i64 (linkF p ((b : Int) + 1))] wx (A9.Left9 B wx (.int .i64 (lk b)) (usedA s u')) := fun b hb u wx hx => by
    have h := A9.Raw_any hx (linkF p ((b : Int) + 1))
    rw [rawA_link (s := usedA s u) ⟨hR.fit, hR.big, hR.hds, hR.lks⟩ hp hb] at h
    exact ⟨_, h⟩
  have l1 := fun (b : Nat) wx => link_any p ((b : Int) + 1) wx
  have f1 := fun wx => firstOf_any (hd k) wx
  rw [hL.head] at f1
  have u1 : ∀ (b : Nat), b < M → ∀ wx, Calls Tryd.prog 41 #[.int .i64 ((b : Int) + 1)] wx fun e w' => e = .returned (.int .i64 (8 * (b : Int))) ∧ w' = wx := fun b hb wx => by
    have := unmark_any ((b : Int) + 1) wx
    rw [unmF_eq (by omega) (by omega), show 8 * ((b : Int) + 1 - 1) = 8 * (b : Int) by omega] at this
    exact this
  have hlen : l.length ≤ M := nodup_le M l hL.nd hL.lt
  have HA : Hid (ArAt B w (usedA s s.uses)) := hA
  have HB : Hid ((∀ j, B.has j → j < w.heap.size) ∧ (∀ j, isTab j → j < w.heap.size)) := ⟨fun j hj => hA.lt hj, tab_lt hA.tab⟩
  have HL : Hid (Ls M (hd k) lk l) := hL
  unfold Pl5.v at hh1 l1 ⊢
  generalize hd k = h0 at *
  clear hA hL hR hh hp
  go_enter Tryd.func19, Tryd.ntmps19
  go_wp2_with fail
  refine (hh1 _).mono ?_
  rintro e w1 ⟨rfl, hb1⟩
  obtain ⟨W, hW⟩ : ∃ W, Hid (W = w1) := ⟨_, rfl⟩
  have hbx : (w.alloc (plBox p)).heap[w.heap.size]? = some (plBox p) := (Go.MapKept.heap_alloc w _).1
  have hb0 : Below w.heap.size w (w.alloc (plBox p)) := (Below.refl _ _).alloc (Nat.le_refl _) _
  have hlt := lt_of_block hbx
  have hb2 : Below (w.alloc (plBox p)).heap.size (w.alloc (plBox p)) w1 := hb1
  have hbx1 : w1.heap[w.heap.size]? = some (plBox p) := (hb2.block _ hlt).trans hbx
  have hb3 : Below w.heap.size w w1 := below_next hb0 (Nat.le_of_lt hlt) hb2
  have hA1 : ArAt B w1 (usedA s s.uses) := HA.out.below hb3
  have HB1 : Hid ((∀ j, B.has j → j < w1.heap.size) ∧ (∀ j, isTab j → j < w1.heap.size)) := ⟨fun j hj => Nat.lt_of_lt_of_le (HB.out.1 j hj) hb3.size, fun j hj => Nat.lt_of_lt_of_le (HB.out.2 j hj) hb3.size⟩
  clear hb1 hb2 hbx hb0 hh1
  obtain ⟨g, HG⟩ : ∃ g, Hid (g = w.heap.size) := ⟨_, rfl⟩
  rw [← (HG.out : g = w.heap.size)] at hbx1 ⊢
  clear hlt
  go_wp2_with fail
  obtain ⟨u0, K0⟩ := r0 _ _ hA1
  refine K0.mono ?_
  rintro e w2 ⟨rfl, hA2, hF2⟩
  have hbx2 : w2.heap[g]? = some (plBox p) := (hF2.block g (lt_of_block hbx1) fun hb => by have := HB.out.1 g hb; have e2 : g = w.heap.size := HG.out; omega).trans hbx1
  have HS : Hid (LiR B w2 s l (.slice none 0 0) [] l w2) := ⟨rfl, ⟨u0, .nil hA2⟩⟩
  have HB2 : Hid ((∀ j, B.has j → j < w2.heap.size) ∧ (∀ j, isTab j → j < w2.heap.size) ∧ g < w2.heap.size ∧ ¬ B.has g ∧ w2.heap[g]? = some (plBox p)) := ⟨fun j hj => Nat.lt_of_lt_of_le (HB1.out.1 j hj) hF2.size, fun j hj => Nat.lt_of_lt_of_le (HB1.out.2 j hj) hF2.size, lt_of_block hbx2, fun hb => by have := HB.out.1 g hb; have e2 : g = w.heap.size := HG.out; omega, hbx2⟩
  have HF2 : Hid (FrA B w w2) := (FrA.of_below hb3).trans hF2
  have HN : Hid (l.length ≤ M ∧ M ≤ 9000) := ⟨hlen, hM⟩
  clear K0 hA1 hA2 hF2 hbx1 hbx2 r0 hlen hM HB1 HB hb3
  go_wp2_with fail
  refine (f1 _).mono ?_
  rintro e w3 ⟨rfl, rfl⟩
  go_wp2_with fail
  go_loopw [9, 10] (fun bv av wr => ∃ done rest, av = .int .i64 (nxt rest) ∧ LiR B w3 s l bv done rest wr) (fun bv _ _ => 10000 - sliceLen bv)
  case atStart => exact ⟨[], l, rfl, HS.out⟩
  case round =>
    obtain ⟨done, rest, rfl, hsp, ⟨u, hls⟩⟩ := hrel
    clear HS
    obtain ⟨wq, rfl⟩ : ∃ W, W = wr := ⟨wr, rfl⟩
    obtain ⟨n, hn⟩ : ∃ n, done.length = n := ⟨_, rfl⟩
    have hrow := hls.row
    rw [basesF_len, hn] at hrow
    obtain ⟨ba, bc, rfl⟩ := A9.own_any hrow
    have hdl : n + rest.length = l.length := by rw [hsp, List.length_append, hn]
    cases rest with
    | nil =>
      rw [show nxt [] = 0 from rfl]
      have hd2 : done = l := by rw [hsp, List.append_nil]
      have HLS : Hid (∃ v u, (Value.slice ba n bc = v) ∧ LsW B w3 wq (usedA s u) v (basesF l)) := ⟨_, u, rfl, by rw [← hd2]; exact hls⟩
      clear r1 l1 u1 f1 hls hrow hsp hd2 hn hdl
      go_wp2_with fail
      go_ret
      obtain ⟨v, u', rfl, h⟩ := HLS.out
      exact ⟨_, u', rfl, own_base h.row HF2.out.size, HF2.out.trans h.fr, h.ar⟩
    | cons b r =>
      rw [nxt_cons]
      have hbM : b < M := HL.out.lt b (by rw [hsp]; simp)
      have hch : lk b = nxt r := by
        have := HL.out.chain
        rw [hsp] at this
        exact (chn_tail this).1
      simp only [List.length_cons] at hdl
      have hne : ((b : Int) + 1 != 0) = true := by simp; omega
      have hlt : (n : Int) < 10000 := by have := HN.out; omega
      have ub := u1 b hbM
      have lb := l1 b
      have HLS : Hid (LsW B w3 wq (usedA s u) (.slice ba n bc) (basesF done)) := hls
      have HLN : Hid ((basesF done).length + [8 * (b : Int)].length ≤ 20000) := by
        show (basesF done).length + [8 * (b : Int)].length ≤ 20000
        have := HN.out
        rw [basesF_len, hn]
        simp
        omega
      have HR1 : Hid (∀ u wx, ArAt B wx (usedA s u) → ∃ u', Calls Tryd.prog 28 #[ptrA B, .int .i64 (linkF p ((b : Int) + 1))] wx (A9.Left9 B wx (.int .i64 (lk b)) (usedA s u'))) := r1 b hbM
      have HSP : Hid (l = (done ++ [b]) ++ r ∧ done.length = n ∧ n + (r.length + 1) = l.length ∧ lk b = nxt r) := ⟨by rw [hsp]; simp, hn, hdl, hch⟩
      clear hls hrow hsp hdl hn hch r1 u1 l1 f1
      go_wp2_with (first | (go_at_call 41; refine (ub _).mono ?_; rintro e w4 ⟨rfl, rfl⟩) | (refine list_appL rfl _ _ rfl (HLS.out.alloc HB2.out.1 _) HB2.out.1 HB2.out.2.1 rfl rfl (src_one _ _) HLN.out ?_; intro v5 w5 hL5; have hbx5 := (hL5.fr.block g HB2.out.2.2.1 HB2.out.2.2.2.1).trans HB2.out.2.2.2.2; obtain ⟨c0, c1, c2, c3, c4⟩ := plS_of hbx5))
      refine (lb _).mono ?_
      rintro e w6 ⟨rfl, hb6⟩
      have hA6 := hL5.ar.below hb6
      obtain ⟨u6, K6⟩ := HR1.out _ _ hA6
      go_wp2_with fail
      refine K6.mono ?_
      rintro e w7 ⟨rfl, hA7, hF7⟩
      have hL7 := hL5.step HB2.out.1 hA7 ((FrA.of_below hb6).trans hF7)
      have hrow7 := hL7.row
      rw [List.length_append, basesF_len, HSP.out.2.1] at hrow7
      obtain ⟨a7, c7, rfl⟩ := A9.own_any hrow7
      go_wp2_with fail
      go_roundw
      case rel => exact ⟨done ++ [b], r, by rw [HSP.out.2.2.2], HSP.out.1, _, by simpa [basesF] using hL7⟩
      case measure =>
        have := HN.out
        have := HSP.out.2.2.1
        simp [sliceLen]
        omega
end
end Go.Proofs.YtopnkfbcphbbiaaDoor.F0
