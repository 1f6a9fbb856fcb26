/-
  Helpers: Zj, Zk, Zg.
-/
import Derived.Test.YtopnkfbcphbbiaaDoorBun62387182a664
namespace Go.Proofs.YtopnkfbcphbbiaaDoor
open Go.RowKit
open H8 (okP sizeF isH)
open A9 (Ar useA Ok9 okB bornS retireS diedS bN zN inS rawA setRawA upN upN_other inR)
open F0 (upO upO_same upO_other upLs Pu Po)
open S1 (Mc Out stepF grN clN)

/-- what a look leaves -/
def scLook (t : Tb) (sc : Sc) (v : Int) : Sc := if sc.lk + 1 < 2 * t.tw then { sc with lk := sc.lk + 1, sn := v :: sc.sn } else scPart { sc with lk := sc.lk + 1, sn := v :: sc.sn }
def endS (t : Tb) (sc : Sc) : Bool := !decide (sc.lk < 2 * t.tw) && sc.hs.isEmpty
def prO (o : Option Pu) (h : Int) : Pu := o.getD ⟨grN h, 0, 0⟩
def frO (sc : Sc) : Option (Int × Pu) := match sc.hs, sc.fr with
  | h :: _, some m => some (h, m)
  | _, _ => none
/-- what a step of the free of the first one leaves -/
def scOut (sc : Sc) (tl : List Int) : Out → Sc
  | .go (.free _ _ m) => { sc with fr := some m }
  | _ => { sc with hs := tl, fr := none }
def scF (K M : Nat) (t : Tb) (s : Ar) (sc : Sc) : Ar × Sc :=
  if sc.lk < 2 * t.tw then (useA s, scLook t sc (s.raw (t.a + sc.lk)))
  else match sc.hs with
  | [] => (s, sc)
  | h :: tl => ((stepF K M s (.free h (4 * t.wk + clN h) (prO sc.fr h))).1, scOut sc tl (stepF K M s (.free h (4 * t.wk + clN h) (prO sc.fr h))).2)
theorem pm_frO {sc : Sc} {h : Int} {tl : List Int} (e : sc.hs = h :: tl) : pmF (frO sc) h = prO sc.fr h := by
  unfold frO
  rw [e]
  cases hf : sc.fr with
  | none => rfl
  | some m => exact pm_same h m
theorem frO_was {sc : Sc} {h : Int} {tl : List Int} (e : sc.hs = h :: tl) : frO sc = none ∨ ∃ m, frO sc = some (h, m) := by
  unfold frO
  rw [e]
  cases hf : sc.fr with
  | none => exact .inl rfl
  | some m => exact .inr ⟨m, rfl⟩
theorem frO_none {sc : Sc} (e : sc.fr = none) : frO sc = none := by
  unfold frO
  rw [e]
  cases sc.hs <;> rfl
theorem step_same (K M : Nat) (s : Ar) (m : Mc) : (stepF K M s m).1.nr = s.nr ∧ (stepF K M s m).1.nw = s.nw ∧ (stepF K M s m).1.fresh = s.fresh ∧ (s.fresh = false → (stepF K M s m).1.mem = s.mem) := by
  cases m <;> simp only [stepF] <;> (repeat' split) <;> first
    | exact ⟨rfl, rfl, rfl, fun _ => rfl⟩
    | (refine ⟨rfl, rfl, rfl, fun hf => ?_⟩
       funext p
       show (if s.fresh = true ∧ inS _ p then 0 else s.mem p) = _
       rw [hf]
       simp)
/-- all that holds of a scan, and of names that wait -/
structure ScI (K M : Nat) (t : Tb) (s : Ar) (cg : Nat) (ls : Nat → List Nat) (live : List Int) (m0 : Option Mc) (sc : Sc) (T : Nat) : Prop where
  W : Wx K M s (4 * t.wk) cg ls live (sc.lf ++ sc.hs) m0 (frO sc) T
  lk : sc.lk ≤ 2 * t.tw
  lo : sc.lk < 2 * t.tw → sc.lf = [] ∧ sc.fr = none
section
variable {K M T cg : Nat} {t : Tb} {s s' : Ar} {ls : Nat → List Nat} {live : List Int} {m0 : Option Mc} {sc : Sc}
theorem ScI.look (h : ScI K M t s cg ls live m0 sc T) (hl : sc.lk < 2 * t.tw) (v : Int) : ScI K M t (useA s) cg ls live m0 (scLook t sc v) T := by
  obtain ⟨e1, e2⟩ := h.lo hl
  have hW := h.W.use
  unfold scLook
  split
  · exact ⟨hW, by show sc.lk + 1 ≤ _; omega, fun _ => ⟨e1, e2⟩⟩
  · rw [frO_none e2] at hW
    refine ⟨?_, by show sc.lk + 1 ≤ _; omega, fun hh => ?_⟩
    · rw [frO_none (show (scPart { sc with lk := sc.lk + 1, sn := v :: sc.sn }).fr = none from rfl)]
      have hn := hW.nd
      rw [e1, List.nil_append] at hn
      refine hW.perm ?_ fun x => ?_
      · show ((sc.lf ++ sc.hs.filter (inB (v :: sc.sn))) ++ sc.hs.filter (fun h => !inB (v :: sc.sn) h)).Nodup
        rw [e1, List.nil_append, List.nodup_append]
        refine ⟨hn.filter _, hn.filter _, fun x hx y hy e => ?_⟩
        subst e
        have h1 := (List.mem_filter.1 hx).2
        have h2 := (List.mem_filter.1 hy).2
        rw [h1] at h2
        simp at h2
      · show x ∈ (sc.lf ++ sc.hs.filter (inB (v :: sc.sn))) ++ sc.hs.filter (fun h => !inB (v :: sc.sn) h) ↔ _
        rw [e1]
        simp only [List.nil_append, List.mem_append, List.mem_filter]
        cases inB (v :: sc.sn) x <;> simp
    · exact absurd hh (by show ¬ (sc.lk + 1 < _); assumption)
/-- a step of a free -/
theorem ScI.free (h : ScI K M t s cg ls live m0 sc T) (hl : ¬ sc.lk < 2 * t.tw) {x : Int} {tl : List Int} (hs : sc.hs = x :: tl) (hT : T ≤ 1000000) :
    (∃ m', (prO sc.fr x).ph < 2 ∧ m'.ph = (prO sc.fr x).ph + 1 ∧ (scF K M t s sc).2 = { sc with fr := some m' } ∧ (scF K M t s sc).1.st = s.st ∧ ScI K M t (scF K M t s sc).1 cg ls live m0 (scF K M t s sc).2 (T + 1)) ∨
    ((prO sc.fr x).ph = 2 ∧ (scF K M t s sc).2 = { sc with hs := tl, fr := none } ∧ (scF K M t s sc).1.st = A9.upI s.st x 0 ∧ ScI K M t (scF K M t s sc).1 cg (upLs ls (4 * t.wk + clN x) (grN x :: ls (4 * t.wk + clN x))) live m0 (scF K M t s sc).2 (T + 1)) := by
  have e : scF K M t s sc = ((stepF K M s (.free x (4 * t.wk + clN x) (prO sc.fr x))).1, scOut sc tl (stepF K M s (.free x (4 * t.wk + clN x) (prO sc.fr x))).2) := by
    unfold scF
    rw [if_neg hl, hs]
  have hx : x ∈ sc.lf ++ sc.hs := by simp [hs]
  have hst := h.W.stepF hT hx (frO_was hs)
  rw [pm_frO hs] at hst
  rcases hst with ⟨m', p1, p2, p3, p4, p5⟩ | ⟨p1, p2, p3, p4⟩
  · refine .inl ⟨m', p1, p2, ?_⟩
    rw [e, p3]
    refine ⟨rfl, p4, ⟨?_, h.lk, fun hh => absurd hh hl⟩⟩
    have e3 : frO (scOut sc tl (.go (.free x (4 * t.wk + clN x) m'))) = some (x, m') := by
      show (match sc.hs, some m' with | h :: _, some m => some (h, m) | _, _ => none) = _
      rw [hs]
    rw [e3]
    exact p5
  · refine .inr ⟨p1, ?_⟩
    rw [e, p2]
    refine ⟨rfl, p3, ⟨?_, h.lk, fun hh => absurd hh hl⟩⟩
    rw [frO_none (show (scOut sc tl .freed).fr = none from rfl)]
    have hn := h.W.nd
    rw [hs] at hn
    refine p4 (sc.lf ++ tl) ?_ fun y => ?_
    · exact hn.sublist (List.Sublist.append_left (List.sublist_cons_self _ _) _)
    · rw [hs]
      obtain ⟨-, h2, h3⟩ := List.nodup_append.1 hn
      have h4 := (List.nodup_cons.1 h2).1
      simp only [List.mem_append, List.mem_cons]
      constructor
      · rintro (h5 | h5)
        · exact ⟨.inl h5, fun e => h3 y h5 x (by simp) e⟩
        · exact ⟨.inr (.inr h5), fun e => h4 (e ▸ h5)⟩
      · rintro ⟨h5 | h5 | h5, h6⟩
        · exact .inl h5
        · exact absurd h5 h6
        · exact .inr h5
theorem scF_look (hl : sc.lk < 2 * t.tw) : scF K M t s sc = (useA s, scLook t sc (s.raw (t.a + sc.lk))) := by
  unfold scF
  rw [if_pos hl]
/-- what is carved stays, but where a name is made -/
theorem step_cC (K M : Nat) (s : Ar) (m : Mc) : (stepF K M s m).1.cC = match (stepF K M s m).2 with
    | .got h => wrap64 (s.cC + A9.newC s.was (bN h) (zN h))
    | _ => s.cC := by
  cases m <;> simp only [stepF] <;> (repeat' split) <;> first
    | rfl
    | simp_all
theorem scF_cC (K M : Nat) (t : Tb) (s : Ar) (sc : Sc) : (scF K M t s sc).1.cC = s.cC := by
  unfold scF
  split
  · rfl
  · split
    · rfl
    · rename_i x tl hs
      show (stepF K M s (.free x (4 * t.wk + clN x) (prO sc.fr x))).1.cC = _
      simp only [stepF]
      (repeat' split) <;> rfl
/-- a step leaves all else -/
theorem ScI.same (h : ScI K M t s cg ls live m0 sc T) : (∀ j, K + M + M < j → (scF K M t s sc).1.raw j = s.raw j) ∧ (scF K M t s sc).1.nr = s.nr ∧ (scF K M t s sc).1.nw = s.nw ∧ (scF K M t s sc).1.fresh = s.fresh ∧ (scF K M t s sc).1.bad = s.bad ∧ (s.fresh = false → (scF K M t s sc).1.mem = s.mem) := by
  unfold scF
  split
  · exact ⟨fun _ _ => rfl, rfl, rfl, rfl, rfl, fun _ => rfl⟩
  · split
    · exact ⟨fun _ _ => rfl, rfl, rfl, rfl, rfl, fun _ => rfl⟩
    · rename_i x tl hs
      have h1 := step_same K M s (.free x (4 * t.wk + clN x) (prO sc.fr x))
      have h2 := (S1.step_uses K M s (.free x (4 * t.wk + clN x) (prO sc.fr x))).2
      refine ⟨fun j hj => ?_, h1.1, h1.2.1, h1.2.2.1, h2, h1.2.2.2⟩
      have := h.W.farF (a := x) (by simp [hs]) hj
      rw [pm_frO hs] at this
      exact this
end
end Go.Proofs.YtopnkfbcphbbiaaDoor
namespace Go.Proofs.YtopnkfbcphbbiaaDoor
open Go.RowKit
open H8 (okP sizeF HTab below_then packV packF isH opA opB opC)
open A9 (Ab ArAt ArMem FrA Ar rawA setRawA useA ptrA Ok9 MapI But SrcN Left9 isTab htab_keep upF src_one bN isH_parts opA_bN opC_bd)
open F0 (Pl5 Tn PuAt PoAt FrS noT noT_new plBox plS plS_of below_next Wk Pu Po upO headF headF_eq)
open S1 (RowO MAt Mc Out FeM FeR stepF grN clN clN_lt PlS NewFe_ok feStep)

/-- what a step leaves -/
def LkPost (B : Ab) (base : Nat) (w0 : World) (p : Pl5) (t : Tb) (sc : Sc) (b : Sb) (s : Ar) (w : World) : Prop := ArAt B w s ∧ FrB B base w0 w ∧ ∃ b', b'.q = b.q ∧ ScM B base w p t sc b'
section
variable {B : Ab} {base : Nat} {w w' w0 : World} {p : Pl5} {t : Tb} {sc : Sc} {b : Sb} {s : Ar} {K M N f y i : Nat} {b1 : Sb} {m : Pu} {x : Int} {tl : List Int}
theorem newMF (hA : ArAt B w s) (hp : PlS K M p) {k : Nat} {a : Int} (hh : isH a) (hb : bN a = 8 * grN a) (hk : 4 * k + clN a < K) : Calls Tryd.prog 53 #[p.v, .int .i64 (k : Int), .int .i64 a] w fun e w' => ∃ f y, e = .returned (.pointer (some ⟨f, 0, none⟩)) ∧ Below w.heap.size w w' ∧ MAt B f y w' p (.free a (4 * k + clN a) ⟨grN a, 0, 0⟩) ∧ w.heap.size ≤ f ∧ w.heap.size ≤ y := by
  obtain ⟨ho, he⟩ := isH_parts hh
  have h := NewFe_ok p k (opA a) (opB a) (opC a) ho w hA.tab
  rw [← he] at h
  have hms := hp.most
  have hc4 := clN_lt a
  refine h.mono fun e w' hh => ?_
  obtain ⟨q, y, e1, e2, e3, e4, e5, e6, e7⟩ := hh
  have hl := fun k (hk : B.has k) => hA.lt hk
  have hm : opA a / 8 + 1 = (grN a : Int) + 1 := by rw [opA_bN, hb]; omega
  rw [hm] at e3
  have hcl : opC a = (clN a : Int) := by have := opC_bd a; unfold clN; omega
  have hfe : FeR (.free a (4 * k + clN a) ⟨grN a, 0, 0⟩) ⟨y, a, false⟩ ((grN a : Int) + 1) ⟨headF p k (opC a), 0, 0, 0⟩ := by
    refine ⟨rfl, rfl, rfl, ?_, rfl, fun h => by simp at h, fun h => by simp at h⟩
    show headF p k (opC a) = ((4 * k + clN a : Nat) : Int)
    rw [hcl, headF_eq hp.k (by omega) (by omega) (by omega) (by omega)]
    omega
  exact ⟨q, y, e1, e4, .inl ⟨rfl, _, _, _, ⟨e2, e3, fun hb => by have := hl _ hb; omega, fun hb => by have := hl _ hb; simp only at this; omega, noT_new hA.tab e5, noT_new hA.tab e6⟩, hfe, rfl⟩, e5, e6⟩
theorem free_out (K M : Nat) (s : Ar) (h : Int) (i : Nat) (m : Pu) : (∃ m', (stepF K M s (.free h i m)).2 = .go (.free h i m')) ∨ (stepF K M s (.free h i m)).2 = .freed := by
  unfold stepF
  dsimp only
  split
  · exact .inl ⟨_, rfl⟩
  · split
    · exact .inl ⟨_, rfl⟩
    · split
      · exact .inr rfl
      · exact .inl ⟨_, rfl⟩
theorem stepMF {a : Int} (hA : ArAt B w s) (hM : MAt B f y w p (.free a i m)) (hp : PlS K M p) (hI : S1.Inv K M s (.free a i m) N) : Calls Tryd.prog 54 #[.pointer (some ⟨f, 0, none⟩), ptrA B] w fun e w' => ArAt B w' (stepF K M s (.free a i m)).1 ∧ FrS (S1.S3 B f y) w w' ∧
    ((∃ m', (stepF K M s (.free a i m)).2 = .go (.free a i m') ∧ e = .returned (.bool false) ∧ MAt B f y w' p (.free a i m')) ∨ ((stepF K M s (.free a i m)).2 = .freed ∧ e = .returned (.bool true))) := by
  rcases hM with ⟨-, f', bb, t, h1, h2, rfl⟩ | ⟨h0, -⟩
  · refine (feStep hA h1 h2 hp hI).mono fun e w' hh => ?_
    obtain ⟨f2, t2, ⟨e1, e2, e3, e4⟩, e5, e6⟩ := hh
    rw [e5] at e4
    refine ⟨e2, e4, ?_⟩
    rcases free_out K M s a i m with ⟨m', ho⟩ | ho
    · rw [ho] at e1 e6
      exact .inl ⟨m', ho, e1, .inl ⟨rfl, _, _, _, e3, e6, e5⟩⟩
    · rw [ho] at e1
      exact .inr ⟨ho, e1⟩
  · cases h0
theorem FrB.s3 (hM : ScM B base w p t sc b) (hfb : b.fb = some (f, y)) (hF : FrS (S1.S3 B f y) w w') : FrB B base w w' := by
  have h4 : scK b 4 = some f := by show b.fb.map _ = _; rw [hfb]; rfl
  have h5 : scK b 5 = some y := by show b.fb.map _ = _; rw [hfb]; rfl
  refine hF.wide fun k hk => ?_
  rcases hk with hk | hk | hk
  · exact .inl hk
  · exact .inr (hk ▸ (hM.lo 4 f h4).1)
  · exact .inr (hk ▸ (hM.lo 5 y h5).1)
theorem ScM.box3 (hM : ScM B base w p t sc b) (hF : FrS (S1.S3 B f y) w w') (hfb : b.fb = some (f, y)) : w'.heap[b.q]? = some (.cells (scB p t sc.lk b) 72 (0, 0)) := by
  have h4 : scK b 4 = some f := by show b.fb.map _ = _; rw [hfb]; rfl
  have h5 : scK b 5 = some y := by show b.fb.map _ = _; rw [hfb]; rfl
  refine (hF.block b.q (hM.lo 0 _ rfl).2.1 fun hh => ?_).trans hM.bx
  rcases hh with hh | hh | hh
  · exact (hM.lo 0 _ rfl).2.2 hh
  · exact absurd (hM.inj 0 4 b.q rfl (by rw [hh]; exact h4)) (by decide)
  · exact absurd (hM.inj 0 5 b.q rfl (by rw [hh]; exact h5)) (by decide)
/-- all that is known behind a begun free -/
structure FrH (B : Ab) (base : Nat) (w0 W : World) (p : Pl5) (t : Tb) (sc : Sc) (b : Sb) (s : Ar) (b1 : Sb) (f y : Nat) (m : Pu) : Prop where
  ar : ArAt B W s
  M : ScM B base W p t { sc with fr := some m } b1
  fb : b1.fb = some (f, y)
  fr : FrB B base w0 W
  q : b1.q = b.q
  hv : b1.hv = b.hv
theorem FrH.mat (h : FrH B base w0 w p t sc b s b1 f y m) (hs : sc.hs = x :: tl) : MAt B f y w p (.free x (4 * t.wk + clN x) m) := by
  obtain ⟨f', y', e, hd, tl', e2, hm⟩ := h.M.fS m rfl
  have e3 : sc.hs = hd :: tl' := e2
  rw [h.fb] at e
  cases e
  rw [hs] at e3
  cases e3
  exact hm
theorem FrH.begun (hA : ArAt B w s) (hM : ScM B base w p t sc b) (hf : sc.fr = none) (hO : Old B base) (h0 : base ≤ w.heap.size) (hs : sc.hs = x :: tl) (hb : Below w.heap.size w w') (hm : MAt B f y w' p (.free x (4 * t.wk + clN x) m)) (h1 : w.heap.size ≤ f) (h2 : w.heap.size ≤ y) : FrH B base w (w'.setCell ⟨b.q, 12, none⟩ (.pointer (some ⟨f, 0, none⟩))) p t sc b s { b with fb := some (f, y) } f y m :=
  ⟨ar_set (hA.below hb) hO (Nat.le_trans h0 hb.size) (hM.lo 0 _ rfl).1 12 _, hM.setF hf hb hs hm h0 (fun _ hk => hA.lt hk) h1 h2, rfl, (FrB.below hb).setCell (hM.lo 0 _ rfl).1 12 _, rfl, rfl⟩
theorem FrH.below (h : FrH B base w0 w p t sc b s b1 f y m) (hb : Below w.heap.size w w') : FrH B base w0 w' p t sc b s b1 f y m := ⟨h.ar.below hb, h.M.below hb, h.fb, h.fr.trans (FrB.below hb), h.q, h.hv⟩
/-- the free goes on -/
theorem FrH.go  {m' : Pu} (h : FrH B base w0 w p t sc b s b1 f y m) (hl : ¬ sc.lk < 2 * t.tw) (hs : sc.hs = x :: tl) (hm : m = prO sc.fr x) (hA : ArAt B w' (stepF K M s (.free x (4 * t.wk + clN x) m)).1) (hF : FrS (S1.S3 B f y) w w') (ho : (stepF K M s (.free x (4 * t.wk + clN x) m)).2 = .go (.free x (4 * t.wk + clN x) m')) (hM : MAt B f y w' p (.free x (4 * t.wk + clN x) m')) : LkPost B base w0 p t (scF K M t s sc).2 b (scF K M t s sc).1 w' := by
  have e : scF K M t s sc = ((stepF K M s (.free x (4 * t.wk + clN x) m)).1, ⟨sc.lk, sc.sn, x :: tl, sc.lf, some m'⟩) := by
    unfold scF
    rw [if_neg hl]
    simp only [hs]
    rw [← hm, ho]
    simp only [scOut, hs]
  rw [e]
  have h2 := h.M.stepF (sc := { sc with fr := some m }) hs h.fb hF hM
  simp only [hs] at h2
  exact ⟨hA, h.fr.trans (FrB.s3 h.M h.fb hF), b1, h.q, h2⟩
/-- the free has ended -/
theorem FrH.done  {v : Value} (h : FrH B base w0 w p t sc b s b1 f y m) (hl : ¬ sc.lk < 2 * t.tw) (hs : sc.hs = x :: tl) (hm : m = prO sc.fr x) (hO : Old B base) (h0 : base ≤ w0.heap.size) (hA : ArAt B w' (stepF K M s (.free x (4 * t.wk + clN x) m)).1) (hF : FrS (S1.S3 B f y) w w') (ho : (stepF K M s (.free x (4 * t.wk + clN x) m)).2 = .freed) (hr : RowO w base v tl) (hn : ∀ r, v.ownBlock = some r → b.hv.ownBlock = some r) : LkPost B base w0 p t (scF K M t s sc).2 b (scF K M t s sc).1 ((w'.setCell ⟨b.q, 10, none⟩ v).setCell ⟨b.q, 12, none⟩ (.pointer none)) := by
  have e : scF K M t s sc = ((stepF K M s (.free x (4 * t.wk + clN x) m)).1, { sc with hs := tl, fr := none }) := by
    unfold scF
    rw [if_neg hl, hs]
    dsimp only
    rw [← hm, ho]
    rfl
  rw [e]
  have h2 := h.M.done (sc := { sc with fr := some m }) h.fb hF hr (by rw [h.hv]; exact hn)
  rw [h.q] at h2
  have hq := (h.M.lo 0 _ rfl).1
  rw [h.q] at hq
  have hf1 := h.fr.trans (FrB.s3 h.M h.fb hF)
  have hbs := Nat.le_trans h0 hf1.size
  exact ⟨ar_set (ar_set hA hO hbs hq 10 v) hO (by simpa using hbs) hq 12 _, (hf1.setCell hq 10 v).setCell hq 12 _, { q := b.q, m := b1.m, hv := v, lv := b1.lv, fb := none }, rfl, h2⟩
set_option maxHeartbeats 1000000 in
theorem free_some (hA : ArAt B w s) (hM : ScM B base w p t sc b) (hO : Old B base) (h0 : base ≤ w.heap.size) (hl : ¬ sc.lk < 2 * t.tw) (hs : sc.hs = x :: tl) (hf : sc.fr = some m) (hp : PlS K M p) (hI : S1.Inv K M s (.free x (4 * t.wk + clN x) (prO sc.fr x)) N) :
    Calls Tryd.prog 38 #[.pointer (some ⟨b.q, 0, none⟩), ptrA B] w fun e w' => e = .returned (.tuple #[]) ∧ LkPost B base w p t (scF K M t s sc).2 b (scF K M t s sc).1 w' := by
  obtain ⟨f, y, hfb, -⟩ := hM.fS m hf
  have c12 : w.cell? ⟨b.q, 12, none⟩ = some (fbV b.fb) := hM.cell 12
  rw [hfb] at c12
  have hP : m = prO sc.fr x := by rw [hf]; rfl
  have HP : Hid (m = prO sc.fr x) := hP
  have HI : Hid (S1.Inv K M s (.free x (4 * t.wk + clN x) m) N) := by rw [hP]; exact hI
  obtain ⟨b1, hb1⟩ : ∃ b1, b1 = b := ⟨b, rfl⟩
  have HS : Hid (FrH B base w w p t sc b s b1 f y m) := by
    rw [hb1]
    exact ⟨hA, by rw [← hf]; exact hM, hfb, FrB.refl _ _ _, rfl, rfl⟩
  clear hA hM hf hI hP hb1 hfb
  simp only [fbV] at c12
  go_enter Tryd.func38, Tryd.ntmps38
  go_wp2_with fail
  have kS := stepMF HS.out.ar (HS.out.mat hs) hp HI.out
  go_wp2_with fail
  refine kS.mono ?_
  rintro e w3 ⟨hA3, hF3, hc⟩
  have HS3 : Hid (ArAt B w3 (S1.stepF K M s (.free x (4 * t.wk + clN x) m)).1 ∧ FrS (S1.S3 B f y) w w3) := ⟨hA3, hF3⟩
  clear hA3 hF3 kS
  rcases hc with ⟨m', ho, rfl, hm⟩ | ⟨ho, rfl⟩
  · have HO : Hid ((S1.stepF K M s (.free x (4 * t.wk + clN x) m)).2 = .go (.free x (4 * t.wk + clN x) m') ∧ MAt B f y w3 p (.free x (4 * t.wk + clN x) m')) := ⟨ho, hm⟩
    clear ho hm
    go_wp2_with fail
    exact bodyPost_end (v := .tuple #[]) (by simp [results, Tryd.results38, go_sem]) rfl ⟨rfl, HS.out.go hl hs HP.out HS3.out.1 HS3.out.2 HO.out.1 HO.out.2⟩
  · have HO : Hid ((S1.stepF K M s (.free x (4 * t.wk + clN x) m)).2 = .freed) := ho
    have hbx : w3.heap[b.q]? = some (.cells (scB p t sc.lk b1) 72 (0, 0)) := by
      have := HS.out.M.box3 HS3.out.2 HS.out.fb
      rw [HS.out.q] at this
      exact this
    obtain ⟨r, off, cap, e, c1, c2, c3, hc, ht⟩ := (show RowO w base b1.hv (x :: tl) by rw [← hs]; exact HS.out.M.hr).first
    have c10 : w3.cell? ⟨b.q, 10, none⟩ = some b1.hv := cell_of_row _ _ 10 _ _ _ hbx
    have f10 : w3.frozen? ⟨b.q, 10, none⟩ = false := frozen_of_row _ _ 10 _ _ hbx
    have c12 : w3.cell? ⟨b.q, 12, none⟩ = some (fbV b1.fb) := cell_of_row _ _ 12 _ _ _ hbx
    have f12 : w3.frozen? ⟨b.q, 12, none⟩ = false := frozen_of_row _ _ 12 _ _ hbx
    rw [HS.out.fb] at c12
    rw [e] at c10
    have HV : Hid (b.hv = .slice (some ⟨r, off, none⟩) (tl.length + 1) cap) := HS.out.hv.symm.trans e
    obtain ⟨L, hL⟩ : ∃ L, tl.length + 1 = L := ⟨_, rfl⟩
    have hL' : tl.length = L - 1 := by omega
    rw [hL] at c10 c2
    rw [hL'] at ht
    have hL1 : (0 : Int) < (L : Int) := by omega
    have hL2 : (1 : Int) ≤ (L : Int) := by omega
    have hL3 : (L : Int) ≤ (cap : Int) := by omega
    unfold maxLen at c3
    clear ho hbx e hL hL' hc
    by_cases hc1 : cap = 1
    · subst hc1
      obtain rfl : L = 1 := by omega
      rw [if_pos rfl] at ht
      simp only [Nat.sub_self] at ht
      have HT : Hid _ := ht
      clear ht
      go_wp2_with fail
      exact bodyPost_end (v := .tuple #[]) (by simp [results, Tryd.results38, go_sem]) rfl ⟨rfl, HS.out.done hl hs HP.out hO h0 HS3.out.1 HS3.out.2 HO.out HT.out (fun r' hr' => by rw [HV.out]; exact hr')⟩
    · rw [if_neg hc1] at ht
      have HT : Hid _ := ht
      clear ht
      go_wp2_with fail
      exact bodyPost_end (v := .tuple #[]) (by simp [results, Tryd.results38, go_sem]) rfl ⟨rfl, HS.out.done hl hs HP.out hO h0 HS3.out.1 HS3.out.2 HO.out HT.out (fun r' hr' => by rw [HV.out]; exact hr')⟩

set_option maxHeartbeats 1000000 in
theorem free_none (hA : ArAt B w s) (hM : ScM B base w p t sc b) (hO : Old B base) (h0 : base ≤ w.heap.size) (hl : ¬ sc.lk < 2 * t.tw) (hs : sc.hs = x :: tl) (hf : sc.fr = none) (hp : PlS K M p) (hI : S1.Inv K M s (.free x (4 * t.wk + clN x) (prO sc.fr x)) N) (hh : isH x) (hb : bN x = 8 * grN x) (hk : 4 * t.wk + clN x < K) :
    Calls Tryd.prog 38 #[.pointer (some ⟨b.q, 0, none⟩), ptrA B] w fun e w' => e = .returned (.tuple #[]) ∧ LkPost B base w p t (scF K M t s sc).2 b (scF K M t s sc).1 w' := by
  have hfb := hM.fN hf
  have kN := fun wx (hx : ArAt B wx s) => newMF hx hp hh hb hk
  unfold Pl5.v at kN
  have c2 : w.cell? ⟨b.q, 2, none⟩ = some (.int .i64 p.wk) := hM.cell 2
  have c3 : w.cell? ⟨b.q, 3, none⟩ = some (.int .i64 p.hd) := hM.cell 3
  have c4 : w.cell? ⟨b.q, 4, none⟩ = some (.int .i64 p.ln) := hM.cell 4
  have c5 : w.cell? ⟨b.q, 5, none⟩ = some (.int .i64 p.gn) := hM.cell 5
  have c6 : w.cell? ⟨b.q, 6, none⟩ = some (.int .i64 p.cv) := hM.cell 6
  have c7 : w.cell? ⟨b.q, 7, none⟩ = some (.int .i64 (t.wk : Int)) := hM.cell 7
  have c12 : w.cell? ⟨b.q, 12, none⟩ = some (fbV b.fb) := hM.cell 12
  have f12 : w.frozen? ⟨b.q, 12, none⟩ = false := hM.frozen 12
  have hhv := hM.hr
  rw [hs] at hhv
  obtain ⟨r, off, cap, e, d1, d2, d3, hc, ht⟩ := hhv.first
  have c10 : w.cell? ⟨b.q, 10, none⟩ = some b.hv := hM.cell 10
  rw [e] at c10
  obtain ⟨L, hL⟩ : ∃ L, tl.length + 1 = L := ⟨_, rfl⟩
  rw [hL] at c10 d2
  have hL0 : 0 < L := by omega
  have hL1 : (0 : Int) < (L : Int) := by omega
  have hL3 : (L : Int) ≤ (cap : Int) := by omega
  rw [hfb] at c12
  have HP : Hid ((⟨grN x, 0, 0⟩ : Pu) = prO sc.fr x) := by rw [hf]; rfl
  have HI : Hid (S1.Inv K M s (.free x (4 * t.wk + clN x) ⟨grN x, 0, 0⟩) N) := by rw [HP.out]; exact hI
  have HA : Hid (ArAt B w s) := hA
  have HM : Hid (ScM B base w p t sc b ∧ sc.fr = none ∧ b.fb = none) := ⟨hM, hf, hfb⟩
  have HN : Hid _ := kN
  have HSK : Hid (∀ W sc' b', ScM B base W p t sc' b' → b'.q = b.q → b'.hv = b.hv → sc'.hs = sc.hs → W.cell? ⟨b.q, 2, none⟩ = some (.int .i64 p.wk) ∧ W.cell? ⟨b.q, 3, none⟩ = some (.int .i64 p.hd) ∧ W.cell? ⟨b.q, 4, none⟩ = some (.int .i64 p.ln) ∧ W.cell? ⟨b.q, 5, none⟩ = some (.int .i64 p.gn) ∧ W.cell? ⟨b.q, 6, none⟩ = some (.int .i64 p.cv) ∧ W.cell? ⟨b.q, 7, none⟩ = some (.int .i64 (t.wk : Int)) ∧ W.cell? ⟨b.q, 10, none⟩ = some (.slice (some ⟨r, off, none⟩) L cap) ∧ W.cell? ⟨r, off, none⟩ = some (.int .i64 x)) := fun W sc' b' hM' q1 q2 q3 => by
    have k := fun i => hM'.cell i
    rw [q1] at k
    have hr := hM'.hr
    rw [q3, hs] at hr
    obtain ⟨r', off', cap', e', -, -, -, hc', -⟩ := hr.first
    rw [q2, e] at e'
    cases e'
    exact ⟨k 2, k 3, k 4, k 5, k 6, k 7, (k 10).trans (by rw [← hL]; exact congrArg some (q2.trans e)), hc'⟩
  have HS12 : Hid (∀ W, Below w.heap.size w W → W.cell? ⟨b.q, 12, none⟩ = some (.pointer none) ∧ W.frozen? ⟨b.q, 12, none⟩ = false) := fun W hW => ⟨((hM.below hW).cell 12).trans (by show some (fbV b.fb) = _; rw [hfb]; rfl), (hM.below hW).frozen 12⟩
  clear hA hM hf hI hhv e ht hL hh hb hk kN hfb d3
  simp only [fbV] at c12
  go_enter Tryd.func38, Tryd.ntmps38
  go_wp2_with fail
  go_region_held3 (fun w' => w'.cell? ⟨b.q, 2, none⟩ = some (.int .i64 p.wk) ∧ w'.cell? ⟨b.q, 3, none⟩ = some (.int .i64 p.hd) ∧ w'.cell? ⟨b.q, 4, none⟩ = some (.int .i64 p.ln) ∧ w'.cell? ⟨b.q, 5, none⟩ = some (.int .i64 p.gn) ∧ w'.cell? ⟨b.q, 6, none⟩ = some (.int .i64 p.cv) ∧ w'.cell? ⟨b.q, 7, none⟩ = some (.int .i64 (t.wk : Int)) ∧ w'.cell? ⟨b.q, 10, none⟩ = some (.slice (some ⟨r, off, none⟩) L cap) ∧ w'.cell? ⟨r, off, none⟩ = some (.int .i64 x)) (first | exact ⟨c2, c3, c4, c5, c6, c7, c10, hc⟩ | exact hS1 | exact hS2) (first
    | (go_at_call 53; refine (HN.out _ (HA.out.below (Below.refl _ _).drew)).mono ?_; rintro e w1 ⟨f, y, rfl, hb1, hm1, x1, x2⟩; have hbB := below_then (Below.refl w.heap.size w).drew hb1; have hS1 := HSK.out _ _ _ (HM.out.1.below hbB) rfl rfl rfl; obtain ⟨d12, g12⟩ := HS12.out _ hbB; have hH := FrH.begun HA.out HM.out.1 HM.out.2.1 hO h0 hs hbB hm1 x1 x2; have hS2 := HSK.out _ _ _ hH.M rfl rfl rfl; have HH : Hid _ := hH; clear hb1 hm1 x1 x2 hbB hH))
  obtain ⟨b1, hb1⟩ : ∃ b1 : Sb, b1 = { b with fb := some (f, y) } := ⟨_, rfl⟩
  have HS : Hid (FrH B base w (w1.setCell ⟨b.q, 12, none⟩ (.pointer (some ⟨f, 0, none⟩))) p t sc b s b1 f y ⟨grN x, 0, 0⟩) := by rw [hb1]; exact HH.out
  obtain ⟨W2, HW2⟩ : ∃ W2, Hid (W2 = w1.setCell ⟨b.q, 12, none⟩ (.pointer (some ⟨f, 0, none⟩))) := ⟨_, rfl⟩
  rw [← HW2.out] at HS ⊢
  have c12 : W2.cell? ⟨b.q, 12, none⟩ = some (.pointer (some ⟨f, 0, none⟩)) := by
    have := HS.out.M.cell 12
    rw [HS.out.q] at this
    rw [this]
    show some (fbV b1.fb) = _
    rw [HS.out.fb]
    rfl
  obtain ⟨m, HMM⟩ : ∃ m : Pu, Hid (m = ⟨grN x, 0, 0⟩) := ⟨_, rfl⟩
  rw [← HMM.out] at HP HI HS
  clear hS1 hS2 d12 g12 HSK HS12 HN HH HM HA c2 c3 c4 c5 c6 c7 c10 hc f12 d1 d2 hL0 hL1 hL3 hb1
  have kS := stepMF HS.out.ar (HS.out.mat hs) hp HI.out
  go_wp2_with fail
  refine kS.mono ?_
  rintro e w3 ⟨hA3, hF3, hc⟩
  have HS3 : Hid (ArAt B w3 (S1.stepF K M s (.free x (4 * t.wk + clN x) m)).1 ∧ FrS (S1.S3 B f y) W2 w3) := ⟨hA3, hF3⟩
  clear hA3 hF3 kS
  rcases hc with ⟨m', ho, rfl, hm⟩ | ⟨ho, rfl⟩
  · have HO : Hid ((S1.stepF K M s (.free x (4 * t.wk + clN x) m)).2 = .go (.free x (4 * t.wk + clN x) m') ∧ MAt B f y w3 p (.free x (4 * t.wk + clN x) m')) := ⟨ho, hm⟩
    clear ho hm
    go_wp2_with fail
    exact bodyPost_end (v := .tuple #[]) (by simp [results, Tryd.results38, go_sem]) rfl ⟨rfl, HS.out.go hl hs HP.out HS3.out.1 HS3.out.2 HO.out.1 HO.out.2⟩
  · have HO : Hid ((S1.stepF K M s (.free x (4 * t.wk + clN x) m)).2 = .freed) := ho
    have hbx : w3.heap[b.q]? = some (.cells (scB p t sc.lk b1) 72 (0, 0)) := by
      have := HS.out.M.box3 HS3.out.2 HS.out.fb
      rw [HS.out.q] at this
      exact this
    obtain ⟨r, off, cap, e, c1, c2, c3, hc, ht⟩ := (show RowO W2 base b1.hv (x :: tl) by rw [← hs]; exact HS.out.M.hr).first
    have c10 : w3.cell? ⟨b.q, 10, none⟩ = some b1.hv := cell_of_row _ _ 10 _ _ _ hbx
    have f10 : w3.frozen? ⟨b.q, 10, none⟩ = false := frozen_of_row _ _ 10 _ _ hbx
    have c12 : w3.cell? ⟨b.q, 12, none⟩ = some (fbV b1.fb) := cell_of_row _ _ 12 _ _ _ hbx
    have f12 : w3.frozen? ⟨b.q, 12, none⟩ = false := frozen_of_row _ _ 12 _ _ hbx
    rw [HS.out.fb] at c12
    rw [e] at c10
    have HV : Hid (b.hv = .slice (some ⟨r, off, none⟩) (tl.length + 1) cap) := HS.out.hv.symm.trans e
    obtain ⟨L, hL⟩ : ∃ L, tl.length + 1 = L := ⟨_, rfl⟩
    have hL' : tl.length = L - 1 := by omega
    rw [hL] at c10 c2
    rw [hL'] at ht
    have hL1 : (0 : Int) < (L : Int) := by omega
    have hL2 : (1 : Int) ≤ (L : Int) := by omega
    have hL3 : (L : Int) ≤ (cap : Int) := by omega
    unfold maxLen at c3
    clear ho hbx e hL hL' hc
    by_cases hc1 : cap = 1
    · subst hc1
      obtain rfl : L = 1 := by omega
      rw [if_pos rfl] at ht
      simp only [Nat.sub_self] at ht
      have HT : Hid _ := ht
      clear ht
      go_wp2_with fail
      exact bodyPost_end (v := .tuple #[]) (by simp [results, Tryd.results38, go_sem]) rfl ⟨rfl, HS.out.done hl hs HP.out hO h0 HS3.out.1 HS3.out.2 HO.out HT.out (fun r' hr' => by rw [HV.out]; exact hr')⟩
    · rw [if_neg hc1] at ht
      have HT : Hid _ := ht
      clear ht
      go_wp2_with fail
      exact bodyPost_end (v := .tuple #[]) (by simp [results, Tryd.results38, go_sem]) rfl ⟨rfl, HS.out.done hl hs HP.out hO h0 HS3.out.1 HS3.out.2 HO.out HT.out (fun r' hr' => by rw [HV.out]; exact hr')⟩

end
end Go.Proofs.YtopnkfbcphbbiaaDoor
namespace Go.Proofs.YtopnkfbcphbbiaaDoor
open Go.RowKit
open H8 (okP sizeF HTab below_then packV packF isH)
open A9 (Ab ArAt ArMem FrA Ar rawA setRawA useA ptrA Ok9 MapI But SrcN Left9 isTab htab_keep upF src_one Raw_any)
open F0 (Pl5 Tn PuAt PoAt FrS noT plBox plS plS_of below_next Wk Pu Po upO)
open S1 (RowO MAt Mc FeM FeR stepF grN clN PlS)

section
variable {B : Ab} {base : Nat} {w w' w0 : World} {p : Pl5} {t : Tb} {sc : Sc} {b : Sb} {s : Ar}
theorem snF_put (l : List Int) (v : Int) : upF (snF l) v (some (.agg #[])) = snF (v :: l) := by
  funext k
  unfold upF snF
  by_cases e : k = v
  · simp [e]
  · simp [e]
theorem LkPost.put {v : Int} {n : Nat} (h : ScM B base w p t sc b ∧ ArAt B w s ∧ FrB B base w0 w) (hO : Old B base) (h0 : base ≤ w0.heap.size) (hm : MapI w' b.m (upF (snF sc.sn) v (some (.agg #[]))) n) (hB : But b.m w w') : ScM B base w' p t { sc with sn := v :: sc.sn } b ∧ ArAt B w' s ∧ FrB B base w0 w' := by
  have hmb := (h.1.lo 1 _ rfl).1
  rw [snF_put] at hm
  exact ⟨h.1.setM hB hm, ar_but h.2.1 hO (Nat.le_trans h0 h.2.2.size) hB hmb, h.2.2.trans (FrB.but hB hmb)⟩
set_option maxHeartbeats 4000000 in
set_option maxRecDepth 4000 in
theorem look_any (hA : ArAt B w s) (hM : ScM B base w p t sc b) (hO : Old B base) (h0 : base ≤ w.heap.size) (hf : sc.fr = none) (hlen : sc.lf.length + sc.hs.length ≤ 10000) (hlk : sc.lk < 2 * t.tw) (htw : t.tw ≤ 1000) (hta : t.a ≤ 100000) (hin : (t.a : Int) + (sc.lk : Int) < s.nr) :
    Calls Tryd.prog 36 #[.pointer (some ⟨b.q, 0, none⟩), ptrA B] w fun e w' => e = .returned (.tuple #[]) ∧ LkPost B base w p t (scLook t sc (s.raw (t.a + sc.lk))) b (useA s) w' := by
  have c0 : w.cell? ⟨b.q, 0, none⟩ = some (.int .i64 (t.tw : Int)) := hM.cell 0
  have c1 : w.cell? ⟨b.q, 1, none⟩ = some (.int .i64 (t.a : Int)) := hM.cell 1
  have c8 : w.cell? ⟨b.q, 8, none⟩ = some (.int .i64 (sc.lk : Int)) := hM.cell 8
  have hk0 : IntKind.i64.wrap ((sc.lk : Int) / 2) = (sc.lk : Int) / 2 := (IntWalk.i64_left _).trans (A9.wr64_id (by omega) (by omega))
  have hk1 : wrap64 (wrap64 ((t.a : Int) + wrap64 (2 * IntKind.i64.wrap ((sc.lk : Int) / 2))) + (sc.lk : Int).tmod 2) = (t.a : Int) + (sc.lk : Int) := by
    rw [hk0, Int.tmod_eq_emod_of_nonneg (by omega), A9.wr64_id (x := 2 * ((sc.lk : Int) / 2)) (by omega) (by omega), A9.wr64_id (x := (t.a : Int) + 2 * ((sc.lk : Int) / 2)) (by omega) (by omega), A9.wr64_id (by omega) (by omega)]
    omega
  clear hk0
  have HA : Hid (ArAt B w s) := hA
  have HM : Hid (ScM B base w p t sc b) := hM
  have HR : Hid (∀ wx, ArAt B wx s → Calls Tryd.prog 28 #[ptrA B, .int .i64 ((t.a : Int) + (sc.lk : Int))] wx (Left9 B wx (.int .i64 (s.raw (t.a + sc.lk))) (useA s))) := fun wx hx => by
    have k := Raw_any hx ((t.a : Int) + (sc.lk : Int))
    have e : ((t.a : Int) + (sc.lk : Int)).toNat = t.a + sc.lk := by omega
    unfold rawA at k
    rw [if_pos (show A9.inR s _ from ⟨by omega, hin⟩), e] at k
    exact k
  have HG : Hid (scLook t sc (s.raw (t.a + sc.lk)) = scLook t sc (s.raw (t.a + sc.lk)) ∧ sc.lf.length + sc.hs.length ≤ 10000) := ⟨rfl, hlen⟩
  have had : wrap64 ((sc.lk : Int) + 1) = ((sc.lk + 1 : Nat) : Int) := A9.wr64_id (by omega) (by omega)
  have HW := fun x i (hk : wrap64 (wrap64 ((t.a : Int) + wrap64 (2 * x)) + i) = (t.a : Int) + (sc.lk : Int)) wx => Word_any (t.tw : Int) (t.a : Int) x i ((t.a : Int) + (sc.lk : Int)) hk wx
  have HSK : Hid (∀ W, Below w.heap.size w W → W.cell? ⟨b.q, 0, none⟩ = some (.int .i64 (t.tw : Int)) ∧ W.cell? ⟨b.q, 1, none⟩ = some (.int .i64 (t.a : Int)) ∧ W.cell? ⟨b.q, 8, none⟩ = some (.int .i64 (sc.lk : Int))) := fun W hW => ⟨(hM.below hW).cell 0, (hM.below hW).cell 1, (hM.below hW).cell 8⟩
  clear hA hM hlen
  generalize s.raw (t.a + sc.lk) = v at *
  obtain ⟨lk, HLK⟩ : ∃ lk, Hid (lk = sc.lk) := ⟨_, rfl⟩
  obtain ⟨ta, HTA⟩ : ∃ ta, Hid (ta = t.a) := ⟨_, rfl⟩
  obtain ⟨tw, HTW⟩ : ∃ tw, Hid (tw = t.tw) := ⟨_, rfl⟩
  simp only [← HLK.out, ← HTA.out, ← HTW.out] at c0 c1 c8 hk1 HW HSK HR hlk htw hta hin had
  have KW : Hid _ := HW
  have HK : Hid _ := hk1
  clear HW hk1
  go_enter Tryd.func36, Tryd.ntmps36
  go_wp2_with fail
  go_region_held3 (fun w' => w'.cell? ⟨b.q, 0, none⟩ = some (.int .i64 (tw : Int)) ∧ w'.cell? ⟨b.q, 1, none⟩ = some (.int .i64 (ta : Int)) ∧ w'.cell? ⟨b.q, 8, none⟩ = some (.int .i64 (lk : Int))) (first | exact ⟨c0, c1, c8⟩ | exact hS1) (first
    | (go_at_call 12; refine (KW.out _ _ HK.out _).mono ?_; rintro e w1 ⟨rfl, hb1⟩; have hbB := below_then (Below.refl w.heap.size w).drew hb1; have hS1 := HSK.out _ hbB; have HB1 : Hid _ := hbB; clear hb1 hbB))
  have HM1 : Hid (ScM B base w1 p t sc b ∧ ArAt B w1 s ∧ FrB B base w w1) := ⟨HM.out.below HB1.out, HA.out.below HB1.out, FrB.below HB1.out⟩
  have c9 : w1.cell? ⟨b.q, 9, none⟩ = some (.map (some b.m)) := HM1.out.1.cell 9
  clear hS1 HSK HM HA HB1 KW HK c0 c1 c8
  go_wp2_with fail
  go_region_held3 (fun w' => w'.cell? ⟨b.q, 9, none⟩ = some (.map (some b.m))) (first | exact c9 | exact hS2 | exact hS4) (first
    | (go_at_call 28; refine (HR.out _ (HM1.out.2.1.below (Below.refl _ _).drew)).mono ?_; rintro e w2 ⟨rfl, hA2, hF2⟩; have hM2 := (HM1.out.1.below (Below.refl _ _).drew).arena hF2; have hS2 : w2.cell? ⟨b.q, 9, none⟩ = some (.map (some b.m)) := hM2.cell 9; have HM2 : Hid (ScM B base w2 p t sc b ∧ ArAt B w2 (useA s) ∧ FrB B base w w2) := ⟨hM2, hA2, (HM1.out.2.2.trans (FrB.below (Below.refl _ _).drew)).trans (FrB.arena hF2)⟩; obtain ⟨w4, hrun, hm4, hB4⟩ := hM2.mp.choose_spec.put (P := Tryd.prog) Tryd.underlying68 Tryd.underlying3 v (.agg #[]); have HM4 : Hid (ScM B base w4 p t { sc with sn := v :: sc.sn } b ∧ ArAt B w4 (useA s) ∧ FrB B base w w4) := LkPost.put HM2.out hO h0 hm4 hB4; have hS4 : w4.cell? ⟨b.q, 9, none⟩ = some (.map (some b.m)) := HM4.out.1.cell 9; clear hm4 hB4 hM2 hA2 hF2))
  have c8 : w4.cell? ⟨b.q, 8, none⟩ = some (.int .i64 (sc.lk : Int)) := HM4.out.1.cell 8
  have f8 : w4.frozen? ⟨b.q, 8, none⟩ = false := HM4.out.1.frozen 8
  rw [← HLK.out] at c8
  have hM5 : ScM B base (w4.setCell ⟨b.q, 8, none⟩ (.int .i64 ((lk : Int) + 1))) p t ⟨lk + 1, v :: sc.sn, sc.hs, sc.lf, sc.fr⟩ b := by
    have := HM4.out.1.setLk (lk + 1)
    rw [show (((lk + 1 : Nat) : Int)) = (lk : Int) + 1 by simp] at this
    exact this
  have hbq := (HM4.out.1.lo 0 _ rfl).1
  have hF5 : FrB B base w (w4.setCell ⟨b.q, 8, none⟩ (.int .i64 ((lk : Int) + 1))) := HM4.out.2.2.setCell hbq 8 _
  have hA5 : ArAt B (w4.setCell ⟨b.q, 8, none⟩ (.int .i64 ((lk : Int) + 1))) (useA s) := ar_set HM4.out.2.1 hO (Nat.le_trans h0 HM4.out.2.2.size) hbq 8 _
  have kL := looking_any hM5 (show lk + 1 ≤ 1000000 by omega)
  simp only [← HTW.out] at kL
  have HM5 : Hid (ScM B base (w4.setCell ⟨b.q, 8, none⟩ (.int .i64 ((lk : Int) + 1))) p t ⟨lk + 1, v :: sc.sn, sc.hs, sc.lf, sc.fr⟩ b ∧ ArAt B (w4.setCell ⟨b.q, 8, none⟩ (.int .i64 ((lk : Int) + 1))) (useA s) ∧ FrB B base w (w4.setCell ⟨b.q, 8, none⟩ (.int .i64 ((lk : Int) + 1)))) := ⟨hM5, hA5, hF5⟩
  clear hS2 hS4 HM2 HM1 HR c9 hM5 hA5 hF5 hbq HM4 hrun
  go_wp2_with fail
  refine kL.mono ?_
  rintro e w6 ⟨rfl, hb6⟩
  have HM6 : Hid (ScM B base w6 p t ⟨lk + 1, v :: sc.sn, sc.hs, sc.lf, sc.fr⟩ b ∧ ArAt B w6 (useA s) ∧ FrB B base w w6) := ⟨HM5.out.1.below hb6, HM5.out.2.1.below hb6, HM5.out.2.2.trans (FrB.below hb6)⟩
  clear HM5 hb6 kL
  by_cases hm : lk + 1 < 2 * tw
  · have hmd : decide (lk + 1 < 2 * tw) = true := decide_eq_true hm
    rw [hmd]
    have e : scLook t sc v = ⟨lk + 1, v :: sc.sn, sc.hs, sc.lf, sc.fr⟩ := by
      unfold scLook
      rw [← HTW.out, ← HLK.out, if_pos hm]
    have HE : Hid (scLook t sc v = ⟨lk + 1, v :: sc.sn, sc.hs, sc.lf, sc.fr⟩) := e
    clear e
    go_wp2_with fail
    exact bodyPost_end (v := .tuple #[]) (by simp [results, Tryd.results36, go_sem]) rfl ⟨rfl, by rw [HE.out]; exact ⟨HM6.out.2.1, HM6.out.2.2, b, rfl, HM6.out.1⟩⟩
  · have hmd : decide (lk + 1 < 2 * tw) = false := decide_eq_false hm
    rw [hmd]
    have e : scLook t sc v = scPart ⟨lk + 1, v :: sc.sn, sc.hs, sc.lf, sc.fr⟩ := by
      unfold scLook
      rw [← HTW.out, ← HLK.out, if_neg hm]
    have HE : Hid (scLook t sc v = scPart ⟨lk + 1, v :: sc.sn, sc.hs, sc.lf, sc.fr⟩) := e
    have kP := part_any HM6.out.2.1 HM6.out.1 hO (Nat.le_trans h0 HM6.out.2.2.size) hf HG.out.2
    clear e
    go_wp2_with fail
    refine kP.mono ?_
    rintro e w7 ⟨rfl, hP7⟩
    have HP : Hid (PtPost B base w6 p t ⟨lk + 1, v :: sc.sn, sc.hs, sc.lf, sc.fr⟩ b (useA s) w7) := hP7
    clear hP7 kP
    go_wp2_with fail
    obtain ⟨x1, x2, x3⟩ := HP.out
    exact bodyPost_end (v := .tuple #[]) (by simp [results, Tryd.results36, go_sem]) rfl ⟨rfl, by rw [HE.out]; exact ⟨x1, HM6.out.2.2.trans x2, x3⟩⟩
end
end Go.Proofs.YtopnkfbcphbbiaaDoor
