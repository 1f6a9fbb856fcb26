/-
  Helpers: EvE, EvG, EvH, EvR.
-/
import Derived.Test.YtpmapdialjdcbaaDoorBun3c2751378e6d
import Derived.Test.YtpmapdialjdcbaaDoorBun62241be7436d
namespace Go.Proofs.YtpmapdialjdcbaaDoor

def EndOk (e : En) : Prop := 1 ≤ e.h ∧ e.h ≤ 9 ∧ (e.h ≠ 1 → e.v = 0)
structure TOk (t : Ts) : Prop where
  e : (t.e.h = 0 ∧ t.e.v = 0) ∨ EndOk t.e
  hs : ∀ i, t.has.getD i false = true → EndOk (t.hand.getD i en0)
  len : t.has.length = t.hand.length
theorem getD_set {α : Type} (l : List α) (i j : Nat) (v d : α) : (l.set i v).getD j d = if i = j ∧ i < l.length then v else l.getD j d := by
  rw [List.getD_eq_getElem?_getD, List.getD_eq_getElem?_getD, List.getElem?_set]
  by_cases h : i = j
  · subst h
    by_cases h2 : i < l.length
    · simp [h2]
    · simp [h2]
  · simp [h]
theorem TOk.start (fn : Nat) (arg key : Int) (fuel : Nat) : TOk (ts0 fn arg key fuel) := by
  refine ⟨.inl ⟨rfl, rfl⟩, fun i h => ?_, rfl⟩
  exfalso
  simp only [ts0] at h
  match i, h with
  | 0, h => simp at h
  | 1, h => simp at h
  | 2, h => simp at h
  | 3, h => simp at h
  | n + 4, h => simp at h
theorem TOk.ends {t : Ts} (h : TOk t) (h0 : t.e.h = 0) {k : Int} (h1 : 1 ≤ k) (h2 : k ≤ 9) : TOk (t.ends k) := by
  have hv : t.e.v = 0 := by
    rcases h.e with h | h
    · exact h.2
    · have := h.1; omega
  exact ⟨.inr ⟨h1, h2, fun _ => hv⟩, h.hs, h.len⟩
theorem TOk.put {t : Ts} (h : TOk t) (i v : Int) : TOk (t.put i v) := ⟨h.e, h.hs, h.len⟩
theorem TOk.fork {t : Ts} (h : TOk t) (a : Int) {e : En} (he : EndOk e) : TOk (forkT t a e) := by
  refine ⟨h.e, fun i hi => ?_, by simp [forkT, h.len]⟩
  simp only [forkT] at hi ⊢
  rw [getD_set] at hi ⊢
  rw [← h.len]
  split
  · exact he
  · rename_i hn
    rw [if_neg hn] at hi
    exact h.hs i hi
theorem TOk.down {t : Ts} (h : TOk t) : TOk (down1 t) := ⟨h.e, h.hs, h.len⟩
/-- what an instruction leaves of a task -/
structure Kt (t : Ts) (q : Rs × Ts) : Prop where
  key : q.2.key = t.key
  forks : q.2.forks = t.forks
  ok : TOk q.2
theorem keepT {t : Ts} {c : Prop} [Decidable c] {a b : Rs × Ts} (ha : c → Kt t a) (hb : ¬ c → Kt t b) : Kt t (if c then a else b) := by
  by_cases h : c
  · rw [if_pos h]; exact ha h
  · rw [if_neg h]; exact hb h
theorem oneP_keeps {r : Rs} {t : Ts} (h : TOk t) (h0 : t.e.h = 0) (x : In7) : Kt t (oneP r t x) := by
  have hv : t.e.v = 0 := by
    rcases h.e with h | h
    · exact h.2
    · have := h.1; omega
  have P : ∀ (r' : Rs) (i v : Int), Kt t (r', t.put i v) := fun _ i v => ⟨rfl, rfl, h.put i v⟩
  have E : ∀ (r' : Rs) (k : Int), 1 ≤ k → k ≤ 9 → Kt t (r', t.ends k) := fun _ k h1 h2 => ⟨rfl, rfl, h.ends h0 h1 h2⟩
  have S : ∀ r', Kt t (r', t) := fun _ => ⟨rfl, rfl, h⟩
  unfold oneP
  refine keepT (fun _ => P _ _ _) fun _ => ?_
  refine keepT (fun _ => P _ _ _) fun _ => ?_
  refine keepT (fun _ => P _ _ _) fun _ => ?_
  refine keepT (fun _ => P _ _ _) fun _ => ?_
  refine keepT (fun _ => keepT (fun _ => E _ _ (by decide) (by decide)) fun _ => P _ _ _) fun _ => ?_
  refine keepT (fun _ => P _ _ _) fun _ => ?_
  refine keepT (fun _ => ⟨rfl, rfl, h.e, h.hs, h.len⟩) fun _ => ?_
  refine keepT (fun _ => ?_) fun _ => ?_
  · by_cases hz : rg t x.a = 0
    · rw [if_pos hz]; exact ⟨rfl, rfl, h.e, h.hs, h.len⟩
    · rw [if_neg hz]; exact S _
  refine keepT (fun _ => ?_) fun _ => ?_
  · by_cases hz : t.has.getD x.b.toNat false = false
    · rw [if_pos hz]; exact E _ _ (by decide) (by decide)
    · rw [if_neg hz]
      have hh : t.has.getD x.b.toNat false = true := by
        cases hc : t.has.getD x.b.toNat false with
        | true => rfl
        | false => exact absurd hc hz
      have he := h.hs _ hh
      have h1 : TOk { t with has := t.has.set x.b.toNat false } := by
        refine ⟨h.e, fun i hi => ?_, by simp [h.len]⟩
        simp only at hi ⊢
        rw [getD_set] at hi
        split at hi
        · simp at hi
        · exact h.hs i hi
      simp only
      by_cases hv1 : (t.hand.getD x.b.toNat en0).h ≠ 1
      · rw [if_pos hv1]
        exact ⟨rfl, rfl, h1.ends h0 he.1 he.2.1⟩
      · rw [if_neg hv1]
        exact ⟨rfl, rfl, h1.put _ _⟩
  refine keepT (fun _ => keepT (fun _ => E _ _ (by decide) (by decide)) fun _ => S _) fun _ => ?_
  refine keepT (fun _ => keepT (fun _ => E _ _ (by decide) (by decide)) fun _ => P _ _ _) fun _ => ?_
  refine keepT (fun _ => ?_) fun _ => ?_
  · by_cases hz : t.has.getD x.a.toNat false = false
    · rw [if_pos hz]; exact E _ _ (by decide) (by decide)
    · rw [if_neg hz]; exact S _
  refine keepT (fun _ => ⟨rfl, rfl, .inr ⟨Int.le_refl _, (by decide : (1 : Int) ≤ 9), fun hh => absurd rfl hh⟩, h.hs, h.len⟩) fun _ => S _
end Go.Proofs.YtpmapdialjdcbaaDoor
namespace Go.Proofs.YtpmapdialjdcbaaDoor
open K6 (Ky und wd ofK)

def depK (k : Int) : Int := ((ofK k).dep : Int)
def chY (k n : Int) : Int := ((ofK k).ch n).key
abbrev ev7 (p : Pg7) (most : Nat) (r : Rs) (t : Ts) : Rs × Ts := evP p most depK chY r t
def Srt (l : List Rn) : Prop := l.Pairwise fun a b => a.key < b.key
theorem mem_putR {x y : Rn} : ∀ {l : List Rn}, y ∈ putR l x ↔ y = x ∨ y ∈ l
  | [] => by simp [putR]
  | a :: l => by
    unfold putR
    split
    · simp only [List.mem_cons, mem_putR (l := l)]
      constructor
      · rintro (h | h | h)
        · exact .inr (.inl h)
        · exact .inl h
        · exact .inr (.inr h)
      · rintro (h | h | h)
        · exact .inr (.inl h)
        · exact .inl h
        · exact .inr (.inr h)
    · simp only [List.mem_cons]
theorem putR_length (x : Rn) : ∀ l : List Rn, (putR l x).length = l.length + 1
  | [] => rfl
  | a :: l => by
    unfold putR
    split
    · simp [putR_length x l]
    · simp
theorem putR_srt {x : Rn} : ∀ {l : List Rn}, Srt l → (∀ a ∈ l, a.key ≠ x.key) → Srt (putR l x)
  | [], _, _ => by simp [putR, Srt]
  | a :: l, h, hn => by
    have h2 := List.pairwise_cons.1 h
    unfold putR
    split
    · rename_i hlt
      refine List.pairwise_cons.2 ⟨fun y hy => ?_, putR_srt h2.2 fun b hb => hn b (by simp [hb])⟩
      rcases mem_putR.1 hy with rfl | hy
      · exact hlt
      · exact h2.1 y hy
    · rename_i hge
      have hax := hn a (by simp)
      refine List.pairwise_cons.2 ⟨fun y hy => ?_, h⟩
      simp only [List.mem_cons] at hy
      rcases hy with rfl | hy
      · omega
      · have := h2.1 y hy; omega
/-- from where on a task's forks to come have their keys -/
def thr (tk : Ky) (f : Nat) : Int := tk.key + ((f : Int) + 1) * wd (tk.dep + 1)
def NewR (tk : Ky) (f : Nat) (L : List Rn) (x : Rn) : Prop := ∃ xk : Ky, xk.Ok ∧ x.key = xk.key ∧ 0 < xk.dep ∧ und xk tk ∧ thr tk f ≤ xk.key ∧ EndOk x.e ∧ (xk.par = tk ∨ ∃ y ∈ L, y.key = xk.par.key)
structure Gr (tk : Ky) (f : Nat) (r q : Rs) : Prop where
  old : ∀ x ∈ r.ran, x ∈ q.ran
  new : ∀ x ∈ q.ran, x ∈ r.ran ∨ NewR tk f q.ran x
  len : q.ran.length + r.forks = r.ran.length + q.forks
  srt : Srt q.ran
theorem Gr.refl {tk : Ky} {f : Nat} {r : Rs} (h : Srt r.ran) : Gr tk f r r := ⟨fun _ h => h, fun _ h => .inl h, rfl, h⟩
def Frs (tk : Ky) (f : Nat) (r : Rs) : Prop := ∀ x ∈ r.ran, x.key < thr tk f ∨ tk.rank ≤ x.key
theorem thr_mono (tk : Ky) (f : Nat) : thr tk f ≤ thr tk (f + 1) := by
  have := K6.wd_pos (tk.dep + 1)
  unfold thr
  have e : (((f + 1 : Nat) : Int) + 1) * wd (tk.dep + 1) = ((f : Int) + 1) * wd (tk.dep + 1) + wd (tk.dep + 1) := by
    rw [show (((f + 1 : Nat) : Int) + 1) = ((f : Int) + 1) + 1 by omega, Int.add_mul ((f : Int) + 1) 1, Int.one_mul]
  omega
/-- a fork's task -/
theorem kid_facts {tk : Ky} (h : tk.Ok) {f : Nat} (hd : tk.dep < 5) (hf : f < 1000) : ∃ kk : Ky, kk.Ok ∧ kk = tk.ch ((f : Int) + 1) ∧ kk.key = thr tk f ∧ kk.rank = thr tk (f + 1) ∧ kk.par = tk ∧ 0 < kk.dep ∧ kk.dep = tk.dep + 1 ∧ und kk tk := by
  obtain ⟨c1, c2, c3, c4, c5⟩ := K6.ch_facts h (n := (f : Int) + 1) hd (by omega) (by omega)
  refine ⟨_, c1, rfl, c3, ?_, c4, by omega, c2, K6.und_ch h hd (by omega) (by omega)⟩
  unfold Ky.rank thr
  rw [c3, c2, show (((f + 1 : Nat) : Int) + 1) = ((f : Int) + 1) + 1 by omega, Int.add_mul ((f : Int) + 1) 1, Int.one_mul]
  omega
end Go.Proofs.YtpmapdialjdcbaaDoor
namespace Go.Proofs.YtpmapdialjdcbaaDoor
open K6 (Ky und wd ofK)

theorem ways7 {p : Pg7} {M : Nat} {r : Rs} {t : Ts} (h : goesB M r t) (hT : TOk t) :
    (∃ r' t', r'.steps = r.steps + 1 ∧ r'.ran = r.ran ∧ r'.forks = r.forks ∧ t'.key = t.key ∧ t'.forks = t.forks ∧ TOk t' ∧ ev7 p M r t = ev7 p M r' t') ∨
    (depK t.key < p.depth ∧ t.forks < 1000 ∧ ev7 p M r t = ev7 p M (told (ev7 p M (forkR (up1 r)) (kidT p chY t)).1 (ins7 p t).b (rg t (ins7 p t).c) (kidK chY t) (ev7 p M (forkR (up1 r)) (kidT p chY t)).2.e) (forkT (down1 t) (ins7 p t).a (ev7 p M (forkR (up1 r)) (kidT p chY t)).2.e)) := by
  have h0 := h.1
  by_cases h9 : (ins7 p t).o = 9
  · by_cases hd : p.depth ≤ depK t.key
    · refine .inl ⟨up1 r, (down1 t).ends 6, rfl, rfl, rfl, rfl, rfl, hT.down.ends h0 (by decide) (by decide), ?_⟩
      unfold ev7
      rw [evP_step p M depK chY h]; unfold bodyP; rw [if_pos h9, if_pos hd]
    · by_cases hf : 1000 ≤ t.forks
      · refine .inl ⟨up1 r, (down1 t).ends 9, rfl, rfl, rfl, rfl, rfl, hT.down.ends h0 (by decide) (by decide), ?_⟩
        unfold ev7
        rw [evP_step p M depK chY h]; unfold bodyP; rw [if_pos h9, if_neg hd, if_pos hf]
      · refine .inr ⟨by omega, by omega, ?_⟩
        unfold ev7
        rw [evP_step p M depK chY h]
        unfold bodyP
        rw [if_pos h9, if_neg hd, if_neg hf]
        rfl
  · obtain ⟨s1, s2, s3, s4⟩ := oneP_steps (up1 r) (down1 t) (ins7 p t)
    have hk := oneP_keeps (r := up1 r) hT.down h0 (ins7 p t)
    refine .inl ⟨_, _, s1, s3, s4, hk.key, hk.forks, hk.ok, ?_⟩
    unfold ev7
    rw [evP_step p M depK chY h]; unfold bodyP; rw [if_neg h9]
theorem told_ran {r : Rs} (h : r.over = false) (fn arg key : Int) (e : En) : (told r fn arg key e).ran = putR r.ran ⟨key, fn, wrp arg, e⟩ ∧ (told r fn arg key e).forks = r.forks ∧ (told r fn arg key e).over = false := by
  unfold told
  rw [if_neg (by simp [h])]
  exact ⟨rfl, rfl, h⟩
def GrPost (tk : Ky) (t : Ts) (r : Rs) (q : Rs × Ts) : Prop := Gr tk t.forks r q.1 ∧ EndOk q.2.e
theorem grow {p : Pg7} (hp : p.depth ≤ 5) (M : Nat) : ∀ (n : Nat) (r : Rs) (t : Ts) (tk : Ky), M - r.steps ≤ n → tk.Ok → t.key = tk.key → TOk t → Srt r.ran → Frs tk t.forks r → r.over = false → (ev7 p M r t).1.over = false → GrPost tk t r (ev7 p M r t) := by
  intro n
  induction n with
  | zero =>
    intro r t tk hn hk he hT hs hF hr ho
    rcases goes_or M r t with h | ⟨h1, h2, h3⟩ | ⟨h1, h2, h3, h4⟩ | h
    · rw [ev7, evP_end p M depK chY h]
      refine ⟨Gr.refl hs, ?_⟩
      rcases hT.e with h5 | h5
      · rcases h with h | h
        · exact absurd h5.1 h
        · rw [hr] at h; simp at h
      · exact h5
    · rw [ev7, evP_fuel p M depK chY h1 h2 h3]
      refine ⟨Gr.refl hs, ?_⟩
      rcases (hT.ends h1 (k := 5) (by decide) (by decide)).e with h5 | h5
      · exact absurd h5.1 (by simp [Ts.ends])
      · exact h5
    · rw [ev7, evP_over p M depK chY h1 h2 h3 h4] at ho
      simp at ho
    · have := h.2.2.2
      omega
  | succ n ih =>
    intro r t tk hn hk he hT hs hF hr ho
    rcases goes_or M r t with h | ⟨h1, h2, h3⟩ | ⟨h1, h2, h3, h4⟩ | h
    · rw [ev7, evP_end p M depK chY h]
      refine ⟨Gr.refl hs, ?_⟩
      rcases hT.e with h5 | h5
      · rcases h with h | h
        · exact absurd h5.1 h
        · rw [hr] at h; simp at h
      · exact h5
    · rw [ev7, evP_fuel p M depK chY h1 h2 h3]
      refine ⟨Gr.refl hs, ?_⟩
      rcases (hT.ends h1 (k := 5) (by decide) (by decide)).e with h5 | h5
      · exact absurd h5.1 (by simp [Ts.ends])
      · exact h5
    · rw [ev7, evP_over p M depK chY h1 h2 h3 h4] at ho
      simp at ho
    · have hst := h.2.2.2
      rcases ways7 (p := p) h hT with ⟨r', t', k1, k2, k3, k4, k5, k6, k7⟩ | ⟨hd, hf, kM⟩
      · rw [k7] at ho ⊢
        have hr' : r'.over = false := by
          cases hh : r'.over with
          | false => rfl
          | true => rw [over_stays p depK chY M t' hh] at ho; simp at ho
        have hg := ih r' t' tk (by omega) hk (k4.trans he) k6 (by rw [k2]; exact hs) (by unfold Frs; rw [k2, k5]; exact hF) hr' ho
        obtain ⟨g1, g2⟩ := hg
        rw [k5] at g1
        exact ⟨⟨fun x hx => g1.old x (by rw [k2]; exact hx), fun x hx => by have := g1.new x hx; rw [k2] at this; exact this, by have := g1.len; rw [k2, k3] at this; exact this, g1.srt⟩, g2⟩
      · have hdep : tk.dep < 5 := by
          unfold depK at hd
          rw [he, K6.of_key hk] at hd
          omega
        obtain ⟨kk, q1, q2, q3, q4, q5, q6, q7, q8⟩ := kid_facts hk (f := t.forks) hdep hf
        have hkk : kidK chY t = kk.key := by
          unfold kidK chY
          rw [he, K6.of_key hk, q2]
        have hkt : (kidT p chY t).key = kk.key := hkk
        have hkf : (kidT p chY t).forks = 0 := rfl
        have hc : (ev7 p M (forkR (up1 r)) (kidT p chY t)).1.over = false := by
          cases hh : (ev7 p M (forkR (up1 r)) (kidT p chY t)).1.over with
          | false => rfl
          | true =>
            rw [kM, ev7, over_stays p depK chY M _ ((told_steps _ _ _ _ _).2.trans hh)] at ho
            simp at ho
        have hrank := K6.und_rank q1 hk q8
        have hw := K6.wd_pos (kk.dep + 1)
        have hkey0 : kk.key < thr kk 0 := by unfold thr; simp only [Int.natCast_zero, Int.zero_add, Int.one_mul]; omega
        have hF1 : Frs kk 0 (forkR (up1 r)) := fun x hx => by
          rcases hF x hx with h | h
          · exact .inl (by omega)
          · exact .inr (by omega)
        have hg1 := ih (forkR (up1 r)) (kidT p chY t) kk (by show M - (r.steps + 1) ≤ n; omega) q1 hkt (TOk.start _ _ _ _) hs (by rw [hkf]; exact hF1) hr hc
        rw [GrPost, hkf] at hg1
        obtain ⟨g1, g2⟩ := hg1
        have m2 : r.steps + 1 ≤ (ev7 p M (forkR (up1 r)) (kidT p chY t)).1.steps := evP_mono p M depK chY (forkR (up1 r)) (kidT p chY t)
        have hsf : (forkR (up1 r)).steps = r.steps + 1 := rfl
        have hff : (forkR (up1 r)).forks = r.forks + 1 := rfl
        have hfr : (forkR (up1 r)).ran = r.ran := rfl
        generalize hC : ev7 p M (forkR (up1 r)) (kidT p chY t) = c at *
        obtain ⟨t1, t2, t3⟩ := told_ran hc (ins7 p t).b (rg t (ins7 p t).c) (kidK chY t) c.2.e
        rw [hkk] at kM t1 t2 t3
        generalize hR3 : told c.1 (ins7 p t).b (rg t (ins7 p t).c) kk.key c.2.e = r3 at *
        have m3 : r3.steps = c.1.steps := by rw [← hR3]; exact (told_steps _ _ _ _ _).1
        have hnk : ∀ a ∈ c.1.ran, a.key ≠ kk.key := fun a ha e => by
          rcases g1.new a ha with h | ⟨xk, -, e1, -, -, e2, -, -⟩
          · rw [hfr] at h
            have := hF a h
            have := K6.wd_pos kk.dep
            unfold Ky.rank at hrank this
            rcases hF a h with h | h
            · omega
            · unfold Ky.rank at h; omega
          · omega
        have hs3 : Srt r3.ran := by rw [t1]; exact putR_srt g1.srt hnk
        have hF3 : Frs tk (t.forks + 1) r3 := fun x hx => by
          rw [t1] at hx
          have hm := thr_mono tk t.forks
          have hwk := K6.wd_pos kk.dep
          rcases mem_putR.1 hx with rfl | hx
          · refine .inl ?_
            show kk.key < _
            rw [← q4]
            unfold Ky.rank
            omega
          · rcases g1.new x hx with h | ⟨xk, x1, e1, x2, x3, e2, -, -⟩
            · rw [hfr] at h
              rcases hF x h with h | h
              · exact .inl (by omega)
              · exact .inr h
            · refine .inl ?_
              have := x3.2
              rw [← q4]
              unfold Ky.rank
              omega
        rw [kM] at ho ⊢
        have hg2 := ih r3 (forkT (down1 t) (ins7 p t).a c.2.e) tk (by omega) hk he (hT.down.fork _ g2) hs3 hF3 t3 ho
        obtain ⟨h1, h2⟩ := hg2
        have hfk : (forkT (down1 t) (ins7 p t).a c.2.e).forks = t.forks + 1 := rfl
        rw [hfk] at h1
        refine ⟨⟨fun x hx => h1.old x (by rw [t1]; exact mem_putR.2 (.inr (g1.old x hx))), fun x hx => ?_, ?_, h1.srt⟩, h2⟩
        · have hm := thr_mono tk t.forks
          rcases h1.new x hx with h | ⟨xk, y1, y2, y3, y4, y5, y6, y7⟩
          · rw [t1] at h
            rcases mem_putR.1 h with rfl | h
            · exact .inr ⟨kk, q1, rfl, q6, q8, by omega, g2, .inl q5⟩
            · rcases g1.new x h with h | ⟨xk, y1, y2, y3, y4, y5, y6, y7⟩
              · exact .inl h
              · refine .inr ⟨xk, y1, y2, y3, K6.und_trans q1 hk y4 q8, by omega, y6, .inr ?_⟩
                rcases y7 with y7 | ⟨y, hy, e⟩
                · exact ⟨⟨kk.key, (ins7 p t).b, wrp (rg t (ins7 p t).c), c.2.e⟩, h1.old _ (by rw [t1]; exact mem_putR.2 (.inl rfl)), by rw [y7]⟩
                · exact ⟨y, h1.old _ (by rw [t1]; exact mem_putR.2 (.inr hy)), e⟩
          · exact .inr ⟨xk, y1, y2, y3, y4, by omega, y6, y7⟩
        · have l1 := h1.len
          have l2 := g1.len
          rw [t1, t2, putR_length] at l1
          rw [hff, hfr] at l2
          omega
end Go.Proofs.YtpmapdialjdcbaaDoor
namespace Go.Proofs.YtpmapdialjdcbaaDoor
open K6 (Ky und wd ofK)

def rs0 (p : Pg7) : Rs := ⟨[], List.replicate p.futs.toNat 0, List.replicate p.futs.toNat false, 0, 0, false⟩
def root7 (p : Pg7) (arg : Int) : Ts := ts0 0 arg 1125899906842624 p.fuel.toNat
theorem putR_first {x : Rn} {l : List Rn} (h : ∀ a ∈ l, x.key < a.key) : putR l x = x :: l := by
  cases l with
  | nil => rfl
  | cons a l =>
    unfold putR
    rw [if_neg (by have := h a (by simp); omega)]
/-- what ran, of a run that is not over -/
structure RunOk (arg : Int) (q : Rs × Ts) (L : List Rn) : Prop where
  eq : L = ⟨1125899906842624, 0, wrp arg, q.2.e⟩ :: q.1.ran
  srt : Srt L
  ends : ∀ x ∈ L, EndOk x.e
  up : ∀ x ∈ L, x.key = 1125899906842624 ∨ ∃ xk : Ky, xk.Ok ∧ x.key = xk.key ∧ 0 < xk.dep ∧ ∃ y ∈ L, y.key = xk.par.key
  len : L.length = q.1.forks + 1
theorem run_ok {p : Pg7} (hp : p.depth ≤ 5) (M : Nat) (arg : Int) (ho : (ev7 p M (rs0 p) (root7 p arg)).1.over = false) : RunOk arg (ev7 p M (rs0 p) (root7 p arg)) (putR (ev7 p M (rs0 p) (root7 p arg)).1.ran ⟨1125899906842624, 0, wrp arg, (ev7 p M (rs0 p) (root7 p arg)).2.e⟩) := by
  have hg := grow hp M M (rs0 p) (root7 p arg) K6.root (by omega) K6.root_ok rfl (TOk.start _ _ _ _) List.Pairwise.nil (fun x hx => by simp [rs0] at hx) rfl ho
  obtain ⟨g1, g2⟩ := hg
  generalize ev7 p M (rs0 p) (root7 p arg) = q at *
  have hnew : ∀ x ∈ q.1.ran, NewR K6.root 0 q.1.ran x := fun x hx => by
    rcases g1.new x hx with h | h
    · simp [rs0] at h
    · exact h
  have hlt : ∀ x ∈ q.1.ran, (1125899906842624 : Int) < x.key := fun x hx => by
    obtain ⟨xk, -, e, -, hu, -, -, -⟩ := hnew x hx
    have := hu.1
    rw [K6.key_root] at this
    omega
  have e : putR q.1.ran ⟨1125899906842624, 0, wrp arg, q.2.e⟩ = ⟨1125899906842624, 0, wrp arg, q.2.e⟩ :: q.1.ran := putR_first hlt
  rw [e]
  refine ⟨rfl, List.pairwise_cons.2 ⟨hlt, g1.srt⟩, fun x hx => ?_, fun x hx => ?_, ?_⟩
  · simp only [List.mem_cons] at hx
    rcases hx with rfl | hx
    · exact g2
    · obtain ⟨_, _, _, _, _, _, h, _⟩ := hnew x hx
      exact h
  · simp only [List.mem_cons] at hx
    rcases hx with rfl | hx
    · exact .inl rfl
    · obtain ⟨xk, h1, h2, h3, h4, h5, h6, h7⟩ := hnew x hx
      refine .inr ⟨xk, h1, h2, h3, ?_⟩
      rcases h7 with h7 | ⟨y, hy, e⟩
      · exact ⟨⟨1125899906842624, 0, wrp arg, q.2.e⟩, by simp, by rw [h7]; rfl⟩
      · exact ⟨y, by simp [hy], e⟩
  · have := g1.len
    simp only [rs0, List.length_nil] at this
    simp only [List.length_cons]
    omega
/-- of two that stand by key the one with the lesser key stands ahead -/
theorem srt_at {l : List Rn} (h : Srt l) {i j : Nat} (hi : i < l.length) (hj : j < l.length) : l[i].key < l[j].key ↔ i < j := by
  have hp := List.pairwise_iff_getElem.1 h
  constructor
  · intro hlt
    by_cases e : i < j
    · exact e
    · by_cases e2 : i = j
      · subst e2; omega
      · have := hp j i hj hi (by omega)
        omega
  · exact hp i j hi hj
theorem run_steps {p : Pg7} (hf : 1 ≤ p.fuel) (M : Nat) (arg : Int) (ho : (ev7 p M (rs0 p) (root7 p arg)).1.over = false) : 1 ≤ (ev7 p M (rs0 p) (root7 p arg)).1.steps := by
  have hfu : (root7 p arg).fuel ≠ 0 := by show p.fuel.toNat ≠ 0; omega
  rcases goes_or M (rs0 p) (root7 p arg) with h | ⟨h1, h2, h3⟩ | ⟨h1, h2, h3, h4⟩ | h
  · rcases h with h | h
    · exact absurd rfl h
    · simp [rs0] at h
  · exact absurd h3 hfu
  · rw [ev7, evP_over p M depK chY h1 h2 h3 h4] at ho
    simp at ho
  · rcases ways7 (p := p) h (TOk.start _ _ _ _) with ⟨r', t', k1, -, -, -, -, -, k7⟩ | ⟨-, -, kM⟩
    · rw [k7]
      have := evP_mono p M depK chY r' t'
      have e : (rs0 p).steps = 0 := rfl
      show 1 ≤ (evP p M depK chY r' t').1.steps
      omega
    · rw [kM]
      have m1 := evP_mono p M depK chY (forkR (up1 (rs0 p))) (kidT p chY (root7 p arg))
      have e : (forkR (up1 (rs0 p))).steps = 1 := rfl
      refine Nat.le_trans ?_ (evP_mono p M depK chY _ _)
      rw [(told_steps _ _ _ _ _).1]
      show 1 ≤ (evP p M depK chY _ _).1.steps
      omega
end Go.Proofs.YtpmapdialjdcbaaDoor
