/-
  Helpers: C2Data, EvP, EvQ, EvC, EvE, EvG, EvH, EvR, EvT, EvF.
-/
import Derived.Test.YtpmapdialjdcbaaDoorBunba0760181c46
import Derived.Test.YtpmapdialjdcbaaDoorBunf7d7f948a43b
import Derived.WalkKit
import Derived.Test.YtpmapdialjdcbaaDoorBun89a53b487313
namespace Go.Proofs.YtpmapdialjdcbaaDoor.C2
open Go.RowKit

/-- an instruction -/
structure In where
  o : Int
  a : Int
  b : Int
  c : Int
/-- a program -/
structure Pr where
  fs : List (List In)
  futs : Int
  depth : Int
  fuel : Int
def insV (i : In) : Value := .agg #[.int .i64 i.o, .int .i64 i.a, .int .i64 i.b, .int .i64 i.c]
/-- an instruction's four cells -/
structure InsAt (w : World) (g f : Nat) (i : In) : Prop where
  c0 : w.cell? ⟨g, f, none⟩ = some (.int .i64 i.o)
  c1 : w.cell? ⟨g, f + 1, none⟩ = some (.int .i64 i.a)
  c2 : w.cell? ⟨g, f + 2, none⟩ = some (.int .i64 i.b)
  c3 : w.cell? ⟨g, f + 3, none⟩ = some (.int .i64 i.c)
/-- a slice of instructions -/
def SlI (w : World) (v : Value) (xs : List In) : Prop :=
  ∃ ad cap, v = .slice ad xs.length cap ∧ ∀ k (h : k < xs.length), ∃ g f, ad = some ⟨g, f, none⟩ ∧ InsAt w g (f + k * 4) xs[k]
/-- a slice of functions -/
def SlF (w : World) (v : Value) (fs : List (List In)) : Prop :=
  ∃ ad cap, v = .slice ad fs.length cap ∧ ∀ k (h : k < fs.length), ∃ g f u, ad = some ⟨g, f, none⟩ ∧ w.cell? ⟨g, f + k, none⟩ = some u ∧ SlI w u fs[k]
/-- whatever cell there is stays as it is -/
def Still (w w' : World) : Prop := ∀ a v, w.cell? a = some v → w'.cell? a = some v
theorem still_of_below {w w' : World} (h : Below w.heap.size w w') : Still w w' := fun a v hv => by rw [h.cell (block_lt_of_cell hv)]; exact hv
theorem InsAt.still {w w' : World} {g f : Nat} {i : In} (h : InsAt w g f i) (hs : Still w w') : InsAt w' g f i := ⟨hs _ _ h.c0, hs _ _ h.c1, hs _ _ h.c2, hs _ _ h.c3⟩
theorem SlI.still {w w' : World} {v : Value} {xs : List In} (h : SlI w v xs) (hs : Still w w') : SlI w' v xs := by
  obtain ⟨ad, cap, hv, hx⟩ := h
  refine ⟨ad, cap, hv, fun k hk => ?_⟩
  obtain ⟨g, f, h1, h2⟩ := hx k hk
  exact ⟨g, f, h1, h2.still hs⟩
theorem SlF.still {w w' : World} {v : Value} {fs : List (List In)} (h : SlF w v fs) (hs : Still w w') : SlF w' v fs := by
  obtain ⟨ad, cap, hv, hx⟩ := h
  refine ⟨ad, cap, hv, fun k hk => ?_⟩
  obtain ⟨g, f, u, h1, h2, h3⟩ := hx k hk
  exact ⟨g, f, u, h1, hs _ _ h2, h3.still hs⟩
theorem still_alloc (w : World) (o : Obj) : Still w (w.alloc o) := still_of_below ((Below.refl _ _).alloc (Nat.le_refl _) _)
def proV (fv : Value) (futs depth fuel : Int) : Value := .agg #[fv, .int .i64 futs, .int .i64 depth, .int .i64 fuel]

def bigB (fs : List (List In)) : Bool := decide (12 < fs.length) || fs.any fun f => decide (40 < f.length)
def shapeI (i : In) : Bool := shapeB i.o i.a i.b i.c
def soundB (p : Pr) : Bool := (p.fs.all fun f => f.all shapeI) && (inB p.futs 0 16 && inB p.depth 0 5 && inB p.fuel 1 500)
theorem big_at {fs : List (List In)} {k : Nat} (h : k < fs.length) (h2 : 40 < fs[k].length) : bigB fs = true := by
  have : (fs.any fun f => decide (40 < f.length)) = true := List.any_eq_true.2 ⟨fs[k], List.getElem_mem h, by simpa using h2⟩
  simp [bigB, this]
theorem big_not {fs : List (List In)} (h1 : ¬ 12 < fs.length) (h2 : ∀ k (h : k < fs.length), ¬ 40 < fs[k].length) : bigB fs = false := by
  have : (fs.any fun f => decide (40 < f.length)) = false := by
    rw [List.any_eq_false]
    intro f hf
    obtain ⟨k, hk, rfl⟩ := List.getElem_of_mem hf
    simpa using h2 k hk
  simp [bigB, this]
  omega
end Go.Proofs.YtpmapdialjdcbaaDoor.C2
namespace Go.Proofs.YtpmapdialjdcbaaDoor

abbrev In7 := C2.In
abbrev Pg7 := C2.Pr
structure En where
  h : Int
  v : Int
structure Rn where
  key : Int
  fn : Int
  arg : Int
  e : En
structure Rs where
  ran : List Rn
  futs : List Int
  was : List Bool
  steps : Nat
  forks : Nat
  over : Bool
structure Ts where
  reg : List Int
  has : List Bool
  hand : List En
  fn : Nat
  at_ : Nat
  fuel : Nat
  forks : Nat
  key : Int
  e : En
def en0 : En := ⟨0, 0⟩
def wrp (x : Int) : Int := (x + 2147483648) % 4294967296 - 2147483648
def ts0 (fn : Nat) (arg : Int) (key : Int) (fuel : Nat) : Ts := ⟨[wrp arg, 0, 0, 0, 0, 0, 0, 0], [false, false, false, false], [en0, en0, en0, en0], fn, 0, fuel, 0, key, en0⟩
/-- by key -/
def putR : List Rn → Rn → List Rn
  | [], x => [x]
  | a :: l, x => if a.key < x.key then a :: putR l x else x :: a :: l
def rg (t : Ts) (i : Int) : Int := t.reg.getD i.toNat 0
def Ts.put (t : Ts) (i v : Int) : Ts := { t with reg := t.reg.set i.toNat v }
def Ts.ends (t : Ts) (h : Int) : Ts := { t with e := ⟨h, t.e.v⟩ }
def lessI (x y : Int) : Int := if x < y then 1 else 0
/-- an instruction that is no fork -/
def oneP (r : Rs) (t : Ts) (x : In7) : Rs × Ts :=
  if x.o = 1 then (r, t.put x.a x.b)
  else if x.o = 2 then (r, t.put x.a (wrp (rg t x.b + rg t x.c)))
  else if x.o = 3 then (r, t.put x.a (wrp (rg t x.b - rg t x.c)))
  else if x.o = 4 then (r, t.put x.a (wrp (rg t x.b * rg t x.c)))
  else if x.o = 5 then (if rg t x.c = 0 then (r, t.ends 2) else (r, t.put x.a (wrp ((rg t x.b).tdiv (rg t x.c)))))
  else if x.o = 6 then (r, t.put x.a (lessI (rg t x.b) (rg t x.c)))
  else if x.o = 7 then (r, { t with at_ := x.a.toNat })
  else if x.o = 8 then (r, if rg t x.a = 0 then { t with at_ := x.b.toNat } else t)
  else if x.o = 10 then (r, if t.has.getD x.b.toNat false = false then t.ends 7 else
    let e := t.hand.getD x.b.toNat en0
    let t1 : Ts := { t with has := t.has.set x.b.toNat false }
    if e.h ≠ 1 then t1.ends e.h else t1.put x.a e.v)
  else if x.o = 11 then (if r.was.getD x.a.toNat false = true then (r, t.ends 3) else ({ r with was := r.was.set x.a.toNat true, futs := r.futs.set x.a.toNat (rg t x.b) }, t))
  else if x.o = 12 then (if r.was.getD x.b.toNat false = false then (r, t.ends 4) else (r, t.put x.a (r.futs.getD x.b.toNat 0)))
  else if x.o = 13 then (r, if t.has.getD x.a.toNat false = false then t.ends 7 else t)
  else if x.o = 15 then (r, { t with e := ⟨1, rg t x.a⟩ })
  else (r, t)
section
variable (p : Pg7) (most : Nat) (depth : Int → Int) (child : Int → Int → Int)
def ins7 (t : Ts) : In7 := (p.fs.getD t.fn []).getD t.at_ ⟨0, 0, 0, 0⟩
/-- a task told as one that ran -/
def told (r : Rs) (fn : Int) (arg key : Int) (e : En) : Rs := if r.over = true then r else { r with ran := putR r.ran ⟨key, fn, wrp arg, e⟩ }
def loopP : Nat → Rs → Ts → Rs × Ts
  | n, r, t => if t.e.h ≠ 0 ∨ r.over = true then (r, t) else if t.fuel = 0 then (r, t.ends 5) else if most ≤ r.steps then ({ r with over := true }, t) else
    match n with
    | 0 => ({ r with over := true }, t)
    | n + 1 =>
      let r1 : Rs := { r with steps := r.steps + 1 }
      let x := ins7 p t
      let t1 : Ts := { t with fuel := t.fuel - 1, at_ := t.at_ + 1 }
      if x.o = 9 then
        if p.depth ≤ depth t.key then loopP n r1 (t1.ends 6)
        else if 1000 ≤ t.forks then loopP n r1 (t1.ends 9)
        else
          let k := child t.key (t.forks + 1)
          let q := loopP n { r1 with forks := r1.forks + 1 } (ts0 x.b.toNat (rg t x.c) k p.fuel.toNat)
          loopP n (told q.1 x.b (rg t x.c) k q.2.e) { t1 with forks := t.forks + 1, has := t.has.set x.a.toNat true, hand := t.hand.set x.a.toNat q.2.e }
      else
        let q := oneP r1 t1 x
        loopP n q.1 q.2
/-- how the root ended, and what was seen -/
def runP (arg : Int) : Rs × En :=
  let q := loopP p most depth child most ⟨[], List.replicate p.futs.toNat 0, List.replicate p.futs.toNat false, 0, 0, false⟩ (ts0 0 arg 1125899906842624 p.fuel.toNat)
  if q.1.over = true then (⟨[], [], [], 0, 0, true⟩, en0) else (told q.1 0 arg 1125899906842624 q.2.e, q.2.e)
end
end Go.Proofs.YtpmapdialjdcbaaDoor
namespace Go.Proofs.YtpmapdialjdcbaaDoor

def KpR (r : Rs) (q : Rs × Ts) : Prop := q.1.steps = r.steps ∧ q.1.over = r.over ∧ q.1.ran = r.ran ∧ q.1.forks = r.forks
theorem keep {r : Rs} {c : Prop} [Decidable c] {a b : Rs × Ts} (ha : KpR r a) (hb : KpR r b) : KpR r (if c then a else b) := by
  by_cases h : c
  · rw [if_pos h]; exact ha
  · rw [if_neg h]; exact hb
theorem oneP_steps (r : Rs) (t : Ts) (x : In7) : (oneP r t x).1.steps = r.steps ∧ (oneP r t x).1.over = r.over ∧ (oneP r t x).1.ran = r.ran ∧ (oneP r t x).1.forks = r.forks := by
  show KpR r (oneP r t x)
  unfold oneP
  repeat' (first | exact ⟨rfl, rfl, rfl, rfl⟩ | refine keep ?_ ?_)
theorem told_steps (r : Rs) (fn arg key : Int) (e : En) : (told r fn arg key e).steps = r.steps ∧ (told r fn arg key e).over = r.over := by
  unfold told
  split <;> exact ⟨rfl, rfl⟩
section
variable (p : Pg7) (most : Nat) (depth : Int → Int) (child : Int → Int → Int)
/-- a task that goes on -/
def goesB (r : Rs) (t : Ts) : Prop := t.e.h = 0 ∧ r.over = false ∧ t.fuel ≠ 0 ∧ r.steps < most
theorem loopP_end {n : Nat} {r : Rs} {t : Ts} (h : t.e.h ≠ 0 ∨ r.over = true) : loopP p most depth child n r t = (r, t) := by
  unfold loopP
  rw [if_pos h]
theorem loopP_fuel {n : Nat} {r : Rs} {t : Ts} (h1 : t.e.h = 0) (h2 : r.over = false) (h3 : t.fuel = 0) : loopP p most depth child n r t = (r, t.ends 5) := by
  unfold loopP
  rw [if_neg (by simp [h1, h2]), if_pos h3]
theorem loopP_over {n : Nat} {r : Rs} {t : Ts} (h1 : t.e.h = 0) (h2 : r.over = false) (h3 : t.fuel ≠ 0) (h4 : most ≤ r.steps) : loopP p most depth child n r t = ({ r with over := true }, t) := by
  unfold loopP
  rw [if_neg (by simp [h1, h2]), if_neg h3, if_pos h4]
/-- one instruction more -/
def up1 (r : Rs) : Rs := { r with steps := r.steps + 1 }
def down1 (t : Ts) : Ts := { t with fuel := t.fuel - 1, at_ := t.at_ + 1 }
def forkR (r : Rs) : Rs := { r with forks := r.forks + 1 }
def forkT (t : Ts) (a : Int) (e : En) : Ts := { t with forks := t.forks + 1, has := t.has.set a.toNat true, hand := t.hand.set a.toNat e }
def bodyP (L : Rs → Ts → Rs × Ts) (r : Rs) (t : Ts) : Rs × Ts :=
  if (ins7 p t).o = 9 then
    if p.depth ≤ depth t.key then L (up1 r) ((down1 t).ends 6)
    else if 1000 ≤ t.forks then L (up1 r) ((down1 t).ends 9)
    else L (told (L (forkR (up1 r)) (ts0 (ins7 p t).b.toNat (rg t (ins7 p t).c) (child t.key (t.forks + 1)) p.fuel.toNat)).1 (ins7 p t).b (rg t (ins7 p t).c) (child t.key (t.forks + 1)) (L (forkR (up1 r)) (ts0 (ins7 p t).b.toNat (rg t (ins7 p t).c) (child t.key (t.forks + 1)) p.fuel.toNat)).2.e) (forkT (down1 t) (ins7 p t).a (L (forkR (up1 r)) (ts0 (ins7 p t).b.toNat (rg t (ins7 p t).c) (child t.key (t.forks + 1)) p.fuel.toNat)).2.e)
  else L (oneP (up1 r) (down1 t) (ins7 p t)).1 (oneP (up1 r) (down1 t) (ins7 p t)).2
theorem loopP_step {n : Nat} {r : Rs} {t : Ts} (h : goesB most r t) : loopP p most depth child (n + 1) r t = bodyP p depth child (loopP p most depth child n) r t := by
  obtain ⟨h1, h2, h3, h4⟩ := h
  conv => lhs; unfold loopP
  rw [if_neg (by simp [h1, h2]), if_neg h3, if_neg (by omega)]
  rfl
theorem steps_mono : ∀ (n : Nat) (r : Rs) (t : Ts), r.steps ≤ (loopP p most depth child n r t).1.steps
  | n, r, t => by
    by_cases h0 : t.e.h ≠ 0 ∨ r.over = true
    · rw [loopP_end p most depth child h0]; exact Nat.le_refl _
    have e1 : t.e.h = 0 := by
      by_cases h : t.e.h = 0
      · exact h
      · exact absurd (.inl h) h0
    have e2 : r.over = false := by
      cases h : r.over with
      | false => rfl
      | true => exact absurd (.inr h) h0
    by_cases h3 : t.fuel = 0
    · rw [loopP_fuel p most depth child e1 e2 h3]; exact Nat.le_refl _
    by_cases h4 : most ≤ r.steps
    · rw [loopP_over p most depth child e1 e2 h3 h4]; exact Nat.le_refl _
    cases n with
    | zero =>
      unfold loopP
      rw [if_neg h0, if_neg h3, if_neg h4]
      exact Nat.le_refl _
    | succ n =>
      rw [loopP_step p most depth child ⟨e1, e2, h3, by omega⟩]
      have hu : (up1 r).steps = r.steps + 1 := rfl
      have hf : (forkR (up1 r)).steps = r.steps + 1 := rfl
      unfold bodyP
      split
      · split
        · have := steps_mono n (up1 r) ((down1 t).ends 6); omega
        · split
          · have := steps_mono n (up1 r) ((down1 t).ends 9); omega
          · refine Nat.le_trans ?_ (steps_mono n _ _)
            rw [(told_steps _ _ _ _ _).1]
            have := steps_mono n (forkR (up1 r)) (ts0 (ins7 p t).b.toNat (rg t (ins7 p t).c) (child t.key (t.forks + 1)) p.fuel.toNat)
            omega
      · refine Nat.le_trans ?_ (steps_mono n _ _)
        rw [(oneP_steps _ _ _).1]
        omega
theorem loopP_same : ∀ (n m : Nat) (r : Rs) (t : Ts), most - r.steps ≤ n → most - r.steps ≤ m → loopP p most depth child n r t = loopP p most depth child m r t
  | n, m, r, t, hn, hm => by
    by_cases h0 : t.e.h ≠ 0 ∨ r.over = true
    · rw [loopP_end p most depth child h0, loopP_end p most depth child h0]
    have e1 : t.e.h = 0 := by
      by_cases h : t.e.h = 0
      · exact h
      · exact absurd (.inl h) h0
    have e2 : r.over = false := by
      cases h : r.over with
      | false => rfl
      | true => exact absurd (.inr h) h0
    by_cases h3 : t.fuel = 0
    · rw [loopP_fuel p most depth child e1 e2 h3, loopP_fuel p most depth child e1 e2 h3]
    by_cases h4 : most ≤ r.steps
    · rw [loopP_over p most depth child e1 e2 h3 h4, loopP_over p most depth child e1 e2 h3 h4]
    obtain ⟨n, rfl⟩ : ∃ k, n = k + 1 := ⟨n - 1, by omega⟩
    obtain ⟨m, rfl⟩ : ∃ k, m = k + 1 := ⟨m - 1, by omega⟩
    rw [loopP_step p most depth child ⟨e1, e2, h3, by omega⟩, loopP_step p most depth child ⟨e1, e2, h3, by omega⟩]
    have hu : (up1 r).steps = r.steps + 1 := rfl
    have hf : (forkR (up1 r)).steps = r.steps + 1 := rfl
    have ih := fun (r' : Rs) (t' : Ts) (h : r.steps + 1 ≤ r'.steps) => loopP_same n m r' t' (by omega) (by omega)
    unfold bodyP
    split
    · split
      · exact ih _ _ (by omega)
      · split
        · exact ih _ _ (by omega)
        · rw [ih (forkR (up1 r)) _ (by omega)]
          refine ih _ _ ?_
          rw [(told_steps _ _ _ _ _).1]
          have := steps_mono p most depth child m (forkR (up1 r)) (ts0 (ins7 p t).b.toNat (rg t (ins7 p t).c) (child t.key (t.forks + 1)) p.fuel.toNat)
          omega
    · refine ih _ _ ?_
      rw [(oneP_steps _ _ _).1]
      omega
/-- a task to its end -/
def evP (r : Rs) (t : Ts) : Rs × Ts := loopP p most depth child most r t
theorem evP_end {r : Rs} {t : Ts} (h : t.e.h ≠ 0 ∨ r.over = true) : evP p most depth child r t = (r, t) := loopP_end p most depth child h
theorem evP_fuel {r : Rs} {t : Ts} (h1 : t.e.h = 0) (h2 : r.over = false) (h3 : t.fuel = 0) : evP p most depth child r t = (r, t.ends 5) := loopP_fuel p most depth child h1 h2 h3
theorem evP_over {r : Rs} {t : Ts} (h1 : t.e.h = 0) (h2 : r.over = false) (h3 : t.fuel ≠ 0) (h4 : most ≤ r.steps) : evP p most depth child r t = ({ r with over := true }, t) := loopP_over p most depth child h1 h2 h3 h4
theorem evP_step {r : Rs} {t : Ts} (h : goesB most r t) : evP p most depth child r t = bodyP p depth child (evP p most depth child) r t := by
  have hs := h.2.2.2
  unfold evP
  rw [loopP_same p most depth child most (most + 1) r t (by omega) (by omega), loopP_step p most depth child h]
theorem evP_mono (r : Rs) (t : Ts) : r.steps ≤ (evP p most depth child r t).1.steps := steps_mono p most depth child most r t
end
end Go.Proofs.YtpmapdialjdcbaaDoor
namespace Go.Proofs.YtpmapdialjdcbaaDoor

section
variable (p : Pg7) (depth : Int → Int) (child : Int → Int → Int)
theorem goes_or (most : Nat) (r : Rs) (t : Ts) : (t.e.h ≠ 0 ∨ r.over = true) ∨ (t.e.h = 0 ∧ r.over = false ∧ t.fuel = 0) ∨ (t.e.h = 0 ∧ r.over = false ∧ t.fuel ≠ 0 ∧ most ≤ r.steps) ∨ goesB most r t := by
  by_cases h1 : t.e.h = 0
  · cases h2 : r.over with
    | true => exact .inl (.inr rfl)
    | false =>
      by_cases h3 : t.fuel = 0
      · exact .inr (.inl ⟨h1, rfl, h3⟩)
      · by_cases h4 : most ≤ r.steps
        · exact .inr (.inr (.inl ⟨h1, rfl, h3, h4⟩))
        · exact .inr (.inr (.inr ⟨h1, h2, h3, by omega⟩))
  · exact .inl (.inl h1)
/-- the task that a fork makes -/
def kidT (t : Ts) : Ts := ts0 (ins7 p t).b.toNat (rg t (ins7 p t).c) (child t.key (t.forks + 1)) p.fuel.toNat
def kidK (t : Ts) : Int := child t.key (t.forks + 1)
/-- a task's ways on -/
theorem evP_ways {most : Nat} {r : Rs} {t : Ts} (h : goesB most r t) :
    (∃ r' t', r'.steps = r.steps + 1 ∧ r'.over = false ∧ evP p most depth child r t = evP p most depth child r' t' ∧ ∀ M, goesB M r t → evP p M depth child r t = evP p M depth child r' t') ∨
    (∀ M, goesB M r t → evP p M depth child r t = evP p M depth child (told (evP p M depth child (forkR (up1 r)) (kidT p child t)).1 (ins7 p t).b (rg t (ins7 p t).c) (kidK child t) (evP p M depth child (forkR (up1 r)) (kidT p child t)).2.e) (forkT (down1 t) (ins7 p t).a (evP p M depth child (forkR (up1 r)) (kidT p child t)).2.e)) := by
  by_cases h9 : (ins7 p t).o = 9
  · by_cases hd : p.depth ≤ depth t.key
    · refine .inl ⟨up1 r, (down1 t).ends 6, rfl, h.2.1, ?_, fun M hM => ?_⟩
      · rw [evP_step p most depth child h]; unfold bodyP; rw [if_pos h9, if_pos hd]
      · rw [evP_step p M depth child hM]; unfold bodyP; rw [if_pos h9, if_pos hd]
    · by_cases hf : 1000 ≤ t.forks
      · refine .inl ⟨up1 r, (down1 t).ends 9, rfl, h.2.1, ?_, fun M hM => ?_⟩
        · rw [evP_step p most depth child h]; unfold bodyP; rw [if_pos h9, if_neg hd, if_pos hf]
        · rw [evP_step p M depth child hM]; unfold bodyP; rw [if_pos h9, if_neg hd, if_pos hf]
      · refine .inr fun M hM => ?_
        rw [evP_step p M depth child hM]
        unfold bodyP
        rw [if_pos h9, if_neg hd, if_neg hf]
        rfl
  · refine .inl ⟨(oneP (up1 r) (down1 t) (ins7 p t)).1, (oneP (up1 r) (down1 t) (ins7 p t)).2, (oneP_steps _ _ _).1, (oneP_steps _ _ _).2.1.trans h.2.1, ?_, fun M hM => ?_⟩
    · rw [evP_step p most depth child h]; unfold bodyP; rw [if_neg h9]
    · rw [evP_step p M depth child hM]; unfold bodyP; rw [if_neg h9]
theorem over_stays (most : Nat) {r : Rs} (t : Ts) (h : r.over = true) : (evP p most depth child r t).1.over = true := by rw [evP_end p most depth child (.inr h)]; exact h
theorem cut_same (M : Nat) : ∀ (n : Nat) (r : Rs) (t : Ts), M - r.steps ≤ n → (evP p M depth child r t).1.over = false → ∀ M', (evP p M depth child r t).1.steps ≤ M' → evP p M' depth child r t = evP p M depth child r t := by
  intro n
  induction n with
  | zero =>
    intro r t hn ho M' hM
    rcases goes_or M r t with h | ⟨h1, h2, h3⟩ | ⟨h1, h2, h3, h4⟩ | h
    · rw [evP_end p M' depth child h, evP_end p M depth child h]
    · rw [evP_fuel p M' depth child h1 h2 h3, evP_fuel p M depth child h1 h2 h3]
    · rw [evP_over p M depth child h1 h2 h3 h4] at ho
      simp at ho
    · have := h.2.2.2
      omega
  | succ n ih =>
    intro r t hn ho M' hM
    rcases goes_or M r t with h | ⟨h1, h2, h3⟩ | ⟨h1, h2, h3, h4⟩ | h
    · rw [evP_end p M' depth child h, evP_end p M depth child h]
    · rw [evP_fuel p M' depth child h1 h2 h3, evP_fuel p M depth child h1 h2 h3]
    · rw [evP_over p M depth child h1 h2 h3 h4] at ho
      simp at ho
    · have hs := h.2.2.2
      rcases evP_ways p depth child h with ⟨r', t', k1, k2, k3, k4⟩ | k
      · rw [k3] at ho hM ⊢
        have hm := evP_mono p M depth child r' t'
        rw [k4 M' ⟨h.1, h.2.1, h.2.2.1, by omega⟩]
        exact ih r' t' (by omega) ho M' hM
      · have kM := k M h
        have hf : (forkR (up1 r)).steps = r.steps + 1 := rfl
        have m1 := evP_mono p M depth child (forkR (up1 r)) (kidT p child t)
        have m2 := evP_mono p M depth child (told (evP p M depth child (forkR (up1 r)) (kidT p child t)).1 (ins7 p t).b (rg t (ins7 p t).c) (kidK child t) (evP p M depth child (forkR (up1 r)) (kidT p child t)).2.e) (forkT (down1 t) (ins7 p t).a (evP p M depth child (forkR (up1 r)) (kidT p child t)).2.e)
        rw [(told_steps _ _ _ _ _).1, ← kM] at m2
        have hc : (evP p M depth child (forkR (up1 r)) (kidT p child t)).1.over = false := by
          cases hh : (evP p M depth child (forkR (up1 r)) (kidT p child t)).1.over with
          | false => rfl
          | true =>
            rw [kM, over_stays p depth child M _ ((told_steps _ _ _ _ _).2.trans hh)] at ho
            simp at ho
        rw [k M' ⟨h.1, h.2.1, h.2.2.1, by omega⟩, ih _ _ (by omega) hc M' (by omega), kM]
        rw [kM] at ho hM
        refine ih _ _ ?_ ho M' hM
        rw [(told_steps _ _ _ _ _).1]
        omega
theorem cut_over (M : Nat) : ∀ (n : Nat) (r : Rs) (t : Ts), M - r.steps ≤ n → (evP p M depth child r t).1.over = false → ∀ M', r.steps ≤ M' → M' < (evP p M depth child r t).1.steps → (evP p M' depth child r t).1.over = true := by
  intro n
  induction n with
  | zero =>
    intro r t hn ho M' hr hM
    rcases goes_or M r t with h | ⟨h1, h2, h3⟩ | ⟨h1, h2, h3, h4⟩ | h
    · rw [evP_end p M depth child h] at hM; simp only at hM; omega
    · rw [evP_fuel p M depth child h1 h2 h3] at hM; simp only at hM; omega
    · rw [evP_over p M depth child h1 h2 h3 h4] at ho
      simp at ho
    · have := h.2.2.2
      omega
  | succ n ih =>
    intro r t hn ho M' hr hM
    rcases goes_or M r t with h | ⟨h1, h2, h3⟩ | ⟨h1, h2, h3, h4⟩ | h
    · rw [evP_end p M depth child h] at hM; simp only at hM; omega
    · rw [evP_fuel p M depth child h1 h2 h3] at hM; simp only at hM; omega
    · rw [evP_over p M depth child h1 h2 h3 h4] at ho
      simp at ho
    · have hs := h.2.2.2
      by_cases hM' : M' = r.steps
      · rw [evP_over p M' depth child h.1 h.2.1 h.2.2.1 (by omega)]
      have hg : goesB M' r t := ⟨h.1, h.2.1, h.2.2.1, by omega⟩
      rcases evP_ways p depth child h with ⟨r', t', k1, k2, k3, k4⟩ | k
      · rw [k3] at ho hM
        rw [k4 M' hg]
        exact ih r' t' (by omega) ho M' (by omega) hM
      · have kM := k M h
        have hf : (forkR (up1 r)).steps = r.steps + 1 := rfl
        have m1 := evP_mono p M depth child (forkR (up1 r)) (kidT p child t)
        have hc : (evP p M depth child (forkR (up1 r)) (kidT p child t)).1.over = false := by
          cases hh : (evP p M depth child (forkR (up1 r)) (kidT p child t)).1.over with
          | false => rfl
          | true =>
            rw [kM, over_stays p depth child M _ ((told_steps _ _ _ _ _).2.trans hh)] at ho
            simp at ho
        rw [k M' hg]
        by_cases hk : (evP p M depth child (forkR (up1 r)) (kidT p child t)).1.steps ≤ M'
        · rw [cut_same p depth child M n _ _ (by omega) hc M' hk]
          rw [kM] at ho hM
          refine ih _ _ ?_ ho M' ?_ hM
          · rw [(told_steps _ _ _ _ _).1]; omega
          · rw [(told_steps _ _ _ _ _).1]; exact hk
        · exact over_stays p depth child M' _ ((told_steps _ _ _ _ _).2.trans (ih _ _ (by omega) hc M' (by omega) (by omega)))
end
end Go.Proofs.YtpmapdialjdcbaaDoor
namespace Go.Proofs.YtpmapdialjdcbaaDoor

def EndOk (e : En) : Prop := 1 ≤ e.h ∧ e.h ≤ 9 ∧ (e.h ≠ 1 → e.v = 0)
structure TOk (t : Ts) : Prop where
  e : (t.e.h = 0 ∧ t.e.v = 0) ∨ EndOk t.e
  hs : ∀ i, t.has.getD i false = true → EndOk (t.hand.getD i en0)
  len : t.has.length = t.hand.length
theorem getD_set {α : Type} (l : List α) (i j : Nat) (v d : α) : (l.set i v).getD j d = if i = j ∧ i < l.length then v else l.getD j d := by
  rw [List.getD_eq_getElem?_getD, List.getD_eq_getElem?_getD, List.getElem?_set]
  by_cases h : i = j
  · subst h
    by_cases h2 : i < l.length
    · simp [h2]
    · simp [h2]
  · simp [h]
theorem TOk.start (fn : Nat) (arg key : Int) (fuel : Nat) : TOk (ts0 fn arg key fuel) := by
  refine ⟨.inl ⟨rfl, rfl⟩, fun i h => ?_, rfl⟩
  exfalso
  simp only [ts0] at h
  match i, h with
  | 0, h => simp at h
  | 1, h => simp at h
  | 2, h => simp at h
  | 3, h => simp at h
  | n + 4, h => simp at h
theorem TOk.ends {t : Ts} (h : TOk t) (h0 : t.e.h = 0) {k : Int} (h1 : 1 ≤ k) (h2 : k ≤ 9) : TOk (t.ends k) := by
  have hv : t.e.v = 0 := by
    rcases h.e with h | h
    · exact h.2
    · have := h.1; omega
  exact ⟨.inr ⟨h1, h2, fun _ => hv⟩, h.hs, h.len⟩
theorem TOk.put {t : Ts} (h : TOk t) (i v : Int) : TOk (t.put i v) := ⟨h.e, h.hs, h.len⟩
theorem TOk.fork {t : Ts} (h : TOk t) (a : Int) {e : En} (he : EndOk e) : TOk (forkT t a e) := by
  refine ⟨h.e, fun i hi => ?_, by simp [forkT, h.len]⟩
  simp only [forkT] at hi ⊢
  rw [getD_set] at hi ⊢
  rw [← h.len]
  split
  · exact he
  · rename_i hn
    rw [if_neg hn] at hi
    exact h.hs i hi
theorem TOk.down {t : Ts} (h : TOk t) : TOk (down1 t) := ⟨h.e, h.hs, h.len⟩
/-- what an instruction leaves of a task -/
structure Kt (t : Ts) (q : Rs × Ts) : Prop where
  key : q.2.key = t.key
  forks : q.2.forks = t.forks
  ok : TOk q.2
theorem keepT {t : Ts} {c : Prop} [Decidable c] {a b : Rs × Ts} (ha : c → Kt t a) (hb : ¬ c → Kt t b) : Kt t (if c then a else b) := by
  by_cases h : c
  · rw [if_pos h]; exact ha h
  · rw [if_neg h]; exact hb h
theorem oneP_keeps {r : Rs} {t : Ts} (h : TOk t) (h0 : t.e.h = 0) (x : In7) : Kt t (oneP r t x) := by
  have hv : t.e.v = 0 := by
    rcases h.e with h | h
    · exact h.2
    · have := h.1; omega
  have P : ∀ (r' : Rs) (i v : Int), Kt t (r', t.put i v) := fun _ i v => ⟨rfl, rfl, h.put i v⟩
  have E : ∀ (r' : Rs) (k : Int), 1 ≤ k → k ≤ 9 → Kt t (r', t.ends k) := fun _ k h1 h2 => ⟨rfl, rfl, h.ends h0 h1 h2⟩
  have S : ∀ r', Kt t (r', t) := fun _ => ⟨rfl, rfl, h⟩
  unfold oneP
  refine keepT (fun _ => P _ _ _) fun _ => ?_
  refine keepT (fun _ => P _ _ _) fun _ => ?_
  refine keepT (fun _ => P _ _ _) fun _ => ?_
  refine keepT (fun _ => P _ _ _) fun _ => ?_
  refine keepT (fun _ => keepT (fun _ => E _ _ (by decide) (by decide)) fun _ => P _ _ _) fun _ => ?_
  refine keepT (fun _ => P _ _ _) fun _ => ?_
  refine keepT (fun _ => ⟨rfl, rfl, h.e, h.hs, h.len⟩) fun _ => ?_
  refine keepT (fun _ => ?_) fun _ => ?_
  · by_cases hz : rg t x.a = 0
    · rw [if_pos hz]; exact ⟨rfl, rfl, h.e, h.hs, h.len⟩
    · rw [if_neg hz]; exact S _
  refine keepT (fun _ => ?_) fun _ => ?_
  · by_cases hz : t.has.getD x.b.toNat false = false
    · rw [if_pos hz]; exact E _ _ (by decide) (by decide)
    · rw [if_neg hz]
      have hh : t.has.getD x.b.toNat false = true := by
        cases hc : t.has.getD x.b.toNat false with
        | true => rfl
        | false => exact absurd hc hz
      have he := h.hs _ hh
      have h1 : TOk { t with has := t.has.set x.b.toNat false } := by
        refine ⟨h.e, fun i hi => ?_, by simp [h.len]⟩
        simp only at hi ⊢
        rw [getD_set] at hi
        split at hi
        · simp at hi
        · exact h.hs i hi
      simp only
      by_cases hv1 : (t.hand.getD x.b.toNat en0).h ≠ 1
      · rw [if_pos hv1]
        exact ⟨rfl, rfl, h1.ends h0 he.1 he.2.1⟩
      · rw [if_neg hv1]
        exact ⟨rfl, rfl, h1.put _ _⟩
  refine keepT (fun _ => keepT (fun _ => E _ _ (by decide) (by decide)) fun _ => S _) fun _ => ?_
  refine keepT (fun _ => keepT (fun _ => E _ _ (by decide) (by decide)) fun _ => P _ _ _) fun _ => ?_
  refine keepT (fun _ => ?_) fun _ => ?_
  · by_cases hz : t.has.getD x.a.toNat false = false
    · rw [if_pos hz]; exact E _ _ (by decide) (by decide)
    · rw [if_neg hz]; exact S _
  refine keepT (fun _ => ⟨rfl, rfl, .inr ⟨Int.le_refl _, (by decide : (1 : Int) ≤ 9), fun hh => absurd rfl hh⟩, h.hs, h.len⟩) fun _ => S _
end Go.Proofs.YtpmapdialjdcbaaDoor
namespace Go.Proofs.YtpmapdialjdcbaaDoor
open K6 (Ky und wd ofK)

def depK (k : Int) : Int := ((ofK k).dep : Int)
def chY (k n : Int) : Int := ((ofK k).ch n).key
abbrev ev7 (p : Pg7) (most : Nat) (r : Rs) (t : Ts) : Rs × Ts := evP p most depK chY r t
def Srt (l : List Rn) : Prop := l.Pairwise fun a b => a.key < b.key
theorem mem_putR {x y : Rn} : ∀ {l : List Rn}, y ∈ putR l x ↔ y = x ∨ y ∈ l
  | [] => by simp [putR]
  | a :: l => by
    unfold putR
    split
    · simp only [List.mem_cons, mem_putR (l := l)]
      constructor
      · rintro (h | h | h)
        · exact .inr (.inl h)
        · exact .inl h
        · exact .inr (.inr h)
      · rintro (h | h | h)
        · exact .inr (.inl h)
        · exact .inl h
        · exact .inr (.inr h)
    · simp only [List.mem_cons]
theorem putR_length (x : Rn) : ∀ l : List Rn, (putR l x).length = l.length + 1
  | [] => rfl
  | a :: l => by
    unfold putR
    split
    · simp [putR_length x l]
    · simp
theorem putR_srt {x : Rn} : ∀ {l : List Rn}, Srt l → (∀ a ∈ l, a.key ≠ x.key) → Srt (putR l x)
  | [], _, _ => by simp [putR, Srt]
  | a :: l, h, hn => by
    have h2 := List.pairwise_cons.1 h
    unfold putR
    split
    · rename_i hlt
      refine List.pairwise_cons.2 ⟨fun y hy => ?_, putR_srt h2.2 fun b hb => hn b (by simp [hb])⟩
      rcases mem_putR.1 hy with rfl | hy
      · exact hlt
      · exact h2.1 y hy
    · rename_i hge
      have hax := hn a (by simp)
      refine List.pairwise_cons.2 ⟨fun y hy => ?_, h⟩
      simp only [List.mem_cons] at hy
      rcases hy with rfl | hy
      · omega
      · have := h2.1 y hy; omega
/-- from where on a task's forks to come have their keys -/
def thr (tk : Ky) (f : Nat) : Int := tk.key + ((f : Int) + 1) * wd (tk.dep + 1)
def NewR (tk : Ky) (f : Nat) (L : List Rn) (x : Rn) : Prop := ∃ xk : Ky, xk.Ok ∧ x.key = xk.key ∧ 0 < xk.dep ∧ und xk tk ∧ thr tk f ≤ xk.key ∧ EndOk x.e ∧ (xk.par = tk ∨ ∃ y ∈ L, y.key = xk.par.key)
structure Gr (tk : Ky) (f : Nat) (r q : Rs) : Prop where
  old : ∀ x ∈ r.ran, x ∈ q.ran
  new : ∀ x ∈ q.ran, x ∈ r.ran ∨ NewR tk f q.ran x
  len : q.ran.length + r.forks = r.ran.length + q.forks
  srt : Srt q.ran
theorem Gr.refl {tk : Ky} {f : Nat} {r : Rs} (h : Srt r.ran) : Gr tk f r r := ⟨fun _ h => h, fun _ h => .inl h, rfl, h⟩
def Frs (tk : Ky) (f : Nat) (r : Rs) : Prop := ∀ x ∈ r.ran, x.key < thr tk f ∨ tk.rank ≤ x.key
theorem thr_mono (tk : Ky) (f : Nat) : thr tk f ≤ thr tk (f + 1) := by
  have := K6.wd_pos (tk.dep + 1)
  unfold thr
  have e : (((f + 1 : Nat) : Int) + 1) * wd (tk.dep + 1) = ((f : Int) + 1) * wd (tk.dep + 1) + wd (tk.dep + 1) := by
    rw [show (((f + 1 : Nat) : Int) + 1) = ((f : Int) + 1) + 1 by omega, Int.add_mul ((f : Int) + 1) 1, Int.one_mul]
  omega
/-- a fork's task -/
theorem kid_facts {tk : Ky} (h : tk.Ok) {f : Nat} (hd : tk.dep < 5) (hf : f < 1000) : ∃ kk : Ky, kk.Ok ∧ kk = tk.ch ((f : Int) + 1) ∧ kk.key = thr tk f ∧ kk.rank = thr tk (f + 1) ∧ kk.par = tk ∧ 0 < kk.dep ∧ kk.dep = tk.dep + 1 ∧ und kk tk := by
  obtain ⟨c1, c2, c3, c4, c5⟩ := K6.ch_facts h (n := (f : Int) + 1) hd (by omega) (by omega)
  refine ⟨_, c1, rfl, c3, ?_, c4, by omega, c2, K6.und_ch h hd (by omega) (by omega)⟩
  unfold Ky.rank thr
  rw [c3, c2, show (((f + 1 : Nat) : Int) + 1) = ((f : Int) + 1) + 1 by omega, Int.add_mul ((f : Int) + 1) 1, Int.one_mul]
  omega
end Go.Proofs.YtpmapdialjdcbaaDoor
namespace Go.Proofs.YtpmapdialjdcbaaDoor
open K6 (Ky und wd ofK)

theorem ways7 {p : Pg7} {M : Nat} {r : Rs} {t : Ts} (h : goesB M r t) (hT : TOk t) :
    (∃ r' t', r'.steps = r.steps + 1 ∧ r'.ran = r.ran ∧ r'.forks = r.forks ∧ t'.key = t.key ∧ t'.forks = t.forks ∧ TOk t' ∧ ev7 p M r t = ev7 p M r' t') ∨
    (depK t.key < p.depth ∧ t.forks < 1000 ∧ ev7 p M r t = ev7 p M (told (ev7 p M (forkR (up1 r)) (kidT p chY t)).1 (ins7 p t).b (rg t (ins7 p t).c) (kidK chY t) (ev7 p M (forkR (up1 r)) (kidT p chY t)).2.e) (forkT (down1 t) (ins7 p t).a (ev7 p M (forkR (up1 r)) (kidT p chY t)).2.e)) := by
  have h0 := h.1
  by_cases h9 : (ins7 p t).o = 9
  · by_cases hd : p.depth ≤ depK t.key
    · refine .inl ⟨up1 r, (down1 t).ends 6, rfl, rfl, rfl, rfl, rfl, hT.down.ends h0 (by decide) (by decide), ?_⟩
      unfold ev7
      rw [evP_step p M depK chY h]; unfold bodyP; rw [if_pos h9, if_pos hd]
    · by_cases hf : 1000 ≤ t.forks
      · refine .inl ⟨up1 r, (down1 t).ends 9, rfl, rfl, rfl, rfl, rfl, hT.down.ends h0 (by decide) (by decide), ?_⟩
        unfold ev7
        rw [evP_step p M depK chY h]; unfold bodyP; rw [if_pos h9, if_neg hd, if_pos hf]
      · refine .inr ⟨by omega, by omega, ?_⟩
        unfold ev7
        rw [evP_step p M depK chY h]
        unfold bodyP
        rw [if_pos h9, if_neg hd, if_neg hf]
        rfl
  · obtain ⟨s1, s2, s3, s4⟩ := oneP_steps (up1 r) (down1 t) (ins7 p t)
    have hk := oneP_keeps (r := up1 r) hT.down h0 (ins7 p t)
    refine .inl ⟨_, _, s1, s3, s4, hk.key, hk.forks, hk.ok, ?_⟩
    unfold ev7
    rw [evP_step p M depK chY h]; unfold bodyP; rw [if_neg h9]
theorem told_ran {r : Rs} (h : r.over = false) (fn arg key : Int) (e : En) : (told r fn arg key e).ran = putR r.ran ⟨key, fn, wrp arg, e⟩ ∧ (told r fn arg key e).forks = r.forks ∧ (told r fn arg key e).over = false := by
  unfold told
  rw [if_neg (by simp [h])]
  exact ⟨rfl, rfl, h⟩
def GrPost (tk : Ky) (t : Ts) (r : Rs) (q : Rs × Ts) : Prop := Gr tk t.forks r q.1 ∧ EndOk q.2.e
theorem grow {p : Pg7} (hp : p.depth ≤ 5) (M : Nat) : ∀ (n : Nat) (r : Rs) (t : Ts) (tk : Ky), M - r.steps ≤ n → tk.Ok → t.key = tk.key → TOk t → Srt r.ran → Frs tk t.forks r → r.over = false → (ev7 p M r t).1.over = false → GrPost tk t r (ev7 p M r t) := by
  intro n
  induction n with
  | zero =>
    intro r t tk hn hk he hT hs hF hr ho
    rcases goes_or M r t with h | ⟨h1, h2, h3⟩ | ⟨h1, h2, h3, h4⟩ | h
    · rw [ev7, evP_end p M depK chY h]
      refine ⟨Gr.refl hs, ?_⟩
      rcases hT.e with h5 | h5
      · rcases h with h | h
        · exact absurd h5.1 h
        · rw [hr] at h; simp at h
      · exact h5
    · rw [ev7, evP_fuel p M depK chY h1 h2 h3]
      refine ⟨Gr.refl hs, ?_⟩
      rcases (hT.ends h1 (k := 5) (by decide) (by decide)).e with h5 | h5
      · exact absurd h5.1 (by simp [Ts.ends])
      · exact h5
    · rw [ev7, evP_over p M depK chY h1 h2 h3 h4] at ho
      simp at ho
    · have := h.2.2.2
      omega
  | succ n ih =>
    intro r t tk hn hk he hT hs hF hr ho
    rcases goes_or M r t with h | ⟨h1, h2, h3⟩ | ⟨h1, h2, h3, h4⟩ | h
    · rw [ev7, evP_end p M depK chY h]
      refine ⟨Gr.refl hs, ?_⟩
      rcases hT.e with h5 | h5
      · rcases h with h | h
        · exact absurd h5.1 h
        · rw [hr] at h; simp at h
      · exact h5
    · rw [ev7, evP_fuel p M depK chY h1 h2 h3]
      refine ⟨Gr.refl hs, ?_⟩
      rcases (hT.ends h1 (k := 5) (by decide) (by decide)).e with h5 | h5
      · exact absurd h5.1 (by simp [Ts.ends])
      · exact h5
    · rw [ev7, evP_over p M depK chY h1 h2 h3 h4] at ho
      simp at ho
    · have hst := h.2.2.2
      rcases ways7 (p := p) h hT with ⟨r', t', k1, k2, k3, k4, k5, k6, k7⟩ | ⟨hd, hf, kM⟩
      · rw [k7] at ho ⊢
        have hr' : r'.over = false := by
          cases hh : r'.over with
          | false => rfl
          | true => rw [over_stays p depK chY M t' hh] at ho; simp at ho
        have hg := ih r' t' tk (by omega) hk (k4.trans he) k6 (by rw [k2]; exact hs) (by unfold Frs; rw [k2, k5]; exact hF) hr' ho
        obtain ⟨g1, g2⟩ := hg
        rw [k5] at g1
        exact ⟨⟨fun x hx => g1.old x (by rw [k2]; exact hx), fun x hx => by have := g1.new x hx; rw [k2] at this; exact this, by have := g1.len; rw [k2, k3] at this; exact this, g1.srt⟩, g2⟩
      · have hdep : tk.dep < 5 := by
          unfold depK at hd
          rw [he, K6.of_key hk] at hd
          omega
        obtain ⟨kk, q1, q2, q3, q4, q5, q6, q7, q8⟩ := kid_facts hk (f := t.forks) hdep hf
        have hkk : kidK chY t = kk.key := by
          unfold kidK chY
          rw [he, K6.of_key hk, q2]
        have hkt : (kidT p chY t).key = kk.key := hkk
        have hkf : (kidT p chY t).forks = 0 := rfl
        have hc : (ev7 p M (forkR (up1 r)) (kidT p chY t)).1.over = false := by
          cases hh : (ev7 p M (forkR (up1 r)) (kidT p chY t)).1.over with
          | false => rfl
          | true =>
            rw [kM, ev7, over_stays p depK chY M _ ((told_steps _ _ _ _ _).2.trans hh)] at ho
            simp at ho
        have hrank := K6.und_rank q1 hk q8
        have hw := K6.wd_pos (kk.dep + 1)
        have hkey0 : kk.key < thr kk 0 := by unfold thr; simp only [Int.natCast_zero, Int.zero_add, Int.one_mul]; omega
        have hF1 : Frs kk 0 (forkR (up1 r)) := fun x hx => by
          rcases hF x hx with h | h
          · exact .inl (by omega)
          · exact .inr (by omega)
        have hg1 := ih (forkR (up1 r)) (kidT p chY t) kk (by show M - (r.steps + 1) ≤ n; omega) q1 hkt (TOk.start _ _ _ _) hs (by rw [hkf]; exact hF1) hr hc
        rw [GrPost, hkf] at hg1
        obtain ⟨g1, g2⟩ := hg1
        have m2 : r.steps + 1 ≤ (ev7 p M (forkR (up1 r)) (kidT p chY t)).1.steps := evP_mono p M depK chY (forkR (up1 r)) (kidT p chY t)
        have hsf : (forkR (up1 r)).steps = r.steps + 1 := rfl
        have hff : (forkR (up1 r)).forks = r.forks + 1 := rfl
        have hfr : (forkR (up1 r)).ran = r.ran := rfl
        generalize hC : ev7 p M (forkR (up1 r)) (kidT p chY t) = c at *
        obtain ⟨t1, t2, t3⟩ := told_ran hc (ins7 p t).b (rg t (ins7 p t).c) (kidK chY t) c.2.e
        rw [hkk] at kM t1 t2 t3
        generalize hR3 : told c.1 (ins7 p t).b (rg t (ins7 p t).c) kk.key c.2.e = r3 at *
        have m3 : r3.steps = c.1.steps := by rw [← hR3]; exact (told_steps _ _ _ _ _).1
        have hnk : ∀ a ∈ c.1.ran, a.key ≠ kk.key := fun a ha e => by
          rcases g1.new a ha with h | ⟨xk, -, e1, -, -, e2, -, -⟩
          · rw [hfr] at h
            have := hF a h
            have := K6.wd_pos kk.dep
            unfold Ky.rank at hrank this
            rcases hF a h with h | h
            · omega
            · unfold Ky.rank at h; omega
          · omega
        have hs3 : Srt r3.ran := by rw [t1]; exact putR_srt g1.srt hnk
        have hF3 : Frs tk (t.forks + 1) r3 := fun x hx => by
          rw [t1] at hx
          have hm := thr_mono tk t.forks
          have hwk := K6.wd_pos kk.dep
          rcases mem_putR.1 hx with rfl | hx
          · refine .inl ?_
            show kk.key < _
            rw [← q4]
            unfold Ky.rank
            omega
          · rcases g1.new x hx with h | ⟨xk, x1, e1, x2, x3, e2, -, -⟩
            · rw [hfr] at h
              rcases hF x h with h | h
              · exact .inl (by omega)
              · exact .inr h
            · refine .inl ?_
              have := x3.2
              rw [← q4]
              unfold Ky.rank
              omega
        rw [kM] at ho ⊢
        have hg2 := ih r3 (forkT (down1 t) (ins7 p t).a c.2.e) tk (by omega) hk he (hT.down.fork _ g2) hs3 hF3 t3 ho
        obtain ⟨h1, h2⟩ := hg2
        have hfk : (forkT (down1 t) (ins7 p t).a c.2.e).forks = t.forks + 1 := rfl
        rw [hfk] at h1
        refine ⟨⟨fun x hx => h1.old x (by rw [t1]; exact mem_putR.2 (.inr (g1.old x hx))), fun x hx => ?_, ?_, h1.srt⟩, h2⟩
        · have hm := thr_mono tk t.forks
          rcases h1.new x hx with h | ⟨xk, y1, y2, y3, y4, y5, y6, y7⟩
          · rw [t1] at h
            rcases mem_putR.1 h with rfl | h
            · exact .inr ⟨kk, q1, rfl, q6, q8, by omega, g2, .inl q5⟩
            · rcases g1.new x h with h | ⟨xk, y1, y2, y3, y4, y5, y6, y7⟩
              · exact .inl h
              · refine .inr ⟨xk, y1, y2, y3, K6.und_trans q1 hk y4 q8, by omega, y6, .inr ?_⟩
                rcases y7 with y7 | ⟨y, hy, e⟩
                · exact ⟨⟨kk.key, (ins7 p t).b, wrp (rg t (ins7 p t).c), c.2.e⟩, h1.old _ (by rw [t1]; exact mem_putR.2 (.inl rfl)), by rw [y7]⟩
                · exact ⟨y, h1.old _ (by rw [t1]; exact mem_putR.2 (.inr hy)), e⟩
          · exact .inr ⟨xk, y1, y2, y3, y4, by omega, y6, y7⟩
        · have l1 := h1.len
          have l2 := g1.len
          rw [t1, t2, putR_length] at l1
          rw [hff, hfr] at l2
          omega
end Go.Proofs.YtpmapdialjdcbaaDoor
namespace Go.Proofs.YtpmapdialjdcbaaDoor
open K6 (Ky und wd ofK)

def rs0 (p : Pg7) : Rs := ⟨[], List.replicate p.futs.toNat 0, List.replicate p.futs.toNat false, 0, 0, false⟩
def root7 (p : Pg7) (arg : Int) : Ts := ts0 0 arg 1125899906842624 p.fuel.toNat
theorem putR_first {x : Rn} {l : List Rn} (h : ∀ a ∈ l, x.key < a.key) : putR l x = x :: l := by
  cases l with
  | nil => rfl
  | cons a l =>
    unfold putR
    rw [if_neg (by have := h a (by simp); omega)]
/-- what ran, of a run that is not over -/
structure RunOk (arg : Int) (q : Rs × Ts) (L : List Rn) : Prop where
  eq : L = ⟨1125899906842624, 0, wrp arg, q.2.e⟩ :: q.1.ran
  srt : Srt L
  ends : ∀ x ∈ L, EndOk x.e
  up : ∀ x ∈ L, x.key = 1125899906842624 ∨ ∃ xk : Ky, xk.Ok ∧ x.key = xk.key ∧ 0 < xk.dep ∧ ∃ y ∈ L, y.key = xk.par.key
  len : L.length = q.1.forks + 1
theorem run_ok {p : Pg7} (hp : p.depth ≤ 5) (M : Nat) (arg : Int) (ho : (ev7 p M (rs0 p) (root7 p arg)).1.over = false) : RunOk arg (ev7 p M (rs0 p) (root7 p arg)) (putR (ev7 p M (rs0 p) (root7 p arg)).1.ran ⟨1125899906842624, 0, wrp arg, (ev7 p M (rs0 p) (root7 p arg)).2.e⟩) := by
  have hg := grow hp M M (rs0 p) (root7 p arg) K6.root (by omega) K6.root_ok rfl (TOk.start _ _ _ _) List.Pairwise.nil (fun x hx => by simp [rs0] at hx) rfl ho
  obtain ⟨g1, g2⟩ := hg
  generalize ev7 p M (rs0 p) (root7 p arg) = q at *
  have hnew : ∀ x ∈ q.1.ran, NewR K6.root 0 q.1.ran x := fun x hx => by
    rcases g1.new x hx with h | h
    · simp [rs0] at h
    · exact h
  have hlt : ∀ x ∈ q.1.ran, (1125899906842624 : Int) < x.key := fun x hx => by
    obtain ⟨xk, -, e, -, hu, -, -, -⟩ := hnew x hx
    have := hu.1
    rw [K6.key_root] at this
    omega
  have e : putR q.1.ran ⟨1125899906842624, 0, wrp arg, q.2.e⟩ = ⟨1125899906842624, 0, wrp arg, q.2.e⟩ :: q.1.ran := putR_first hlt
  rw [e]
  refine ⟨rfl, List.pairwise_cons.2 ⟨hlt, g1.srt⟩, fun x hx => ?_, fun x hx => ?_, ?_⟩
  · simp only [List.mem_cons] at hx
    rcases hx with rfl | hx
    · exact g2
    · obtain ⟨_, _, _, _, _, _, h, _⟩ := hnew x hx
      exact h
  · simp only [List.mem_cons] at hx
    rcases hx with rfl | hx
    · exact .inl rfl
    · obtain ⟨xk, h1, h2, h3, h4, h5, h6, h7⟩ := hnew x hx
      refine .inr ⟨xk, h1, h2, h3, ?_⟩
      rcases h7 with h7 | ⟨y, hy, e⟩
      · exact ⟨⟨1125899906842624, 0, wrp arg, q.2.e⟩, by simp, by rw [h7]; rfl⟩
      · exact ⟨y, by simp [hy], e⟩
  · have := g1.len
    simp only [rs0, List.length_nil] at this
    simp only [List.length_cons]
    omega
/-- of two that stand by key the one with the lesser key stands ahead -/
theorem srt_at {l : List Rn} (h : Srt l) {i j : Nat} (hi : i < l.length) (hj : j < l.length) : l[i].key < l[j].key ↔ i < j := by
  have hp := List.pairwise_iff_getElem.1 h
  constructor
  · intro hlt
    by_cases e : i < j
    · exact e
    · by_cases e2 : i = j
      · subst e2; omega
      · have := hp j i hj hi (by omega)
        omega
  · exact hp i j hi hj
theorem run_steps {p : Pg7} (hf : 1 ≤ p.fuel) (M : Nat) (arg : Int) (ho : (ev7 p M (rs0 p) (root7 p arg)).1.over = false) : 1 ≤ (ev7 p M (rs0 p) (root7 p arg)).1.steps := by
  have hfu : (root7 p arg).fuel ≠ 0 := by show p.fuel.toNat ≠ 0; omega
  rcases goes_or M (rs0 p) (root7 p arg) with h | ⟨h1, h2, h3⟩ | ⟨h1, h2, h3, h4⟩ | h
  · rcases h with h | h
    · exact absurd rfl h
    · simp [rs0] at h
  · exact absurd h3 hfu
  · rw [ev7, evP_over p M depK chY h1 h2 h3 h4] at ho
    simp at ho
  · rcases ways7 (p := p) h (TOk.start _ _ _ _) with ⟨r', t', k1, -, -, -, -, -, k7⟩ | ⟨-, -, kM⟩
    · rw [k7]
      have := evP_mono p M depK chY r' t'
      have e : (rs0 p).steps = 0 := rfl
      show 1 ≤ (evP p M depK chY r' t').1.steps
      omega
    · rw [kM]
      have m1 := evP_mono p M depK chY (forkR (up1 (rs0 p))) (kidT p chY (root7 p arg))
      have e : (forkR (up1 (rs0 p))).steps = 1 := rfl
      refine Nat.le_trans ?_ (evP_mono p M depK chY _ _)
      rw [(told_steps _ _ _ _ _).1]
      show 1 ≤ (evP p M depK chY _ _).1.steps
      omega
end Go.Proofs.YtpmapdialjdcbaaDoor
namespace Go.Proofs.YtpmapdialjdcbaaDoor
open K6 (Ky und wd ofK)

def treeF (w : Nat) (m : Int) (j : Nat) : List In7 := [⟨1, 1, m, 0⟩, ⟨4, 2, 0, 1⟩] ++ (List.range w).map (fun i => ⟨9, (i : Int), (j : Int), 2⟩) ++ ((List.range w).map fun i => [⟨10, 3, (i : Int), 0⟩, ⟨2, 0, 0, 3⟩]).flatten ++ [⟨15, 0, 0, 0⟩]
theorem wide_cases {w : Nat} (h1 : 1 ≤ w) (h3 : w ≤ 3) : w = 1 ∨ w = 2 ∨ w = 3 := by omega
theorem tree_0 (w : Nat) (m : Int) (j : Nat) : (treeF w m j).getD 0 ⟨0, 0, 0, 0⟩ = ⟨1, 1, m, 0⟩ := rfl
theorem tree_1 (w : Nat) (m : Int) (j : Nat) : (treeF w m j).getD 1 ⟨0, 0, 0, 0⟩ = ⟨4, 2, 0, 1⟩ := rfl
theorem tree_fork {w i : Nat} (h1 : 1 ≤ w) (h3 : w ≤ 3) (hi : i < w) (m : Int) (j : Nat) : (treeF w m j).getD (2 + i) ⟨0, 0, 0, 0⟩ = ⟨9, (i : Int), (j : Int), 2⟩ := by
  rcases wide_cases h1 h3 with rfl | rfl | rfl
  · obtain rfl : i = 0 := by omega
    rfl
  · rcases (by omega : i = 0 ∨ i = 1) with rfl | rfl <;> rfl
  · rcases (by omega : i = 0 ∨ i = 1 ∨ i = 2) with rfl | rfl | rfl <;> rfl
theorem tree_join {w i : Nat} (h1 : 1 ≤ w) (h3 : w ≤ 3) (hi : i < w) (m : Int) (j : Nat) : (treeF w m j).getD (2 + w + 2 * i) ⟨0, 0, 0, 0⟩ = ⟨10, 3, (i : Int), 0⟩ ∧ (treeF w m j).getD (2 + w + 2 * i + 1) ⟨0, 0, 0, 0⟩ = ⟨2, 0, 0, 3⟩ := by
  rcases wide_cases h1 h3 with rfl | rfl | rfl
  · obtain rfl : i = 0 := by omega
    exact ⟨rfl, rfl⟩
  · rcases (by omega : i = 0 ∨ i = 1) with rfl | rfl <;> exact ⟨rfl, rfl⟩
  · rcases (by omega : i = 0 ∨ i = 1 ∨ i = 2) with rfl | rfl | rfl <;> exact ⟨rfl, rfl⟩
theorem tree_ret {w : Nat} (h1 : 1 ≤ w) (h3 : w ≤ 3) (m : Int) (j : Nat) : (treeF w m j).getD (2 + 3 * w) ⟨0, 0, 0, 0⟩ = ⟨15, 0, 0, 0⟩ := by
  rcases wide_cases h1 h3 with rfl | rfl | rfl <;> rfl
section
variable {p : Pg7} {M : Nat}
theorem ev_one {r : Rs} {t : Ts} (h : goesB M r t) {x : In7} (hx : ins7 p t = x) (h9 : x.o ≠ 9) : ev7 p M r t = ev7 p M (oneP (up1 r) (down1 t) x).1 (oneP (up1 r) (down1 t) x).2 := by
  unfold ev7
  rw [evP_step p M depK chY h]
  unfold bodyP
  rw [hx, if_neg h9]
theorem ev_fork {r : Rs} {t : Ts} (h : goesB M r t) {a b c : Int} (hx : ins7 p t = ⟨9, a, b, c⟩) (hd : depK t.key < p.depth) (hf : t.forks < 1000) : ev7 p M r t = ev7 p M (told (ev7 p M (forkR (up1 r)) (ts0 b.toNat (rg t c) (chY t.key (t.forks + 1)) p.fuel.toNat)).1 b (rg t c) (chY t.key (t.forks + 1)) (ev7 p M (forkR (up1 r)) (ts0 b.toNat (rg t c) (chY t.key (t.forks + 1)) p.fuel.toNat)).2.e) (forkT (down1 t) a (ev7 p M (forkR (up1 r)) (ts0 b.toNat (rg t c) (chY t.key (t.forks + 1)) p.fuel.toNat)).2.e) := by
  unfold ev7
  rw [evP_step p M depK chY h]
  unfold bodyP
  rw [hx, if_pos rfl, if_neg (by omega), if_neg (by omega)]
end
theorem wrp_id {x : Int} (h1 : -2147483648 ≤ x) (h2 : x ≤ 2147483647) : wrp x = x := by unfold wrp; omega
/-- a run goes on to another: not over, so many instructions, so many forks -/
structure Fwd (r r' : Rs) (c f : Nat) : Prop where
  over : r'.over = false
  steps : r'.steps = r.steps + c
  forks : r'.forks = r.forks + f
/-- a task of a level: what it gives, what it takes -/
def Lvl (p : Pg7) (M : Nat) (j : Nat) (x y : Int) (c f : Nat) : Prop := ∀ (r : Rs) (tk : Ky), tk.Ok → tk.dep = j → r.over = false → r.steps + c ≤ M → ∃ r' t', ev7 p M r (ts0 j x tk.key p.fuel.toNat) = (r', t') ∧ t'.e = ⟨1, y⟩ ∧ Fwd r r' c f
theorem lvl_leaf {p : Pg7} {M j : Nat} {x : Int} (hf : 1 ≤ p.fuel) (hfn : p.fs.getD j [] = [⟨15, 0, 0, 0⟩]) (hx : wrp x = x) : Lvl p M j x x 1 0 := by
  intro r tk _ _ ho hs
  have hg : goesB M r (ts0 j x tk.key p.fuel.toNat) := ⟨rfl, ho, by show p.fuel.toNat ≠ 0; omega, by omega⟩
  have hi : ins7 p (ts0 j x tk.key p.fuel.toNat) = ⟨15, 0, 0, 0⟩ := by
    unfold ins7
    show (p.fs.getD j []).getD 0 _ = _
    rw [hfn]
    rfl
  refine ⟨up1 r, { down1 (ts0 j x tk.key p.fuel.toNat) with e := ⟨1, x⟩ }, ?_, rfl, ⟨ho, rfl, rfl⟩⟩
  rw [ev_one hg hi (by decide)]
  have e1 : oneP (up1 r) (down1 (ts0 j x tk.key p.fuel.toNat)) ⟨15, 0, 0, 0⟩ = (up1 r, { down1 (ts0 j x tk.key p.fuel.toNat) with e := ⟨1, wrp x⟩ }) := rfl
  rw [e1, hx, ev7, evP_end p M depK chY (.inl (show (1 : Int) ≠ 0 by decide))]
def hasI (i : Nat) : List Bool := [decide (0 < i), decide (1 < i), decide (2 < i), false]
def handI (i : Nat) (S : Int) : List En := [if 0 < i then ⟨1, S⟩ else en0, if 1 < i then ⟨1, S⟩ else en0, if 2 < i then ⟨1, S⟩ else en0, en0]
def hasJ (w i : Nat) : List Bool := [decide (0 < w) && decide (i ≤ 0), decide (1 < w) && decide (i ≤ 1), decide (2 < w) && decide (i ≤ 2), false]
def TI (x m S : Int) (j FU : Nat) (key : Int) (i : Nat) : Ts := ⟨[x, m, x * m, 0, 0, 0, 0, 0], hasI i, handI i S, j, 2 + i, FU - 2 - i, i, key, en0⟩
def TJ (x m S : Int) (w j FU : Nat) (key : Int) (i : Nat) : Ts := ⟨[x + i * S, m, x * m, if 0 < i then S else 0, 0, 0, 0, 0], hasJ w i, handI w S, j, 2 + w + 2 * i, FU - 2 - w - 2 * i, w, key, en0⟩
theorem has_set {i : Nat} (h : i < 3) : (hasI i).set i true = hasI (i + 1) := by
  rcases (by omega : i = 0 ∨ i = 1 ∨ i = 2) with rfl | rfl | rfl <;> rfl
theorem hand_set {i : Nat} (h : i < 3) (S : Int) : (handI i S).set i ⟨1, S⟩ = handI (i + 1) S := by
  rcases (by omega : i = 0 ∨ i = 1 ∨ i = 2) with rfl | rfl | rfl <;> rfl
section
variable {p : Pg7} {M w j c f : Nat} {x m S : Int}
theorem tree_heads (hfn : p.fs.getD j [] = treeF w m (j + 1)) (hfu : 100 ≤ p.fuel) (hx : wrp x = x) (hxm : wrp (x * m) = x * m) {r : Rs} {key : Int} (ho : r.over = false) (hs : r.steps + 3 ≤ M) : ev7 p M r (ts0 j x key p.fuel.toNat) = ev7 p M (up1 (up1 r)) (TI x m S j p.fuel.toNat key 0) := by
  have g0 : goesB M r (ts0 j x key p.fuel.toNat) := ⟨rfl, ho, by show p.fuel.toNat ≠ 0; omega, by omega⟩
  have i0 : ins7 p (ts0 j x key p.fuel.toNat) = ⟨1, 1, m, 0⟩ := by
    unfold ins7
    show (p.fs.getD j []).getD 0 _ = _
    rw [hfn]
    rfl
  rw [ev_one g0 i0 (by show (1 : Int) ≠ 9; decide)]
  have e1 : oneP (up1 r) (down1 (ts0 j x key p.fuel.toNat)) ⟨1, 1, m, 0⟩ = (up1 r, ⟨[wrp x, m, 0, 0, 0, 0, 0, 0], [false, false, false, false], [en0, en0, en0, en0], j, 1, p.fuel.toNat - 1, 0, key, en0⟩) := rfl
  rw [e1]
  simp only
  have g1 : goesB M (up1 r) ⟨[wrp x, m, 0, 0, 0, 0, 0, 0], [false, false, false, false], [en0, en0, en0, en0], j, 1, p.fuel.toNat - 1, 0, key, en0⟩ := ⟨rfl, ho, by show p.fuel.toNat - 1 ≠ 0; omega, by show r.steps + 1 < M; omega⟩
  have i1 : ins7 p (⟨[wrp x, m, 0, 0, 0, 0, 0, 0], [false, false, false, false], [en0, en0, en0, en0], j, 1, p.fuel.toNat - 1, 0, key, en0⟩ : Ts) = ⟨4, 2, 0, 1⟩ := by
    unfold ins7
    show (p.fs.getD j []).getD 1 _ = _
    rw [hfn]
    rfl
  rw [ev_one g1 i1 (by show (4 : Int) ≠ 9; decide)]
  have e2 : oneP (up1 (up1 r)) (down1 (⟨[wrp x, m, 0, 0, 0, 0, 0, 0], [false, false, false, false], [en0, en0, en0, en0], j, 1, p.fuel.toNat - 1, 0, key, en0⟩ : Ts)) ⟨4, 2, 0, 1⟩ = (up1 (up1 r), ⟨[wrp x, m, wrp (wrp x * m), 0, 0, 0, 0, 0], [false, false, false, false], [en0, en0, en0, en0], j, 2, p.fuel.toNat - 1 - 1, 0, key, en0⟩) := rfl
  rw [e2, hx, hxm]
  rfl
theorem tree_forks (h1 : 1 ≤ w) (h3 : w ≤ 3) (hfn : p.fs.getD j [] = treeF w m (j + 1)) (hfu : 100 ≤ p.fuel) (hd : (j : Int) < p.depth) (h5 : j < 5) (kid : Lvl p M (j + 1) (x * m) S c f) {r : Rs} {tk : Ky} (hk : tk.Ok) (hkd : tk.dep = j) (ho : r.over = false) (hs : r.steps + (2 + w + w * c) ≤ M) :
    ∀ i, i ≤ w → ∃ ri, Fwd r ri (2 + i + i * c) (i * (f + 1)) ∧ ev7 p M (up1 (up1 r)) (TI x m S j p.fuel.toNat tk.key 0) = ev7 p M ri (TI x m S j p.fuel.toNat tk.key i) := by
  intro i
  induction i with
  | zero => intro _; exact ⟨up1 (up1 r), ⟨ho, by show r.steps + 1 + 1 = _; omega, by show r.forks = _; omega⟩, rfl⟩
  | succ i ih =>
    intro hi
    obtain ⟨ri, hF, he⟩ := ih (by omega)
    have hic : (i + 1) * c ≤ w * c := Nat.mul_le_mul_right _ hi
    rw [Nat.succ_mul] at hic
    have hg : goesB M ri (TI x m S j p.fuel.toNat tk.key i) := ⟨rfl, hF.over, by show p.fuel.toNat - 2 - i ≠ 0; omega, by rw [hF.steps]; omega⟩
    have hx : ins7 p (TI x m S j p.fuel.toNat tk.key i) = ⟨9, (i : Int), ((j + 1 : Nat) : Int), 2⟩ := by
      unfold ins7
      show (p.fs.getD j []).getD (2 + i) _ = _
      rw [hfn, tree_fork h1 h3 (by omega)]
    have hdk : depK tk.key = j := by unfold depK; rw [K6.of_key hk, hkd]
    obtain ⟨kk, q1, q2, -, -, -, -, q7, -⟩ := kid_facts hk (f := i) (by omega) (by omega)
    have hch : chY tk.key ((i : Int) + 1) = kk.key := by unfold chY; rw [K6.of_key hk, q2]
    have hst := ev_fork hg hx (by show depK tk.key < _; omega) (by show i < 1000; omega)
    have hrg : rg (TI x m S j p.fuel.toNat tk.key i) 2 = x * m := rfl
    have hb : (((j + 1 : Nat) : Int)).toNat = j + 1 := by omega
    have hky : chY (TI x m S j p.fuel.toNat tk.key i).key (((TI x m S j p.fuel.toNat tk.key i).forks : Int) + 1) = kk.key := hch
    rw [hrg, hb, hky] at hst
    obtain ⟨rc, tc, kc, ke, kf⟩ := kid (forkR (up1 ri)) kk q1 (by omega) hF.over (by have := hF.steps; show ri.steps + 1 + c ≤ M; omega)
    rw [kc, ke] at hst
    obtain ⟨t1, t2, t3⟩ := told_ran kf.over ((j + 1 : Nat) : Int) (x * m) kk.key ⟨1, S⟩
    refine ⟨told rc ((j + 1 : Nat) : Int) (x * m) kk.key ⟨1, S⟩, ⟨t3, ?_, ?_⟩, ?_⟩
    · rw [(told_steps _ _ _ _ _).1, kf.steps]
      show ri.steps + 1 + c = _
      rw [hF.steps, Nat.succ_mul]
      omega
    · rw [t2, kf.forks]
      show ri.forks + 1 + f = _
      rw [hF.forks, Nat.succ_mul]
      omega
    · rw [he, hst]
      have e : forkT (down1 (TI x m S j p.fuel.toNat tk.key i)) (i : Int) ⟨1, S⟩ = TI x m S j p.fuel.toNat tk.key (i + 1) := by
        unfold forkT down1 TI
        simp only [Int.toNat_natCast]
        rw [has_set (by omega), hand_set (by omega)]
        congr 1
      rw [e]
theorem tree_joins (h1 : 1 ≤ w) (h3 : w ≤ 3) (hfn : p.fs.getD j [] = treeF w m (j + 1)) (hfu : 100 ≤ p.fuel) (hsum : ∀ i : Nat, i ≤ w → wrp (x + i * S) = x + i * S) {r : Rs} {key : Int} (ho : r.over = false) (hs : r.steps + (2 * w + 1) ≤ M) :
    ∀ i, i ≤ w → ∃ ri, Fwd r ri (2 * i) 0 ∧ ev7 p M r (TI x m S j p.fuel.toNat key w) = ev7 p M ri (TJ x m S w j p.fuel.toNat key i) := by
  intro i
  induction i with
  | zero =>
    intro _
    refine ⟨r, ⟨ho, by omega, by omega⟩, ?_⟩
    have e : TI x m S j p.fuel.toNat key w = TJ x m S w j p.fuel.toNat key 0 := by
      unfold TI TJ
      rcases wide_cases h1 h3 with rfl | rfl | rfl <;> simp [hasI, hasJ]
    rw [e]
  | succ i ih =>
    intro hi
    obtain ⟨ri, hF, he⟩ := ih (by omega)
    obtain ⟨j1, j2⟩ := tree_join h1 h3 (show i < w by omega) m (j + 1)
    have g1 : goesB M ri (TJ x m S w j p.fuel.toNat key i) := ⟨rfl, hF.over, by show p.fuel.toNat - 2 - w - 2 * i ≠ 0; omega, by rw [hF.steps]; omega⟩
    have x1 : ins7 p (TJ x m S w j p.fuel.toNat key i) = ⟨10, 3, (i : Int), 0⟩ := by
      unfold ins7
      show (p.fs.getD j []).getD (2 + w + 2 * i) _ = _
      rw [hfn, j1]
    have e1 : oneP (up1 ri) (down1 (TJ x m S w j p.fuel.toNat key i)) ⟨10, 3, (i : Int), 0⟩ = (up1 ri, ⟨[x + i * S, m, x * m, S, 0, 0, 0, 0], hasJ w (i + 1), handI w S, j, 2 + w + 2 * i + 1, p.fuel.toNat - 2 - w - 2 * i - 1, w, key, en0⟩) := by
      rcases wide_cases h1 h3 with rfl | rfl | rfl
      · obtain rfl : i = 0 := by omega
        rfl
      · rcases (by omega : i = 0 ∨ i = 1) with rfl | rfl <;> rfl
      · rcases (by omega : i = 0 ∨ i = 1 ∨ i = 2) with rfl | rfl | rfl <;> rfl
    have g2 : goesB M (up1 ri) ⟨[x + i * S, m, x * m, S, 0, 0, 0, 0], hasJ w (i + 1), handI w S, j, 2 + w + 2 * i + 1, p.fuel.toNat - 2 - w - 2 * i - 1, w, key, en0⟩ := ⟨rfl, hF.over, by show p.fuel.toNat - 2 - w - 2 * i - 1 ≠ 0; omega, by show ri.steps + 1 < M; rw [hF.steps]; omega⟩
    have x2 : ins7 p (⟨[x + i * S, m, x * m, S, 0, 0, 0, 0], hasJ w (i + 1), handI w S, j, 2 + w + 2 * i + 1, p.fuel.toNat - 2 - w - 2 * i - 1, w, key, en0⟩ : Ts) = ⟨2, 0, 0, 3⟩ := by
      unfold ins7
      show (p.fs.getD j []).getD (2 + w + 2 * i + 1) _ = _
      rw [hfn, j2]
    have e2 : oneP (up1 (up1 ri)) (down1 (⟨[x + i * S, m, x * m, S, 0, 0, 0, 0], hasJ w (i + 1), handI w S, j, 2 + w + 2 * i + 1, p.fuel.toNat - 2 - w - 2 * i - 1, w, key, en0⟩ : Ts)) ⟨2, 0, 0, 3⟩ = (up1 (up1 ri), ⟨[wrp (x + i * S + S), m, x * m, S, 0, 0, 0, 0], hasJ w (i + 1), handI w S, j, 2 + w + 2 * i + 1 + 1, p.fuel.toNat - 2 - w - 2 * i - 1 - 1, w, key, en0⟩) := rfl
    have hS : x + (i : Int) * S + S = x + ((i + 1 : Nat) : Int) * S := by rw [show ((i + 1 : Nat) : Int) = (i : Int) + 1 by omega, Int.add_mul, Int.one_mul]; omega
    refine ⟨up1 (up1 ri), ⟨hF.over, by show ri.steps + 1 + 1 = _; rw [hF.steps]; omega, hF.forks⟩, ?_⟩
    rw [he, ev_one g1 x1 (by show (10 : Int) ≠ 9; decide), e1]
    simp only
    rw [ev_one g2 x2 (by show (2 : Int) ≠ 9; decide), e2, hS, hsum (i + 1) hi]
    rfl
/-- a task of a tree -/
theorem lvl_node (h1 : 1 ≤ w) (h3 : w ≤ 3) (hfn : p.fs.getD j [] = treeF w m (j + 1)) (hfu : 100 ≤ p.fuel) (hd : (j : Int) < p.depth) (h5 : j < 5) (hx : wrp x = x) (hxm : wrp (x * m) = x * m) (hsum : ∀ i : Nat, i ≤ w → wrp (x + i * S) = x + i * S) (kid : Lvl p M (j + 1) (x * m) S c f) :
    Lvl p M j x (x + w * S) (3 + 3 * w + w * c) (w * (f + 1)) := by
  intro r tk hk hkd ho hs
  rw [tree_heads (S := S) hfn hfu hx hxm ho (by omega)]
  obtain ⟨r1, f1, e1⟩ := tree_forks h1 h3 hfn hfu hd h5 kid hk hkd ho (by omega) w (Nat.le_refl _)
  obtain ⟨r2, f2, e2⟩ := tree_joins (M := M) (key := tk.key) h1 h3 hfn hfu hsum f1.over (by rw [f1.steps]; omega) w (Nat.le_refl _)
  rw [e1, e2]
  have g : goesB M r2 (TJ x m S w j p.fuel.toNat tk.key w) := ⟨rfl, f2.over, by show p.fuel.toNat - 2 - w - 2 * w ≠ 0; omega, by rw [f2.steps, f1.steps]; omega⟩
  have hi : ins7 p (TJ x m S w j p.fuel.toNat tk.key w) = ⟨15, 0, 0, 0⟩ := by
    unfold ins7
    show (p.fs.getD j []).getD (2 + w + 2 * w) _ = _
    rw [hfn, show 2 + w + 2 * w = 2 + 3 * w by omega, tree_ret h1 h3]
  refine ⟨up1 r2, { down1 (TJ x m S w j p.fuel.toNat tk.key w) with e := ⟨1, x + w * S⟩ }, ?_, rfl, ⟨f2.over, by show r2.steps + 1 = _; rw [f2.steps, f1.steps]; omega, by show r2.forks = _; rw [f2.forks, f1.forks]; omega⟩⟩
  rw [ev_one g hi (by show (15 : Int) ≠ 9; decide)]
  have e3 : oneP (up1 r2) (down1 (TJ x m S w j p.fuel.toNat tk.key w)) ⟨15, 0, 0, 0⟩ = (up1 r2, { down1 (TJ x m S w j p.fuel.toNat tk.key w) with e := ⟨1, x + w * S⟩ }) := rfl
  rw [e3, ev7, evP_end p M depK chY (.inl (show (1 : Int) ≠ 0 by decide))]
end
end Go.Proofs.YtpmapdialjdcbaaDoor
namespace Go.Proofs.YtpmapdialjdcbaaDoor
open K6 (Ky und wd ofK)

theorem jump_on {p : Pg7} {M : Nat} (reg : List Int) (has : List Bool) (hand : List En) (fn forks : Nat) (key : Int) (hfn : (p.fs.getD fn []).getD 0 ⟨0, 0, 0, 0⟩ = ⟨7, 0, 0, 0⟩) :
    ∀ (n : Nat) (r : Rs), r.over = false → r.steps + n ≤ M → ev7 p M r ⟨reg, has, hand, fn, 0, n, forks, key, en0⟩ = (⟨r.ran, r.futs, r.was, r.steps + n, r.forks, false⟩, ⟨reg, has, hand, fn, 0, 0, forks, key, ⟨5, 0⟩⟩)
  | 0, r, ho, _ => by
    rw [ev7, evP_fuel p M depK chY rfl ho rfl]
    cases r
    simp only at ho
    subst ho
    rfl
  | n + 1, r, ho, hs => by
    have hg : goesB M r (⟨reg, has, hand, fn, 0, n + 1, forks, key, en0⟩ : Ts) := ⟨rfl, ho, by show n + 1 ≠ 0; omega, by omega⟩
    have hi : ins7 p (⟨reg, has, hand, fn, 0, n + 1, forks, key, en0⟩ : Ts) = ⟨7, 0, 0, 0⟩ := hfn
    rw [ev_one hg hi (by show (7 : Int) ≠ 9; decide)]
    have e : oneP (up1 r) (down1 (⟨reg, has, hand, fn, 0, n + 1, forks, key, en0⟩ : Ts)) ⟨7, 0, 0, 0⟩ = (up1 r, ⟨reg, has, hand, fn, 0, n, forks, key, en0⟩) := rfl
    rw [e]
    simp only
    rw [jump_on reg has hand fn forks key hfn n (up1 r) ho (by show r.steps + 1 + n ≤ M; omega)]
    show (_, _) = (_, _)
    rw [show (up1 r).steps + n = r.steps + (n + 1) by show r.steps + 1 + n = _; omega]
    rfl
def treeP (w d : Nat) (m : Int) : Pg7 := ⟨(List.range d).map (fun j => treeF w m (j + 1)) ++ [[⟨15, 0, 0, 0⟩]], 0, d, 100⟩
theorem treeP_node {w d : Nat} {m : Int} {j : Nat} (h : j < d) : (treeP w d m).fs.getD j [] = treeF w m (j + 1) := by
  unfold treeP
  simp only
  rw [List.getD_eq_getElem?_getD, List.getElem?_append_left (by simpa using h)]
  simp [h]
theorem treeP_leaf {w d : Nat} {m : Int} : (treeP w d m).fs.getD d [] = [⟨15, 0, 0, 0⟩] := by
  unfold treeP
  simp only
  rw [List.getD_eq_getElem?_getD, List.getElem?_append_right (by simp)]
  simp
/-- what a level gives, what it takes: so many levels below it -/
def gives (w : Nat) (m : Int) : Nat → Int → Int
  | 0, x => x
  | n + 1, x => x + w * gives w m n (x * m)
def takes (w : Nat) : Nat → Nat
  | 0 => 1
  | n + 1 => 3 + 3 * w + w * takes w n
def many (w : Nat) : Nat → Nat
  | 0 => 0
  | n + 1 => w * (many w n + 1)
theorem gives_bd {w : Nat} {m : Int} (h3 : w ≤ 3) (m0 : 0 ≤ m) (m2 : m ≤ 2) : ∀ (n : Nat) (x B : Int), 0 ≤ x → x ≤ B → 0 ≤ gives w m n x ∧ gives w m n x ≤ B * 7 ^ n
  | 0, x, B, h0, hB => by
    simp only [gives, Int.pow_zero, Int.mul_one]
    exact ⟨h0, hB⟩
  | n + 1, x, B, h0, hB => by
    have hxm0 : 0 ≤ x * m := Int.mul_nonneg h0 m0
    have hxm : x * m ≤ B * 2 := Int.mul_le_mul hB m2 m0 (by omega)
    obtain ⟨g0, g1⟩ := gives_bd h3 m0 m2 n (x * m) (x * m) hxm0 (Int.le_refl _)
    have hp : (1 : Int) ≤ 7 ^ n := by
      have := Int.pow_pos (n := 7) (m := n) (by decide)
      omega
    have g2 : gives w m n (x * m) ≤ B * 2 * 7 ^ n := Int.le_trans g1 (Int.mul_le_mul_of_nonneg_right hxm (by omega))
    have hw : (w : Int) * gives w m n (x * m) ≤ 3 * (B * 2 * 7 ^ n) := Int.mul_le_mul (by omega) g2 g0 (by decide)
    have hw0 : 0 ≤ (w : Int) * gives w m n (x * m) := Int.mul_nonneg (by omega) g0
    simp only [gives]
    have e2 : B * 2 * 7 ^ n = 2 * (B * 7 ^ n) := by rw [Int.mul_comm B 2, Int.mul_assoc]
    have e : B * 7 ^ (n + 1) = 7 * (B * 7 ^ n) := by rw [Int.pow_succ, ← Int.mul_assoc, Int.mul_comm _ 7]
    have hB0 : B ≤ B * 7 ^ n := by
      have := Int.mul_le_mul_of_nonneg_left (c := B) hp (by omega)
      omega
    omega
theorem tree_lvl {w d : Nat} {m : Int} {M : Nat} (h1 : 1 ≤ w) (h3 : w ≤ 3) (hd : d ≤ 3) (m0 : 0 ≤ m) (m2 : m ≤ 2) : ∀ (n j : Nat) (x B : Int), j + n = d → 0 ≤ x → x ≤ B → B * 7 ^ n ≤ 1000000 → Lvl (treeP w d m) M j x (gives w m n x) (takes w n) (many w n)
  | 0, j, x, B, hj, h0, hB, hb => by
    obtain rfl : j = d := by omega
    simp only [Int.pow_zero, Int.mul_one] at hb
    exact lvl_leaf (by show (1 : Int) ≤ 100; decide) treeP_leaf (wrp_id (by omega) (by omega))
  | n + 1, j, x, B, hj, h0, hB, hb => by
    have hg := gives_bd h3 m0 m2 (n + 1) x B h0 hB
    have hp : (1 : Int) ≤ 7 ^ n := by
      have := Int.pow_pos (n := 7) (m := n) (by decide)
      omega
    have e : B * 7 ^ (n + 1) = 7 * (B * 7 ^ n) := by rw [Int.pow_succ, ← Int.mul_assoc, Int.mul_comm _ 7]
    have e2 : B * 2 * 7 ^ n = 2 * (B * 7 ^ n) := by rw [Int.mul_comm B 2, Int.mul_assoc]
    have hB0 : B ≤ B * 7 ^ n := by
      have := Int.mul_le_mul_of_nonneg_left (c := B) hp (by omega)
      omega
    have hxm0 : 0 ≤ x * m := Int.mul_nonneg h0 m0
    have hxm : x * m ≤ B * 2 := Int.mul_le_mul hB m2 m0 (by omega)
    have hk := gives_bd h3 m0 m2 n (x * m) (B * 2) hxm0 hxm
    have kid := tree_lvl (M := M) h1 h3 hd m0 m2 n (j + 1) (x * m) (B * 2) (by omega) hxm0 hxm (by omega)
    refine lvl_node h1 h3 (treeP_node (by omega)) (by show (100 : Int) ≤ 100; decide) (by show (j : Int) < (d : Int); omega) (by omega) (wrp_id (by omega) (by omega)) (wrp_id (by omega) (by omega)) (fun i hi => ?_) kid
    have hi1 : (i : Int) * gives w m n (x * m) ≤ 3 * (B * 2 * 7 ^ n) := Int.mul_le_mul (by omega) hk.2 hk.1 (by decide)
    have hi0 : 0 ≤ (i : Int) * gives w m n (x * m) := Int.mul_nonneg (by omega) hk.1
    exact wrp_id (by omega) (by omega)
end Go.Proofs.YtpmapdialjdcbaaDoor
