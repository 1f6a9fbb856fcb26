/-
  Helpers: C2Data, EvP, EvQ, EvC.
-/
import Derived.Test.YtpmapdialjdcbaaDoorBunebffe6de244d
import Derived.Test.YtpmapdialjdcbaaDoorBunf7d7f948a43b
import Derived.WalkKit
namespace Go.Proofs.YtpmapdialjdcbaaDoor.C2
open Go.RowKit

/-- an instruction -/
structure In where
  o : Int
  a : Int
  b : Int
  c : Int
/-- a program -/
structure Pr where
  fs : List (List In)
  futs : Int
  depth : Int
  fuel : Int
def insV (i : In) : Value := .agg #[.int .i64 i.o, .int .i64 i.a, .int .i64 i.b, .int .i64 i.c]
/-- an instruction's four cells -/
structure InsAt (w : World) (g f : Nat) (i : In) : Prop where
  c0 : w.cell? ⟨g, f, none⟩ = some (.int .i64 i.o)
  c1 : w.cell? ⟨g, f + 1, none⟩ = some (.int .i64 i.a)
  c2 : w.cell? ⟨g, f + 2, none⟩ = some (.int .i64 i.b)
  c3 : w.cell? ⟨g, f + 3, none⟩ = some (.int .i64 i.c)
/-- a slice of instructions -/
def SlI (w : World) (v : Value) (xs : List In) : Prop :=
  ∃ ad cap, v = .slice ad xs.length cap ∧ ∀ k (h : k < xs.length), ∃ g f, ad = some ⟨g, f, none⟩ ∧ InsAt w g (f + k * 4) xs[k]
/-- a slice of functions -/
def SlF (w : World) (v : Value) (fs : List (List In)) : Prop :=
  ∃ ad cap, v = .slice ad fs.length cap ∧ ∀ k (h : k < fs.length), ∃ g f u, ad = some ⟨g, f, none⟩ ∧ w.cell? ⟨g, f + k, none⟩ = some u ∧ SlI w u fs[k]
/-- whatever cell there is stays as it is -/
def Still (w w' : World) : Prop := ∀ a v, w.cell? a = some v → w'.cell? a = some v
theorem still_of_below {w w' : World} (h : Below w.heap.size w w') : Still w w' := fun a v hv => by rw [h.cell (block_lt_of_cell hv)]; exact hv
theorem InsAt.still {w w' : World} {g f : Nat} {i : In} (h : InsAt w g f i) (hs : Still w w') : InsAt w' g f i := ⟨hs _ _ h.c0, hs _ _ h.c1, hs _ _ h.c2, hs _ _ h.c3⟩
theorem SlI.still {w w' : World} {v : Value} {xs : List In} (h : SlI w v xs) (hs : Still w w') : SlI w' v xs := by
  obtain ⟨ad, cap, hv, hx⟩ := h
  refine ⟨ad, cap, hv, fun k hk => ?_⟩
  obtain ⟨g, f, h1, h2⟩ := hx k hk
  exact ⟨g, f, h1, h2.still hs⟩
theorem SlF.still {w w' : World} {v : Value} {fs : List (List In)} (h : SlF w v fs) (hs : Still w w') : SlF w' v fs := by
  obtain ⟨ad, cap, hv, hx⟩ := h
  refine ⟨ad, cap, hv, fun k hk => ?_⟩
  obtain ⟨g, f, u, h1, h2, h3⟩ := hx k hk
  exact ⟨g, f, u, h1, hs _ _ h2, h3.still hs⟩
theorem still_alloc (w : World) (o : Obj) : Still w (w.alloc o) := still_of_below ((Below.refl _ _).alloc (Nat.le_refl _) _)
def proV (fv : Value) (futs depth fuel : Int) : Value := .agg #[fv, .int .i64 futs, .int .i64 depth, .int .i64 fuel]

def bigB (fs : List (List In)) : Bool := decide (12 < fs.length) || fs.any fun f => decide (40 < f.length)
def shapeI (i : In) : Bool := shapeB i.o i.a i.b i.c
def soundB (p : Pr) : Bool := (p.fs.all fun f => f.all shapeI) && (inB p.futs 0 16 && inB p.depth 0 5 && inB p.fuel 1 500)
theorem big_at {fs : List (List In)} {k : Nat} (h : k < fs.length) (h2 : 40 < fs[k].length) : bigB fs = true := by
  have : (fs.any fun f => decide (40 < f.length)) = true := List.any_eq_true.2 ⟨fs[k], List.getElem_mem h, by simpa using h2⟩
  simp [bigB, this]
theorem big_not {fs : List (List In)} (h1 : ¬ 12 < fs.length) (h2 : ∀ k (h : k < fs.length), ¬ 40 < fs[k].length) : bigB fs = false := by
  have : (fs.any fun f => decide (40 < f.length)) = false := by
    rw [List.any_eq_false]
    intro f hf
    obtain ⟨k, hk, rfl⟩ := List.getElem_of_mem hf
    simpa using h2 k hk
  simp [bigB, this]
  omega
end Go.Proofs.YtpmapdialjdcbaaDoor.C2
namespace Go.Proofs.YtpmapdialjdcbaaDoor

abbrev In7 := C2.In
abbrev Pg7 := C2.Pr
structure En where
  h : Int
  v : Int
structure Rn where
  key : Int
  fn : Int
  arg : Int
  e : En
structure Rs where
  ran : List Rn
  futs : List Int
  was : List Bool
  steps : Nat
  forks : Nat
  over : Bool
structure Ts where
  reg : List Int
  has : List Bool
  hand : List En
  fn : Nat
  at_ : Nat
  fuel : Nat
  forks : Nat
  key : Int
  e : En
def en0 : En := ⟨0, 0⟩
def wrp (x : Int) : Int := (x + 2147483648) % 4294967296 - 2147483648
def ts0 (fn : Nat) (arg : Int) (key : Int) (fuel : Nat) : Ts := ⟨[wrp arg, 0, 0, 0, 0, 0, 0, 0], [false, false, false, false], [en0, en0, en0, en0], fn, 0, fuel, 0, key, en0⟩
/-- by key -/
def putR : List Rn → Rn → List Rn
  | [], x => [x]
  | a :: l, x => if a.key < x.key then a :: putR l x else x :: a :: l
def rg (t : Ts) (i : Int) : Int := t.reg.getD i.toNat 0
def Ts.put (t : Ts) (i v : Int) : Ts := { t with reg := t.reg.set i.toNat v }
def Ts.ends (t : Ts) (h : Int) : Ts := { t with e := ⟨h, t.e.v⟩ }
def lessI (x y : Int) : Int := if x < y then 1 else 0
/-- an instruction that is no fork -/
def oneP (r : Rs) (t : Ts) (x : In7) : Rs × Ts :=
  if x.o = 1 then (r, t.put x.a x.b)
  else if x.o = 2 then (r, t.put x.a (wrp (rg t x.b + rg t x.c)))
  else if x.o = 3 then (r, t.put x.a (wrp (rg t x.b - rg t x.c)))
  else if x.o = 4 then (r, t.put x.a (wrp (rg t x.b * rg t x.c)))
  else if x.o = 5 then (if rg t x.c = 0 then (r, t.ends 2) else (r, t.put x.a (wrp ((rg t x.b).tdiv (rg t x.c)))))
  else if x.o = 6 then (r, t.put x.a (lessI (rg t x.b) (rg t x.c)))
  else if x.o = 7 then (r, { t with at_ := x.a.toNat })
  else if x.o = 8 then (r, if rg t x.a = 0 then { t with at_ := x.b.toNat } else t)
  else if x.o = 10 then (r, if t.has.getD x.b.toNat false = false then t.ends 7 else
    let e := t.hand.getD x.b.toNat en0
    let t1 : Ts := { t with has := t.has.set x.b.toNat false }
    if e.h ≠ 1 then t1.ends e.h else t1.put x.a e.v)
  else if x.o = 11 then (if r.was.getD x.a.toNat false = true then (r, t.ends 3) else ({ r with was := r.was.set x.a.toNat true, futs := r.futs.set x.a.toNat (rg t x.b) }, t))
  else if x.o = 12 then (if r.was.getD x.b.toNat false = false then (r, t.ends 4) else (r, t.put x.a (r.futs.getD x.b.toNat 0)))
  else if x.o = 13 then (r, if t.has.getD x.a.toNat false = false then t.ends 7 else t)
  else if x.o = 15 then (r, { t with e := ⟨1, rg t x.a⟩ })
  else (r, t)
section
variable (p : Pg7) (most : Nat) (depth : Int → Int) (child : Int → Int → Int)
def ins7 (t : Ts) : In7 := (p.fs.getD t.fn []).getD t.at_ ⟨0, 0, 0, 0⟩
/-- a task told as one that ran -/
def told (r : Rs) (fn : Int) (arg key : Int) (e : En) : Rs := if r.over = true then r else { r with ran := putR r.ran ⟨key, fn, wrp arg, e⟩ }
def loopP : Nat → Rs → Ts → Rs × Ts
  | n, r, t => if t.e.h ≠ 0 ∨ r.over = true then (r, t) else if t.fuel = 0 then (r, t.ends 5) else if most ≤ r.steps then ({ r with over := true }, t) else
    match n with
    | 0 => ({ r with over := true }, t)
    | n + 1 =>
      let r1 : Rs := { r with steps := r.steps + 1 }
      let x := ins7 p t
      let t1 : Ts := { t with fuel := t.fuel - 1, at_ := t.at_ + 1 }
      if x.o = 9 then
        if p.depth ≤ depth t.key then loopP n r1 (t1.ends 6)
        else if 1000 ≤ t.forks then loopP n r1 (t1.ends 9)
        else
          let k := child t.key (t.forks + 1)
          let q := loopP n { r1 with forks := r1.forks + 1 } (ts0 x.b.toNat (rg t x.c) k p.fuel.toNat)
          loopP n (told q.1 x.b (rg t x.c) k q.2.e) { t1 with forks := t.forks + 1, has := t.has.set x.a.toNat true, hand := t.hand.set x.a.toNat q.2.e }
      else
        let q := oneP r1 t1 x
        loopP n q.1 q.2
/-- how the root ended, and what was seen -/
def runP (arg : Int) : Rs × En :=
  let q := loopP p most depth child most ⟨[], List.replicate p.futs.toNat 0, List.replicate p.futs.toNat false, 0, 0, false⟩ (ts0 0 arg 1125899906842624 p.fuel.toNat)
  if q.1.over = true then (⟨[], [], [], 0, 0, true⟩, en0) else (told q.1 0 arg 1125899906842624 q.2.e, q.2.e)
end
end Go.Proofs.YtpmapdialjdcbaaDoor
namespace Go.Proofs.YtpmapdialjdcbaaDoor

def KpR (r : Rs) (q : Rs × Ts) : Prop := q.1.steps = r.steps ∧ q.1.over = r.over ∧ q.1.ran = r.ran ∧ q.1.forks = r.forks
theorem keep {r : Rs} {c : Prop} [Decidable c] {a b : Rs × Ts} (ha : KpR r a) (hb : KpR r b) : KpR r (if c then a else b) := by
  by_cases h : c
  · rw [if_pos h]; exact ha
  · rw [if_neg h]; exact hb
theorem oneP_steps (r : Rs) (t : Ts) (x : In7) : (oneP r t x).1.steps = r.steps ∧ (oneP r t x).1.over = r.over ∧ (oneP r t x).1.ran = r.ran ∧ (oneP r t x).1.forks = r.forks := by
  show KpR r (oneP r t x)
  unfold oneP
  repeat' (first | exact ⟨rfl, rfl, rfl, rfl⟩ | refine keep ?_ ?_)
theorem told_steps (r : Rs) (fn arg key : Int) (e : En) : (told r fn arg key e).steps = r.steps ∧ (told r fn arg key e).over = r.over := by
  unfold told
  split <;> exact ⟨rfl, rfl⟩
section
variable (p : Pg7) (most : Nat) (depth : Int → Int) (child : Int → Int → Int)
/-- a task that goes on -/
def goesB (r : Rs) (t : Ts) : Prop := t.e.h = 0 ∧ r.over = false ∧ t.fuel ≠ 0 ∧ r.steps < most
theorem loopP_end {n : Nat} {r : Rs} {t : Ts} (h : t.e.h ≠ 0 ∨ r.over = true) : loopP p most depth child n r t = (r, t) := by
  unfold loopP
  rw [if_pos h]
theorem loopP_fuel {n : Nat} {r : Rs} {t : Ts} (h1 : t.e.h = 0) (h2 : r.over = false) (h3 : t.fuel = 0) : loopP p most depth child n r t = (r, t.ends 5) := by
  unfold loopP
  rw [if_neg (by simp [h1, h2]), if_pos h3]
theorem loopP_over {n : Nat} {r : Rs} {t : Ts} (h1 : t.e.h = 0) (h2 : r.over = false) (h3 : t.fuel ≠ 0) (h4 : most ≤ r.steps) : loopP p most depth child n r t = ({ r with over := true }, t) := by
  unfold loopP
  rw [if_neg (by simp [h1, h2]), if_neg h3, if_pos h4]
/-- one instruction more -/
def up1 (r : Rs) : Rs := { r with steps := r.steps + 1 }
def down1 (t : Ts) : Ts := { t with fuel := t.fuel - 1, at_ := t.at_ + 1 }
def forkR (r : Rs) : Rs := { r with forks := r.forks + 1 }
def forkT (t : Ts) (a : Int) (e : En) : Ts := { t with forks := t.forks + 1, has := t.has.set a.toNat true, hand := t.hand.set a.toNat e }
def bodyP (L : Rs → Ts → Rs × Ts) (r : Rs) (t : Ts) : Rs × Ts :=
  if (ins7 p t).o = 9 then
    if p.depth ≤ depth t.key then L (up1 r) ((down1 t).ends 6)
    else if 1000 ≤ t.forks then L (up1 r) ((down1 t).ends 9)
    else L (told (L (forkR (up1 r)) (ts0 (ins7 p t).b.toNat (rg t (ins7 p t).c) (child t.key (t.forks + 1)) p.fuel.toNat)).1 (ins7 p t).b (rg t (ins7 p t).c) (child t.key (t.forks + 1)) (L (forkR (up1 r)) (ts0 (ins7 p t).b.toNat (rg t (ins7 p t).c) (child t.key (t.forks + 1)) p.fuel.toNat)).2.e) (forkT (down1 t) (ins7 p t).a (L (forkR (up1 r)) (ts0 (ins7 p t).b.toNat (rg t (ins7 p t).c) (child t.key (t.forks + 1)) p.fuel.toNat)).2.e)
  else L (oneP (up1 r) (down1 t) (ins7 p t)).1 (oneP (up1 r) (down1 t) (ins7 p t)).2
theorem loopP_step {n : Nat} {r : Rs} {t : Ts} (h : goesB most r t) : loopP p most depth child (n + 1) r t = bodyP p depth child (loopP p most depth child n) r t := by
  obtain ⟨h1, h2, h3, h4⟩ := h
  conv => lhs; unfold loopP
  rw [if_neg (by simp [h1, h2]), if_neg h3, if_neg (by omega)]
  rfl
theorem steps_mono : ∀ (n : Nat) (r : Rs) (t : Ts), r.steps ≤ (loopP p most depth child n r t).1.steps
  | n, r, t => by
    by_cases h0 : t.e.h ≠ 0 ∨ r.over = true
    · rw [loopP_end p most depth child h0]; exact Nat.le_refl _
    have e1 : t.e.h = 0 := by
      by_cases h : t.e.h = 0
      · exact h
      · exact absurd (.inl h) h0
    have e2 : r.over = false := by
      cases h : r.over with
      | false => rfl
      | true => exact absurd (.inr h) h0
    by_cases h3 : t.fuel = 0
    · rw [loopP_fuel p most depth child e1 e2 h3]; exact Nat.le_refl _
    by_cases h4 : most ≤ r.steps
    · rw [loopP_over p most depth child e1 e2 h3 h4]; exact Nat.le_refl _
    cases n with
    | zero =>
      unfold loopP
      rw [if_neg h0, if_neg h3, if_neg h4]
      exact Nat.le_refl _
    | succ n =>
      rw [loopP_step p most depth child ⟨e1, e2, h3, by omega⟩]
      have hu : (up1 r).steps = r.steps + 1 := rfl
      have hf : (forkR (up1 r)).steps = r.steps + 1 := rfl
      unfold bodyP
      split
      · split
        · have := steps_mono n (up1 r) ((down1 t).ends 6); omega
        · split
          · have := steps_mono n (up1 r) ((down1 t).ends 9); omega
          · refine Nat.le_trans ?_ (steps_mono n _ _)
            rw [(told_steps _ _ _ _ _).1]
            have := steps_mono n (forkR (up1 r)) (ts0 (ins7 p t).b.toNat (rg t (ins7 p t).c) (child t.key (t.forks + 1)) p.fuel.toNat)
            omega
      · refine Nat.le_trans ?_ (steps_mono n _ _)
        rw [(oneP_steps _ _ _).1]
        omega
theorem loopP_same : ∀ (n m : Nat) (r : Rs) (t : Ts), most - r.steps ≤ n → most - r.steps ≤ m → loopP p most depth child n r t = loopP p most depth child m r t
  | n, m, r, t, hn, hm => by
    by_cases h0 : t.e.h ≠ 0 ∨ r.over = true
    · rw [loopP_end p most depth child h0, loopP_end p most depth child h0]
    have e1 : t.e.h = 0 := by
      by_cases h : t.e.h = 0
      · exact h
      · exact absurd (.inl h) h0
    have e2 : r.over = false := by
      cases h : r.over with
      | false => rfl
      | true => exact absurd (.inr h) h0
    by_cases h3 : t.fuel = 0
    · rw [loopP_fuel p most depth child e1 e2 h3, loopP_fuel p most depth child e1 e2 h3]
    by_cases h4 : most ≤ r.steps
    · rw [loopP_over p most depth child e1 e2 h3 h4, loopP_over p most depth child e1 e2 h3 h4]
    obtain ⟨n, rfl⟩ : ∃ k, n = k + 1 := ⟨n - 1, by omega⟩
    obtain ⟨m, rfl⟩ : ∃ k, m = k + 1 := ⟨m - 1, by omega⟩
    rw [loopP_step p most depth child ⟨e1, e2, h3, by omega⟩, loopP_step p most depth child ⟨e1, e2, h3, by omega⟩]
    have hu : (up1 r).steps = r.steps + 1 := rfl
    have hf : (forkR (up1 r)).steps = r.steps + 1 := rfl
    have ih := fun (r' : Rs) (t' : Ts) (h : r.steps + 1 ≤ r'.steps) => loopP_same n m r' t' (by omega) (by omega)
    unfold bodyP
    split
    · split
      · exact ih _ _ (by omega)
      · split
        · exact ih _ _ (by omega)
        · rw [ih (forkR (up1 r)) _ (by omega)]
          refine ih _ _ ?_
          rw [(told_steps _ _ _ _ _).1]
          have := steps_mono p most depth child m (forkR (up1 r)) (ts0 (ins7 p t).b.toNat (rg t (ins7 p t).c) (child t.key (t.forks + 1)) p.fuel.toNat)
          omega
    · refine ih _ _ ?_
      rw [(oneP_steps _ _ _).1]
      omega
/-- a task to its end -/
def evP (r : Rs) (t : Ts) : Rs × Ts := loopP p most depth child most r t
theorem evP_end {r : Rs} {t : Ts} (h : t.e.h ≠ 0 ∨ r.over = true) : evP p most depth child r t = (r, t) := loopP_end p most depth child h
theorem evP_fuel {r : Rs} {t : Ts} (h1 : t.e.h = 0) (h2 : r.over = false) (h3 : t.fuel = 0) : evP p most depth child r t = (r, t.ends 5) := loopP_fuel p most depth child h1 h2 h3
theorem evP_over {r : Rs} {t : Ts} (h1 : t.e.h = 0) (h2 : r.over = false) (h3 : t.fuel ≠ 0) (h4 : most ≤ r.steps) : evP p most depth child r t = ({ r with over := true }, t) := loopP_over p most depth child h1 h2 h3 h4
theorem evP_step {r : Rs} {t : Ts} (h : goesB most r t) : evP p most depth child r t = bodyP p depth child (evP p most depth child) r t := by
  have hs := h.2.2.2
  unfold evP
  rw [loopP_same p most depth child most (most + 1) r t (by omega) (by omega), loopP_step p most depth child h]
theorem evP_mono (r : Rs) (t : Ts) : r.steps ≤ (evP p most depth child r t).1.steps := steps_mono p most depth child most r t
end
end Go.Proofs.YtpmapdialjdcbaaDoor
namespace Go.Proofs.YtpmapdialjdcbaaDoor

section
variable (p : Pg7) (depth : Int → Int) (child : Int → Int → Int)
theorem goes_or (most : Nat) (r : Rs) (t : Ts) : (t.e.h ≠ 0 ∨ r.over = true) ∨ (t.e.h = 0 ∧ r.over = false ∧ t.fuel = 0) ∨ (t.e.h = 0 ∧ r.over = false ∧ t.fuel ≠ 0 ∧ most ≤ r.steps) ∨ goesB most r t := by
  by_cases h1 : t.e.h = 0
  · cases h2 : r.over with
    | true => exact .inl (.inr rfl)
    | false =>
      by_cases h3 : t.fuel = 0
      · exact .inr (.inl ⟨h1, rfl, h3⟩)
      · by_cases h4 : most ≤ r.steps
        · exact .inr (.inr (.inl ⟨h1, rfl, h3, h4⟩))
        · exact .inr (.inr (.inr ⟨h1, h2, h3, by omega⟩))
  · exact .inl (.inl h1)
/-- the task that a fork makes -/
def kidT (t : Ts) : Ts := ts0 (ins7 p t).b.toNat (rg t (ins7 p t).c) (child t.key (t.forks + 1)) p.fuel.toNat
def kidK (t : Ts) : Int := child t.key (t.forks + 1)
/-- a task's ways on -/
theorem evP_ways {most : Nat} {r : Rs} {t : Ts} (h : goesB most r t) :
    (∃ r' t', r'.steps = r.steps + 1 ∧ r'.over = false ∧ evP p most depth child r t = evP p most depth child r' t' ∧ ∀ M, goesB M r t → evP p M depth child r t = evP p M depth child r' t') ∨
    (∀ M, goesB M r t → evP p M depth child r t = evP p M depth child (told (evP p M depth child (forkR (up1 r)) (kidT p child t)).1 (ins7 p t).b (rg t (ins7 p t).c) (kidK child t) (evP p M depth child (forkR (up1 r)) (kidT p child t)).2.e) (forkT (down1 t) (ins7 p t).a (evP p M depth child (forkR (up1 r)) (kidT p child t)).2.e)) := by
  by_cases h9 : (ins7 p t).o = 9
  · by_cases hd : p.depth ≤ depth t.key
    · refine .inl ⟨up1 r, (down1 t).ends 6, rfl, h.2.1, ?_, fun M hM => ?_⟩
      · rw [evP_step p most depth child h]; unfold bodyP; rw [if_pos h9, if_pos hd]
      · rw [evP_step p M depth child hM]; unfold bodyP; rw [if_pos h9, if_pos hd]
    · by_cases hf : 1000 ≤ t.forks
      · refine .inl ⟨up1 r, (down1 t).ends 9, rfl, h.2.1, ?_, fun M hM => ?_⟩
        · rw [evP_step p most depth child h]; unfold bodyP; rw [if_pos h9, if_neg hd, if_pos hf]
        · rw [evP_step p M depth child hM]; unfold bodyP; rw [if_pos h9, if_neg hd, if_pos hf]
      · refine .inr fun M hM => ?_
        rw [evP_step p M depth child hM]
        unfold bodyP
        rw [if_pos h9, if_neg hd, if_neg hf]
        rfl
  · refine .inl ⟨(oneP (up1 r) (down1 t) (ins7 p t)).1, (oneP (up1 r) (down1 t) (ins7 p t)).2, (oneP_steps _ _ _).1, (oneP_steps _ _ _).2.1.trans h.2.1, ?_, fun M hM => ?_⟩
    · rw [evP_step p most depth child h]; unfold bodyP; rw [if_neg h9]
    · rw [evP_step p M depth child hM]; unfold bodyP; rw [if_neg h9]
theorem over_stays (most : Nat) {r : Rs} (t : Ts) (h : r.over = true) : (evP p most depth child r t).1.over = true := by rw [evP_end p most depth child (.inr h)]; exact h
theorem cut_same (M : Nat) : ∀ (n : Nat) (r : Rs) (t : Ts), M - r.steps ≤ n → (evP p M depth child r t).1.over = false → ∀ M', (evP p M depth child r t).1.steps ≤ M' → evP p M' depth child r t = evP p M depth child r t := by
  intro n
  induction n with
  | zero =>
    intro r t hn ho M' hM
    rcases goes_or M r t with h | ⟨h1, h2, h3⟩ | ⟨h1, h2, h3, h4⟩ | h
    · rw [evP_end p M' depth child h, evP_end p M depth child h]
    · rw [evP_fuel p M' depth child h1 h2 h3, evP_fuel p M depth child h1 h2 h3]
    · rw [evP_over p M depth child h1 h2 h3 h4] at ho
      simp at ho
    · have := h.2.2.2
      omega
  | succ n ih =>
    intro r t hn ho M' hM
    rcases goes_or M r t with h | ⟨h1, h2, h3⟩ | ⟨h1, h2, h3, h4⟩ | h
    · rw [evP_end p M' depth child h, evP_end p M depth child h]
    · rw [evP_fuel p M' depth child h1 h2 h3, evP_fuel p M depth child h1 h2 h3]
    · rw [evP_over p M depth child h1 h2 h3 h4] at ho
      simp at ho
    · have hs := h.2.2.2
      rcases evP_ways p depth child h with ⟨r', t', k1, k2, k3, k4⟩ | k
      · rw [k3] at ho hM ⊢
        have hm := evP_mono p M depth child r' t'
        rw [k4 M' ⟨h.1, h.2.1, h.2.2.1, by omega⟩]
        exact ih r' t' (by omega) ho M' hM
      · have kM := k M h
        have hf : (forkR (up1 r)).steps = r.steps + 1 := rfl
        have m1 := evP_mono p M depth child (forkR (up1 r)) (kidT p child t)
        have m2 := evP_mono p M depth child (told (evP p M depth child (forkR (up1 r)) (kidT p child t)).1 (ins7 p t).b (rg t (ins7 p t).c) (kidK child t) (evP p M depth child (forkR (up1 r)) (kidT p child t)).2.e) (forkT (down1 t) (ins7 p t).a (evP p M depth child (forkR (up1 r)) (kidT p child t)).2.e)
        rw [(told_steps _ _ _ _ _).1, ← kM] at m2
        have hc : (evP p M depth child (forkR (up1 r)) (kidT p child t)).1.over = false := by
          cases hh : (evP p M depth child (forkR (up1 r)) (kidT p child t)).1.over with
          | false => rfl
          | true =>
            rw [kM, over_stays p depth child M _ ((told_steps _ _ _ _ _).2.trans hh)] at ho
            simp at ho
        rw [k M' ⟨h.1, h.2.1, h.2.2.1, by omega⟩, ih _ _ (by omega) hc M' (by omega), kM]
        rw [kM] at ho hM
        refine ih _ _ ?_ ho M' hM
        rw [(told_steps _ _ _ _ _).1]
        omega
theorem cut_over (M : Nat) : ∀ (n : Nat) (r : Rs) (t : Ts), M - r.steps ≤ n → (evP p M depth child r t).1.over = false → ∀ M', r.steps ≤ M' → M' < (evP p M depth child r t).1.steps → (evP p M' depth child r t).1.over = true := by
  intro n
  induction n with
  | zero =>
    intro r t hn ho M' hr hM
    rcases goes_or M r t with h | ⟨h1, h2, h3⟩ | ⟨h1, h2, h3, h4⟩ | h
    · rw [evP_end p M depth child h] at hM; simp only at hM; omega
    · rw [evP_fuel p M depth child h1 h2 h3] at hM; simp only at hM; omega
    · rw [evP_over p M depth child h1 h2 h3 h4] at ho
      simp at ho
    · have := h.2.2.2
      omega
  | succ n ih =>
    intro r t hn ho M' hr hM
    rcases goes_or M r t with h | ⟨h1, h2, h3⟩ | ⟨h1, h2, h3, h4⟩ | h
    · rw [evP_end p M depth child h] at hM; simp only at hM; omega
    · rw [evP_fuel p M depth child h1 h2 h3] at hM; simp only at hM; omega
    · rw [evP_over p M depth child h1 h2 h3 h4] at ho
      simp at ho
    · have hs := h.2.2.2
      by_cases hM' : M' = r.steps
      · rw [evP_over p M' depth child h.1 h.2.1 h.2.2.1 (by omega)]
      have hg : goesB M' r t := ⟨h.1, h.2.1, h.2.2.1, by omega⟩
      rcases evP_ways p depth child h with ⟨r', t', k1, k2, k3, k4⟩ | k
      · rw [k3] at ho hM
        rw [k4 M' hg]
        exact ih r' t' (by omega) ho M' (by omega) hM
      · have kM := k M h
        have hf : (forkR (up1 r)).steps = r.steps + 1 := rfl
        have m1 := evP_mono p M depth child (forkR (up1 r)) (kidT p child t)
        have hc : (evP p M depth child (forkR (up1 r)) (kidT p child t)).1.over = false := by
          cases hh : (evP p M depth child (forkR (up1 r)) (kidT p child t)).1.over with
          | false => rfl
          | true =>
            rw [kM, over_stays p depth child M _ ((told_steps _ _ _ _ _).2.trans hh)] at ho
            simp at ho
        rw [k M' hg]
        by_cases hk : (evP p M depth child (forkR (up1 r)) (kidT p child t)).1.steps ≤ M'
        · rw [cut_same p depth child M n _ _ (by omega) hc M' hk]
          rw [kM] at ho hM
          refine ih _ _ ?_ ho M' ?_ hM
          · rw [(told_steps _ _ _ _ _).1]; omega
          · rw [(told_steps _ _ _ _ _).1]; exact hk
        · exact over_stays p depth child M' _ ((told_steps _ _ _ _ _).2.trans (ih _ _ (by omega) hc M' (by omega) (by omega)))
end
end Go.Proofs.YtpmapdialjdcbaaDoor
