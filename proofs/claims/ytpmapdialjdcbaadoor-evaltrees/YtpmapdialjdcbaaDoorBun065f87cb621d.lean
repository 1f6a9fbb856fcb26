/-
  Helpers: V5Vd, EvI, EvK, V5Vh.
-/
import Derived.Test.YtpmapdialjdcbaaDoorBun500076cf42fb
import Derived.Test.YtpmapdialjdcbaaDoorBun1656f430e3f7
import Derived.Deep.RegionLaw
import Derived.Test.YtpmapdialjdcbaaDoorBunc118e3978f6b
import Derived.Test.YtpmapdialjdcbaaDoorBun35e905bdedf4
import Derived.Deep.RegionHeld3
namespace Go.Proofs.YtpmapdialjdcbaaDoor.V5
open Go.RowKit
open C2 (In Pr SlF SlI InsAt Tab BoxedP below_alloc below_then still_of_below putE)

/-- an instruction stays in its program -/
def rightB (nf futs n : Int) (x : In) : Bool :=
  if x.o = 7 then decide (x.a < n) else if x.o = 8 then decide (x.b < n) else if x.o = 9 then decide (x.b < nf) else if x.o = 11 then decide (x.a < futs) else if x.o = 12 then decide (x.b < futs) else true
def lastOp (f : List In) : Int := match f.getLast? with
  | some x => x.o
  | none => 0
def endB (f : List In) : Bool := decide (lastOp f = 7) || decide (lastOp f = 15)
def holdsB (op : Int) (sel : In → Int) (lim : Int) (f : List In) : Bool := f.all fun x => !(decide (x.o = op) && decide (lim ≤ sel x))
def chkB (nf futs : Int) (f : List In) (k : Nat) : Bool :=
  if k = 0 then decide (0 < f.length) else if k = 1 then endB f else if k = 2 then holdsB 7 In.a f.length f else if k = 3 then holdsB 8 In.b f.length f else if k = 4 then holdsB 9 In.b nf f else if k = 5 then holdsB 11 In.a futs f else holdsB 12 In.b futs f
def fnB (nf futs : Int) (f : List In) : Bool := decide (0 < f.length) && (endB f && f.all (rightB nf futs f.length))
def checkF (p : Pr) : Int := if putE p = 0 then (if 0 < p.fs.length ∧ (p.fs.all (fnB p.fs.length p.futs)) = true then 0 else 5) else putE p
theorem holds_at {op : Int} {sel : In → Int} {lim : Int} {f : List In} : holdsB op sel lim f = true ↔ ∀ x ∈ f, x.o = op → sel x < lim := by
  simp only [holdsB, List.all_eq_true, Bool.not_eq_true', Bool.and_eq_false_iff, decide_eq_false_iff_not]
  constructor
  · intro h x hx ho
    rcases h x hx with h | h
    · exact absurd ho h
    · omega
  · intro h x hx
    by_cases ho : x.o = op
    · exact .inr (by have := h x hx ho; omega)
    · exact .inl ho
theorem right_iff {nf futs n : Int} {x : In} : rightB nf futs n x = true ↔ (x.o = 7 → x.a < n) ∧ (x.o = 8 → x.b < n) ∧ (x.o = 9 → x.b < nf) ∧ (x.o = 11 → x.a < futs) ∧ (x.o = 12 → x.b < futs) := by
  unfold rightB
  constructor
  · intro h
    refine ⟨fun e => ?_, fun e => ?_, fun e => ?_, fun e => ?_, fun e => ?_⟩ <;> simp [e] at h <;> exact h
  · rintro ⟨h1, h2, h3, h4, h5⟩
    repeat' split
    all_goals simp_all
theorem fn_iff {nf futs : Int} {f : List In} : fnB nf futs f = true ↔ ∀ k, k < 7 → chkB nf futs f k = true := by
  simp only [fnB, Bool.and_eq_true, List.all_eq_true, right_iff, decide_eq_true_eq]
  constructor
  · rintro ⟨h0, h1, h⟩ k hk
    rcases (by omega : k = 0 ∨ k = 1 ∨ k = 2 ∨ k = 3 ∨ k = 4 ∨ k = 5 ∨ k = 6) with rfl | rfl | rfl | rfl | rfl | rfl | rfl
    · simpa [chkB] using h0
    · simpa [chkB] using h1
    all_goals (simp [chkB]; rw [holds_at]; intro x hx ho)
    · exact (h x hx).1 ho
    · exact (h x hx).2.1 ho
    · exact (h x hx).2.2.1 ho
    · exact (h x hx).2.2.2.1 ho
    · exact (h x hx).2.2.2.2 ho
  · intro h
    have g := fun k hk => h k hk
    have h0 := h 0 (by omega)
    have h1 := h 1 (by omega)
    have h2 := h 2 (by omega)
    have h3 := h 3 (by omega)
    have h4 := h 4 (by omega)
    have h5 := h 5 (by omega)
    have h6 := h 6 (by omega)
    simp [chkB, holds_at] at h0 h1 h2 h3 h4 h5 h6
    exact ⟨h0, h1, fun x hx => ⟨h2 x hx, h3 x hx, h4 x hx, h5 x hx, h6 x hx⟩⟩

theorem insBox (w : World) (x : In) (t : TypeId) : ((w.alloc (.cells #[.int .i64 x.o, .int .i64 x.a, .int .i64 x.b, .int .i64 x.c] t)).cell? ⟨w.heap.size, 1, none⟩ = some (.int .i64 x.a)) ∧ ((w.alloc (.cells #[.int .i64 x.o, .int .i64 x.a, .int .i64 x.b, .int .i64 x.c] t)).cell? ⟨w.heap.size, 2, none⟩ = some (.int .i64 x.b)) := by
  constructor
  · rw [cell_of_row _ _ _ _ _ _ (heap_alloc_new _ _)]; rfl
  · rw [cell_of_row _ _ _ _ _ _ (heap_alloc_new _ _)]; rfl
theorem operandA_any (x : In) (w : World) : Calls Tryd.prog 44 #[.agg #[.int .i64 x.o, .int .i64 x.a, .int .i64 x.b, .int .i64 x.c]] w fun e w' => e = .returned (.int .i64 x.a) ∧ Below w.heap.size w w' := by
  go_enter Tryd.func44, Tryd.ntmps44
  go_wp2_with fail
  go_ret
  exact ⟨rfl, below_alloc (Below.refl _ _) _⟩
theorem operandB_any (x : In) (w : World) : Calls Tryd.prog 47 #[.agg #[.int .i64 x.o, .int .i64 x.a, .int .i64 x.b, .int .i64 x.c]] w fun e w' => e = .returned (.int .i64 x.b) ∧ Below w.heap.size w w' := by
  go_enter Tryd.func47, Tryd.ntmps47
  go_wp2_with fail
  go_ret
  exact ⟨rfl, below_alloc (Below.refl _ _) _⟩
theorem places_any (fv : Value) (a b c : Int) (ia : Option Addr) (n ic : Nat) (w : World) : Calls Tryd.prog 45 #[.agg #[fv, .int .i64 a, .int .i64 b, .int .i64 c], .slice ia n ic] w fun e w' => e = .returned (.int .i64 n) ∧ Below w.heap.size w w' := by
  go_enter Tryd.func45, Tryd.ntmps45
  go_wp2_with fail
  go_ret
  exact ⟨rfl, below_alloc (Below.refl _ _) _⟩
theorem functions_any (fa : Option Addr) (fl fc : Nat) (a b c : Int) (v : Value) (w : World) : Calls Tryd.prog 48 #[.agg #[.slice fa fl fc, .int .i64 a, .int .i64 b, .int .i64 c], v] w fun e w' => e = .returned (.int .i64 fl) ∧ Below w.heap.size w w' := by
  go_enter Tryd.func48, Tryd.ntmps48
  go_wp2_with fail
  go_ret
  exact ⟨rfl, below_alloc (Below.refl _ _) _⟩
theorem futures_any (fv : Value) (a b c : Int) (v : Value) (w : World) : Calls Tryd.prog 49 #[.agg #[fv, .int .i64 a, .int .i64 b, .int .i64 c], v] w fun e w' => e = .returned (.int .i64 a) ∧ Below w.heap.size w w' := by
  go_enter Tryd.func49, Tryd.ntmps49
  go_wp2_with fail
  go_ret
  exact ⟨rfl, below_alloc (Below.refl _ _) _⟩
theorem hasIns_any (fv : Value) (a b c : Int) (ia : Option Addr) (n ic : Nat) (w : World) : Calls Tryd.prog 42 #[.agg #[fv, .int .i64 a, .int .i64 b, .int .i64 c], .slice ia n ic] w fun e w' => e = .returned (.bool (decide (0 < n))) ∧ Below w.heap.size w w' := by
  go_enter Tryd.func42, Tryd.ntmps42
  go_wp2_with fail
  go_ret
  exact ⟨by simp, below_alloc (Below.refl _ _) _⟩
theorem lastOp_at {f : List In} (h : 0 < f.length) : lastOp f = (f[f.length - 1]'(by omega)).o := by
  unfold lastOp
  rw [List.getLast?_eq_getElem?, List.getElem?_eq_getElem (by omega)]
theorem ends_any (fv : Value) (a b c : Int) (v : Value) (f : List In) (w : World) (hI : SlI w v f) (h0 : 0 < f.length) (h1 : f.length ≤ 1000000) : Calls Tryd.prog 43 #[.agg #[fv, .int .i64 a, .int .i64 b, .int .i64 c], v] w fun e w' => e = .returned (.bool (endB f)) ∧ Below w.heap.size w w' := by
  have hI1 := hI.still (still_of_below (below_alloc (Below.refl w.heap.size w) (.cells #[fv, .int .i64 a, .int .i64 b, .int .i64 c] 24)))
  obtain ⟨ia, ic, rfl, hk⟩ := hI1
  obtain ⟨g, o, rfl, hx⟩ := hk (f.length - 1) (by omega)
  have c0 := hx.c0
  have e : lastOp f = (f[f.length - 1]'(by omega)).o := lastOp_at h0
  rw [← e] at c0
  unfold endB
  generalize lastOp f = z at *
  clear hk hx hI e
  obtain ⟨m, hm⟩ : ∃ m, f.length = m + 1 := ⟨f.length - 1, by omega⟩
  rw [hm] at c0 ⊢
  have hm1 : m ≤ 1000000 := by omega
  clear h0 h1 hm
  rw [Nat.add_sub_cancel] at c0
  by_cases h7 : z = 7
  · subst h7
    go_enter Tryd.func43, Tryd.ntmps43
    go_wp2_with fail
    go_ret
    exact ⟨by simp, below_alloc (Below.refl _ _) _⟩
  · have e7 : (z == 7) = false := by simpa using h7
    go_enter Tryd.func43, Tryd.ntmps43
    go_wp2_with fail
    go_ret
    exact ⟨by simp [h7]; rfl, below_alloc (Below.refl _ _) _⟩
end Go.Proofs.YtpmapdialjdcbaaDoor.V5
namespace Go.Proofs.YtpmapdialjdcbaaDoor
open K6 (Ky und wd ofK)
open C2 (In Pr shapeB shapeI inB lastOf firstOf lastsT)
open V5 (rightB endB lastOp checkF)

/-- a program that may run -/
structure Ok7 (p : Pg7) : Prop where
  d0 : 0 ≤ p.depth
  d5 : p.depth ≤ 5
  f1 : 1 ≤ p.fuel
  f5 : p.fuel ≤ 500
  u0 : 0 ≤ p.futs
  u1 : p.futs ≤ 16
  n0 : 0 < p.fs.length
  n1 : p.fs.length ≤ 12
  fn : ∀ f ∈ p.fs, 0 < f.length ∧ f.length ≤ 40 ∧ endB f = true ∧ ∀ x ∈ f, shapeI x = true ∧ rightB p.fs.length p.futs f.length x = true
theorem ok_of_check {p : Pg7} (h : checkF p = 0) : Ok7 p := by
  unfold checkF at h
  by_cases h0 : C2.putE p = 0
  · rw [if_pos h0] at h
    by_cases h1 : 0 < p.fs.length ∧ (p.fs.all (V5.fnB p.fs.length p.futs)) = true
    · obtain ⟨h1, h2⟩ := h1
      unfold C2.putE at h0
      by_cases hb : C2.bigB p.fs = true
      · rw [if_pos hb] at h0; exact absurd h0 (by decide)
      · rw [if_neg hb] at h0
        by_cases hs : C2.soundB p = true
        · have hb1 : C2.bigB p.fs = false := by simpa using hb
          unfold C2.bigB at hb1
          rw [Bool.or_eq_false_iff] at hb1
          obtain ⟨b1, b2⟩ := hb1
          unfold C2.soundB at hs
          simp only [Bool.and_eq_true, inB, decide_eq_true_eq, List.all_eq_true] at hs
          obtain ⟨s1, ⟨⟨s2, s3⟩, s4⟩⟩ := hs
          refine ⟨s3.1, s3.2, s4.1, s4.2, s2.1, s2.2, h1, by simpa using b1, fun f hf => ?_⟩
          have hf1 := (List.all_eq_true.1 h2) f hf
          unfold V5.fnB at hf1
          simp only [Bool.and_eq_true, decide_eq_true_eq, List.all_eq_true] at hf1
          refine ⟨hf1.1, ?_, hf1.2.1, fun x hx => ⟨s1 f hf x hx, hf1.2.2 x hx⟩⟩
          rw [List.any_eq_false] at b2
          have := b2 f hf
          simpa using this
        · rw [if_neg hs] at h0; exact absurd h0 (by decide)
    · rw [if_neg h1] at h; exact absurd h (by decide)
  · rw [if_neg h0] at h; exact absurd h h0
/-- what an instruction's operands are -/
structure Sh (x : In) : Prop where
  o1 : 1 ≤ x.o
  o15 : x.o ≤ 15
  a0 : 0 ≤ x.a
  r : x.o ≠ 7 → x.o ≠ 11 → x.a ≤ 7
  c1 : x.o = 1 → -2147483648 ≤ x.b ∧ x.b ≤ 2147483647
  b0 : x.o ≠ 1 → 0 ≤ x.b
  c0 : 0 ≤ x.c
  c7 : x.c ≤ 7
  b7 : x.o ≠ 1 → x.o ≠ 8 → x.o ≠ 9 → x.o ≠ 12 → x.b ≤ 7
  a3 : x.o = 9 ∨ x.o = 13 → x.a ≤ 3
  b3 : x.o = 10 → x.b ≤ 3
theorem shape_facts {x : In} (h : shapeI x = true) : Sh x := by
  obtain ⟨o, a, b, c⟩ := x
  unfold shapeI shapeB at h
  simp only [inB, Bool.and_eq_true, decide_eq_true_eq] at h
  obtain ⟨⟨⟨⟨h1, h2⟩, h3, h4⟩, h5, h6⟩, h7, h8⟩ := h
  rcases (by omega : o = 1 ∨ o = 2 ∨ o = 3 ∨ o = 4 ∨ o = 5 ∨ o = 6 ∨ o = 7 ∨ o = 8 ∨ o = 9 ∨ o = 10 ∨ o = 11 ∨ o = 12 ∨ o = 13 ∨ o = 14 ∨ o = 15) with rfl | rfl | rfl | rfl | rfl | rfl | rfl | rfl | rfl | rfl | rfl | rfl | rfl | rfl | rfl
  all_goals
    simp [lastOf, lastsT, firstOf] at h3 h4 h5 h6 h7 h8
    refine ⟨by simp, by simp, ?_, ?_, ?_, ?_, ?_, ?_, ?_, ?_, ?_⟩ <;> simp only <;> first | (intros; omega) | omega
theorem wrp_fix {x : Int} (h1 : -2147483648 ≤ x) (h2 : x ≤ 2147483647) : wrp x = x := by unfold wrp; omega
theorem wrp_wrp (x : Int) : wrp (wrp x) = wrp x := by unfold wrp; omega
theorem wrp_bd {x : Int} (h : wrp x = x) : -2147483648 ≤ x ∧ x ≤ 2147483647 := by unfold wrp at h; omega
/-- a task under way, and what was seen so far -/
structure St7 (p : Pg7) (r : Rs) (t : Ts) (tk : Ky) : Prop where
  ok : tk.Ok
  key : t.key = tk.key
  tok : TOk t
  reg : t.reg.length = 8
  r32 : ∀ x ∈ t.reg, wrp x = x
  has : t.has.length = 4
  hand : t.hand.length = 4
  h32 : ∀ x ∈ t.hand, wrp x.v = x.v
  e32 : wrp t.e.v = t.e.v
  fn : t.fn < p.fs.length
  at_ : t.e.h = 0 → t.at_ < (p.fs.getD t.fn []).length
  dep : (tk.dep : Int) ≤ p.depth
  fk : t.forks ≤ 1000
  fuel : t.fuel ≤ 500
  srt : Srt r.ran
  fr : ∀ x ∈ r.ran, x.key < thr tk t.forks
  fl : r.futs.length = p.futs.toNat
  wl : r.was.length = p.futs.toNat
  f32 : ∀ x ∈ r.futs, wrp x = x
theorem getD_mem {α : Type} {l : List α} {i : Nat} (h : i < l.length) (d : α) : l.getD i d ∈ l := by
  rw [List.getD_eq_getElem?_getD, List.getElem?_eq_getElem h]
  exact List.getElem_mem h
theorem St7.fnm {p : Pg7} {r : Rs} {t : Ts} {tk : Ky} (h : St7 p r t tk) : p.fs.getD t.fn [] ∈ p.fs := getD_mem h.fn []
theorem St7.insm {p : Pg7} {r : Rs} {t : Ts} {tk : Ky} (h : St7 p r t tk) (h0 : t.e.h = 0) : ins7 p t ∈ p.fs.getD t.fn [] := getD_mem (h.at_ h0) _
theorem St7.rg32 {p : Pg7} {r : Rs} {t : Ts} {tk : Ky} (h : St7 p r t tk) (i : Int) : wrp (rg t i) = rg t i := by
  unfold rg
  by_cases hi : i.toNat < t.reg.length
  · exact h.r32 _ (getD_mem hi 0)
  · rw [List.getD_eq_getElem?_getD, List.getElem?_eq_none (by omega)]
    rfl
theorem mem_set {α : Type} {l : List α} {i : Nat} {v x : α} (h : x ∈ l.set i v) : x = v ∨ x ∈ l := by
  rcases List.mem_or_eq_of_mem_set h with h | h
  · exact .inr h
  · exact .inl h
/-- behind an instruction that is neither Jump nor Ret there is another one -/
theorem St7.more {p : Pg7} (hp : Ok7 p) {r : Rs} {t : Ts} {tk : Ky} (h : St7 p r t tk) (h0 : t.e.h = 0) (h7 : (ins7 p t).o ≠ 7) (h15 : (ins7 p t).o ≠ 15) : t.at_ + 1 < (p.fs.getD t.fn []).length := by
  have hl := h.at_ h0
  have he := (hp.fn _ h.fnm).2.2.1
  by_cases hc : t.at_ + 1 < (p.fs.getD t.fn []).length
  · exact hc
  · exfalso
    have e : t.at_ = (p.fs.getD t.fn []).length - 1 := by omega
    unfold endB at he
    rw [V5.lastOp_at (by omega)] at he
    have hi : ins7 p t = (p.fs.getD t.fn [])[(p.fs.getD t.fn []).length - 1]'(by omega) := by
      unfold ins7
      rw [List.getD_eq_getElem?_getD (l := p.fs.getD t.fn []), e, List.getElem?_eq_getElem (by omega)]
      rfl
    rw [← hi] at he
    simp [h7, h15] at he
section
variable {p : Pg7} {r : Rs} {t : Ts} {tk : Ky}
theorem St7.up (h : St7 p r t tk) : St7 p (up1 r) t tk := ⟨h.ok, h.key, h.tok, h.reg, h.r32, h.has, h.hand, h.h32, h.e32, h.fn, h.at_, h.dep, h.fk, h.fuel, h.srt, h.fr, h.fl, h.wl, h.f32⟩
theorem St7.place (h : St7 p r t tk) {k : Nat} (hk : k < (p.fs.getD t.fn []).length) : St7 p r { t with at_ := k } tk := ⟨h.ok, h.key, ⟨h.tok.e, h.tok.hs, h.tok.len⟩, h.reg, h.r32, h.has, h.hand, h.h32, h.e32, h.fn, fun _ => hk, h.dep, h.fk, h.fuel, h.srt, h.fr, h.fl, h.wl, h.f32⟩
theorem St7.less (h : St7 p r t tk) : St7 p r { t with fuel := t.fuel - 1 } tk := ⟨h.ok, h.key, ⟨h.tok.e, h.tok.hs, h.tok.len⟩, h.reg, h.r32, h.has, h.hand, h.h32, h.e32, h.fn, h.at_, h.dep, h.fk, by have := h.fuel; show t.fuel - 1 ≤ 500; omega, h.srt, h.fr, h.fl, h.wl, h.f32⟩
theorem St7.put (h : St7 p r t tk) (i : Int) {v : Int} (hv : wrp v = v) : St7 p r (t.put i v) tk := by
  refine ⟨h.ok, h.key, h.tok.put i v, by simp [Ts.put, h.reg], fun x hx => ?_, h.has, h.hand, h.h32, h.e32, h.fn, h.at_, h.dep, h.fk, h.fuel, h.srt, h.fr, h.fl, h.wl, h.f32⟩
  rcases mem_set hx with rfl | hx
  · exact hv
  · exact h.r32 x hx
theorem St7.ends (h : St7 p r t tk) (h0 : t.e.h = 0) {k : Int} (h1 : 1 ≤ k) (h2 : k ≤ 9) : St7 p r (t.ends k) tk :=
  ⟨h.ok, h.key, h.tok.ends h0 h1 h2, h.reg, h.r32, h.has, h.hand, h.h32, h.e32, h.fn, fun e => by simp only [Ts.ends] at e; omega, h.dep, h.fk, h.fuel, h.srt, h.fr, h.fl, h.wl, h.f32⟩
/-- ended, wherever its place is -/
theorem St7.endsAny (h : St7 p r t tk) (h0 : t.e.h = 0) (a : Nat) {k : Int} (h1 : 1 ≤ k) (h2 : k ≤ 9) : St7 p r ({ t with at_ := a }.ends k) tk := by
  have h3 := h.ends h0 h1 h2
  exact ⟨h3.ok, h3.key, ⟨h3.tok.e, h3.tok.hs, h3.tok.len⟩, h3.reg, h3.r32, h3.has, h3.hand, h3.h32, h3.e32, h3.fn, fun e => by simp only [Ts.ends] at e; omega, h3.dep, h3.fk, h3.fuel, h3.srt, h3.fr, h3.fl, h3.wl, h3.f32⟩
theorem St7.value (h : St7 p r t tk) (a : Nat) (i : Int) : St7 p r { t with at_ := a, e := ⟨1, rg t i⟩ } tk :=
  ⟨h.ok, h.key, ⟨.inr ⟨Int.le_refl _, (by decide : (1 : Int) ≤ 9), fun hh => absurd rfl hh⟩, h.tok.hs, h.tok.len⟩, h.reg, h.r32, h.has, h.hand, h.h32, h.rg32 i, h.fn, fun e => by simp at e, h.dep, h.fk, h.fuel, h.srt, h.fr, h.fl, h.wl, h.f32⟩
theorem St7.clear (h : St7 p r t tk) (i : Nat) : St7 p r { t with has := t.has.set i false } tk := by
  refine ⟨h.ok, h.key, ⟨h.tok.e, fun j hj => ?_, by simp [h.tok.len]⟩, h.reg, h.r32, by simp [h.has], h.hand, h.h32, h.e32, h.fn, h.at_, h.dep, h.fk, h.fuel, h.srt, h.fr, h.fl, h.wl, h.f32⟩
  simp only at hj
  rw [getD_set] at hj
  split at hj
  · simp at hj
  · exact h.tok.hs j hj
theorem St7.lay (h : St7 p r t tk) (i : Nat) {v : Int} (hv : wrp v = v) : St7 p { r with was := r.was.set i true, futs := r.futs.set i v } t tk := by
  refine ⟨h.ok, h.key, h.tok, h.reg, h.r32, h.has, h.hand, h.h32, h.e32, h.fn, h.at_, h.dep, h.fk, h.fuel, h.srt, h.fr, by simp [h.fl], by simp [h.wl], fun x hx => ?_⟩
  rcases mem_set hx with rfl | hx
  · exact hv
  · exact h.f32 x hx
theorem St7.down (hp : Ok7 p) (h : St7 p r t tk) (h0 : t.e.h = 0) (h7 : (ins7 p t).o ≠ 7) (h15 : (ins7 p t).o ≠ 15) : St7 p (up1 r) (down1 t) tk := h.up.less.place (h.more hp h0 h7 h15)
end
theorem stIf {p : Pg7} {tk : Ky} {c : Prop} [Decidable c] {a b : Rs × Ts} (ha : c → St7 p a.1 a.2 tk) (hb : ¬ c → St7 p b.1 b.2 tk) : St7 p (if c then a else b).1 (if c then a else b).2 tk := by
  by_cases h : c
  · rw [if_pos h]; exact ha h
  · rw [if_neg h]; exact hb h
/-- one instruction that is no fork -/
theorem one_st {p : Pg7} (hp : Ok7 p) {r : Rs} {t : Ts} {tk : Ky} (h : St7 p r t tk) (h0 : t.e.h = 0) : St7 p (oneP (up1 r) (down1 t) (ins7 p t)).1 (oneP (up1 r) (down1 t) (ins7 p t)).2 tk := by
  have hx := (hp.fn _ h.fnm).2.2.2 _ (h.insm h0)
  have hs := shape_facts hx.1
  have hr := V5.right_iff.1 hx.2
  have hd := h.down hp h0
  have rgd : ∀ i, rg (down1 t) i = rg t i := fun _ => rfl
  have D : (ins7 p t).o ≠ 7 → (ins7 p t).o ≠ 15 → ∀ (i v : Int), wrp v = v → St7 p (up1 r) ((down1 t).put i v) tk := fun h7 h15 i v hv => (hd h7 h15).put i hv
  have E : ∀ k : Int, 1 ≤ k → k ≤ 9 → St7 p (up1 r) ((down1 t).ends k) tk := fun k h1 h2 => h.up.less.endsAny h0 (t.at_ + 1) h1 h2
  have de : (down1 t).e = t.e := rfl
  generalize hxx : ins7 p t = x at *
  unfold oneP
  refine stIf (fun e => D (by omega) (by omega) _ _ (wrp_fix (hs.c1 e).1 (hs.c1 e).2)) fun _ => ?_
  refine stIf (fun e => D (by omega) (by omega) _ _ (wrp_wrp _)) fun _ => ?_
  refine stIf (fun e => D (by omega) (by omega) _ _ (wrp_wrp _)) fun _ => ?_
  refine stIf (fun e => D (by omega) (by omega) _ _ (wrp_wrp _)) fun _ => ?_
  refine stIf (fun e => stIf (fun _ => E 2 (by decide) (by decide)) fun _ => D (by omega) (by omega) _ _ (wrp_wrp _)) fun _ => ?_
  refine stIf (fun e => D (by omega) (by omega) _ _ (by unfold lessI; split <;> rfl)) fun _ => ?_
  refine stIf (fun e => ?_) fun h7 => ?_
  · refine h.up.less.place ?_
    have := hr.1 e
    have := hs.a0
    show x.a.toNat < (p.fs.getD t.fn []).length
    omega
  refine stIf (fun e => ?_) fun _ => ?_
  · have := hr.2.1 e
    have := hs.b0 (by omega)
    simp only
    by_cases hz : rg (down1 t) x.a = 0
    · rw [if_pos hz]
      refine h.up.less.place ?_
      show x.b.toNat < (p.fs.getD t.fn []).length
      omega
    · rw [if_neg hz]; exact hd (by omega) (by omega)
  refine stIf (fun e => ?_) fun _ => ?_
  · simp only
    by_cases hz : (down1 t).has.getD x.b.toNat false = false
    · rw [if_pos hz]; exact E 7 (by decide) (by decide)
    · rw [if_neg hz]
      have hh : (down1 t).has.getD x.b.toNat false = true := by
        cases hc : (down1 t).has.getD x.b.toNat false with
        | true => rfl
        | false => exact absurd hc hz
      have hD := hd (by omega) (by omega)
      have he := hD.tok.hs _ hh
      have hC := hD.clear x.b.toNat
      by_cases hv1 : ((down1 t).hand.getD x.b.toNat en0).h ≠ 1
      · rw [if_pos hv1]; exact hC.ends h0 he.1 he.2.1
      · rw [if_neg hv1]
        refine hC.put _ ?_
        have hb := hs.b3 e
        have hb0 := hs.b0 (by omega)
        exact h.h32 _ (getD_mem (by rw [h.hand]; omega) _)
  refine stIf (fun e => stIf (fun _ => E 3 (by decide) (by decide)) fun _ => (hd (by omega) (by omega)).lay _ (by rw [rgd]; exact h.rg32 _)) fun _ => ?_
  refine stIf (fun e => stIf (fun _ => E 4 (by decide) (by decide)) fun _ => D (by omega) (by omega) _ _ ?_) fun _ => ?_
  · by_cases hi : x.b.toNat < r.futs.length
    · exact h.f32 _ (getD_mem hi 0)
    · show wrp (r.futs.getD x.b.toNat 0) = r.futs.getD x.b.toNat 0
      rw [List.getD_eq_getElem?_getD, List.getElem?_eq_none (by omega)]
      rfl
  refine stIf (fun e => ?_) fun _ => ?_
  · simp only
    by_cases hz : (down1 t).has.getD x.a.toNat false = false
    · rw [if_pos hz]; exact E 7 (by decide) (by decide)
    · rw [if_neg hz]; exact hd (by omega) (by omega)
  exact stIf (fun e => h.up.less.value (t.at_ + 1) x.a) fun _ => hd (by omega) (by omega)
end Go.Proofs.YtpmapdialjdcbaaDoor
namespace Go.Proofs.YtpmapdialjdcbaaDoor
open K6 (Ky und wd ofK)
open C2 (In Pr)

/-- what a task's end leaves -/
structure Fin7 (p : Pg7) (tk : Ky) (f : Nat) (r : Rs) (q : Rs × Ts) : Prop where
  gr : Gr tk f r q.1
  ok : EndOk q.2.e
  e32 : wrp q.2.e.v = q.2.e.v
  fl : q.1.futs.length = p.futs.toNat
  wl : q.1.was.length = p.futs.toNat
  f32 : ∀ x ∈ q.1.futs, wrp x = x
/-- the fork's task: its key -/
theorem kid_key {p : Pg7} (hp : Ok7 p) {r : Rs} {t : Ts} {tk : Ky} (h : St7 p r t tk) (hd : ¬ p.depth ≤ depK t.key) (hf : ¬ 1000 ≤ t.forks) :
    ∃ kk : Ky, kk.Ok ∧ tk.dep < 5 ∧ kk = tk.ch ((t.forks : Int) + 1) ∧ kidK chY t = kk.key ∧ kk.key = thr tk t.forks ∧ kk.rank = thr tk (t.forks + 1) ∧ kk.par = tk ∧ 0 < kk.dep ∧ kk.dep = tk.dep + 1 ∧ und kk tk ∧ (kk.dep : Int) ≤ p.depth ∧ kk.key < thr kk 0 := by
  have hd1 : (tk.dep : Int) < p.depth := by
    unfold depK at hd
    rw [h.key, K6.of_key h.ok] at hd
    omega
  have h5 := hp.d5
  obtain ⟨kk, q1, q2, q3, q4, q5, q6, q7, q8⟩ := kid_facts h.ok (f := t.forks) (by omega) (by omega)
  refine ⟨kk, q1, by omega, q2, ?_, q3, q4, q5, q6, q7, q8, by omega, ?_⟩
  · unfold kidK chY
    rw [h.key, K6.of_key h.ok, q2]
  · have hw := K6.wd_pos (kk.dep + 1)
    unfold thr
    simp only [Int.natCast_zero, Int.zero_add, Int.one_mul]
    omega
theorem kid_st {p : Pg7} (hp : Ok7 p) {r : Rs} {t : Ts} {tk kk : Ky} (h : St7 p r t tk) (h0 : t.e.h = 0) (h9 : (ins7 p t).o = 9) (hk : kk.Ok) (he : kidK chY t = kk.key) (h3 : kk.key = thr tk t.forks) (hd : (kk.dep : Int) ≤ p.depth) (hlt : kk.key < thr kk 0) : St7 p (forkR (up1 r)) (kidT p chY t) kk := by
  have hx := (hp.fn _ h.fnm).2.2.2 _ (h.insm h0)
  have hs := shape_facts hx.1
  have hr := (V5.right_iff.1 hx.2).2.2.1 h9
  have hb0 := hs.b0 (by omega)
  have hfn : (ins7 p t).b.toNat < p.fs.length := by omega
  refine ⟨hk, he, TOk.start _ _ _ _, rfl, fun x hx => ?_, rfl, rfl, fun x hx => ?_, rfl, hfn, fun _ => ?_, hd, by show 0 ≤ 1000; omega, by have := hp.f5; show p.fuel.toNat ≤ 500; omega, h.srt, fun x hx => ?_, h.fl, h.wl, h.f32⟩
  · simp only [kidT, ts0, List.mem_cons, List.not_mem_nil, or_false] at hx
    rcases hx with rfl | rfl | rfl | rfl | rfl | rfl | rfl | rfl
    · exact wrp_wrp _
    all_goals rfl
  · simp only [kidT, ts0, List.mem_cons, List.not_mem_nil, or_false] at hx
    rcases hx with rfl | rfl | rfl | rfl <;> rfl
  · exact (hp.fn _ (getD_mem hfn [])).1
  · have := h.fr x hx
    show x.key < thr kk 0
    omega
/-- what was told stands behind all that was there -/
theorem put_mid {A Y : List Rn} {x : Rn} (h1 : ∀ a ∈ A, a.key < x.key) (h2 : ∀ a ∈ Y, x.key < a.key) : putR (A ++ Y) x = A ++ x :: Y := by
  induction A with
  | nil =>
    cases Y with
    | nil => rfl
    | cons a Y =>
      show putR (a :: Y) x = _
      unfold putR
      rw [if_neg (by have := h2 a (by simp); omega)]
      rfl
  | cons a A ih =>
    show putR (a :: (A ++ Y)) x = _
    unfold putR
    rw [if_pos (h1 a (by simp)), ih fun b hb => h1 b (by simp [hb])]
    rfl
theorem new_mid {tk kk : Ky} {f : Nat} {r q : Rs} (hg : Gr kk 0 r q) (hlt : kk.key < thr kk 0) {Y : List Rn} (hY : q.ran = r.ran ++ Y) (h3 : kk.key = thr tk f) (hr : ∀ x ∈ r.ran, x.key < thr tk f) : (∀ a ∈ r.ran, a.key < kk.key) ∧ ∀ a ∈ Y, kk.key < a.key := by
  refine ⟨fun a ha => by rw [h3]; exact hr a ha, fun a ha => ?_⟩
  have hs := hg.srt
  rw [hY] at hs
  rcases hg.new a (by rw [hY]; simp [ha]) with h | ⟨xk, -, e1, -, -, e2, -, -⟩
  · have := (List.pairwise_append.1 hs).2.2 a h a ha
    omega
  · omega
/-- behind a fork -/
theorem fork_st {p : Pg7} (hp : Ok7 p) {r : Rs} {t : Ts} {tk kk : Ky} (h : St7 p r t tk) (h0 : t.e.h = 0) (h9 : (ins7 p t).o = 9) (hf : ¬ 1000 ≤ t.forks) (h3 : kk.key = thr tk t.forks) (h4 : kk.rank = thr tk (t.forks + 1)) (hlt : kk.key < thr kk 0)
    {c : Rs × Ts} (hc : Fin7 p kk 0 (forkR (up1 r)) c) (ho : c.1.over = false) : St7 p (told c.1 (ins7 p t).b (rg t (ins7 p t).c) kk.key c.2.e) (forkT (down1 t) (ins7 p t).a c.2.e) tk := by
  have hd := h.down hp h0 (by omega) (by omega)
  obtain ⟨t1, t2, t3⟩ := told_ran ho (ins7 p t).b (rg t (ins7 p t).c) kk.key c.2.e
  have hfr : (forkR (up1 r)).ran = r.ran := rfl
  have hwk := K6.wd_pos kk.dep
  have hnk : ∀ a ∈ c.1.ran, a.key ≠ kk.key ∧ a.key < thr tk (t.forks + 1) := fun a ha => by
    have hm := thr_mono tk t.forks
    rcases hc.gr.new a ha with h | ⟨xk, -, e1, -, hu, e2, -, -⟩
    · rw [hfr] at h
      rename_i hh
      have := hh.fr a h
      exact ⟨by omega, by omega⟩
    · have := hu.2
      unfold Ky.rank at h4
      exact ⟨by omega, by omega⟩
  have hfu : (told c.1 (ins7 p t).b (rg t (ins7 p t).c) kk.key c.2.e).futs = c.1.futs ∧ (told c.1 (ins7 p t).b (rg t (ins7 p t).c) kk.key c.2.e).was = c.1.was := by
    unfold told
    rw [if_neg (by simp [ho])]
    exact ⟨rfl, rfl⟩
  refine ⟨hd.ok, hd.key, hd.tok.fork _ hc.ok, hd.reg, hd.r32, by simp [forkT, hd.has], by simp [forkT, hd.hand], fun x hx => ?_, hd.e32, hd.fn, hd.at_, hd.dep, ?_, hd.fuel, ?_, fun x hx => ?_, by rw [hfu.1]; exact hc.fl, by rw [hfu.2]; exact hc.wl, by rw [hfu.1]; exact hc.f32⟩
  · rcases mem_set hx with rfl | hx
    · exact hc.e32
    · exact hd.h32 x hx
  · show t.forks + 1 ≤ 1000
    omega
  · rw [t1]
    exact putR_srt hc.gr.srt fun a ha => (hnk a ha).1
  · rw [t1] at hx
    show x.key < thr tk (t.forks + 1)
    rcases mem_putR.1 hx with rfl | hx
    · show kk.key < _
      unfold Ky.rank at h4
      omega
    · exact (hnk x hx).2
theorem Fin7.of_end {p : Pg7} {tk : Ky} {r : Rs} {t : Ts} (h : St7 p r t tk) (he : EndOk t.e) : Fin7 p tk t.forks r (r, t) := ⟨Gr.refl h.srt, he, h.e32, h.fl, h.wl, h.f32⟩
/-- a task's way on: ended; without fuel; over; a step; a fork -/
theorem ev_fin {p : Pg7} (hp : Ok7 p) (M : Nat) : ∀ (n : Nat) (r : Rs) (t : Ts) (tk : Ky), M - r.steps ≤ n → St7 p r t tk → r.over = false → (ev7 p M r t).1.over = false → Fin7 p tk t.forks r (ev7 p M r t) := by
  intro n
  induction n with
  | zero =>
    intro r t tk hn h hr ho
    have hg := grow hp.d5 M 0 r t tk hn h.ok h.key h.tok h.srt (fun x hx => .inl (h.fr x hx)) hr ho
    rcases goes_or M r t with hh | ⟨h1, h2, h3⟩ | ⟨h1, h2, h3, h4⟩ | hh
    · rw [ev7, evP_end p M depK chY hh] at hg ⊢
      exact ⟨hg.1, hg.2, h.e32, h.fl, h.wl, h.f32⟩
    · rw [ev7, evP_fuel p M depK chY h1 h2 h3] at hg ⊢
      exact ⟨hg.1, hg.2, h.e32, h.fl, h.wl, h.f32⟩
    · rw [ev7, evP_over p M depK chY h1 h2 h3 h4] at ho
      simp at ho
    · have := hh.2.2.2
      omega
  | succ n ih =>
    intro r t tk hn h hr ho
    have hg := grow hp.d5 M (n + 1) r t tk hn h.ok h.key h.tok h.srt (fun x hx => .inl (h.fr x hx)) hr ho
    rcases goes_or M r t with hh | ⟨h1, h2, h3⟩ | ⟨h1, h2, h3, h4⟩ | hh
    · rw [ev7, evP_end p M depK chY hh] at hg ⊢
      exact ⟨hg.1, hg.2, h.e32, h.fl, h.wl, h.f32⟩
    · rw [ev7, evP_fuel p M depK chY h1 h2 h3] at hg ⊢
      exact ⟨hg.1, hg.2, h.e32, h.fl, h.wl, h.f32⟩
    · rw [ev7, evP_over p M depK chY h1 h2 h3 h4] at ho
      simp at ho
    · have h0 := hh.1
      have hst := hh.2.2.2
      suffices hS : wrp (ev7 p M r t).2.e.v = (ev7 p M r t).2.e.v ∧ (ev7 p M r t).1.futs.length = p.futs.toNat ∧ (ev7 p M r t).1.was.length = p.futs.toNat ∧ ∀ x ∈ (ev7 p M r t).1.futs, wrp x = x from ⟨hg.1, hg.2, hS.1, hS.2.1, hS.2.2.1, hS.2.2.2⟩
      by_cases h9 : (ins7 p t).o = 9
      · by_cases hd : p.depth ≤ depK t.key
        · have e : ev7 p M r t = ev7 p M (up1 r) ((down1 t).ends 6) := by
            unfold ev7
            rw [evP_step p M depK chY hh]; unfold bodyP; rw [if_pos h9, if_pos hd]
          have hd1 := (h.down hp h0 (by omega) (by omega)).ends h0 (k := 6) (by decide) (by decide)
          rw [e] at ho ⊢
          obtain ⟨-, -, a, b, c, d⟩ := ih _ _ tk (by show M - (r.steps + 1) ≤ n; omega) hd1 hr ho
          exact ⟨a, b, c, d⟩
        · by_cases hf : 1000 ≤ t.forks
          · have e : ev7 p M r t = ev7 p M (up1 r) ((down1 t).ends 9) := by
              unfold ev7
              rw [evP_step p M depK chY hh]; unfold bodyP; rw [if_pos h9, if_neg hd, if_pos hf]
            have hd1 := (h.down hp h0 (by omega) (by omega)).ends h0 (k := 9) (by decide) (by decide)
            rw [e] at ho ⊢
            obtain ⟨-, -, a, b, c, d⟩ := ih _ _ tk (by show M - (r.steps + 1) ≤ n; omega) hd1 hr ho
            exact ⟨a, b, c, d⟩
          · obtain ⟨kk, k1, -, -, k3, k4, k5, -, -, -, -, k6, k7⟩ := kid_key hp h hd hf
            have e : ev7 p M r t = ev7 p M (told (ev7 p M (forkR (up1 r)) (kidT p chY t)).1 (ins7 p t).b (rg t (ins7 p t).c) (kidK chY t) (ev7 p M (forkR (up1 r)) (kidT p chY t)).2.e) (forkT (down1 t) (ins7 p t).a (ev7 p M (forkR (up1 r)) (kidT p chY t)).2.e) := by
              unfold ev7
              rw [evP_step p M depK chY hh]; unfold bodyP; rw [if_pos h9, if_neg hd, if_neg hf]
              rfl
            have hkid := kid_st hp h h0 h9 k1 k3 k4 k6 k7
            have hc : (ev7 p M (forkR (up1 r)) (kidT p chY t)).1.over = false := by
              cases hx : (ev7 p M (forkR (up1 r)) (kidT p chY t)).1.over with
              | false => rfl
              | true =>
                rw [e, ev7, over_stays p depK chY M _ ((told_steps _ _ _ _ _).2.trans hx)] at ho
                simp at ho
            have hF := ih (forkR (up1 r)) (kidT p chY t) kk (by show M - (r.steps + 1) ≤ n; omega) hkid hr hc
            have m2 : r.steps + 1 ≤ (ev7 p M (forkR (up1 r)) (kidT p chY t)).1.steps := evP_mono p M depK chY (forkR (up1 r)) (kidT p chY t)
            have hN := fork_st hp h h0 h9 hf k4 k5 k7 hF hc
            rw [k3] at e
            rw [e] at ho ⊢
            obtain ⟨-, -, a, b, c, d⟩ := ih _ _ tk (by rw [(told_steps _ _ _ _ _).1]; omega) hN ((told_steps _ _ _ _ _).2.trans hc) ho
            exact ⟨a, b, c, d⟩
      · obtain ⟨s1, s2, s3, s4⟩ := oneP_steps (up1 r) (down1 t) (ins7 p t)
        have e : ev7 p M r t = ev7 p M (oneP (up1 r) (down1 t) (ins7 p t)).1 (oneP (up1 r) (down1 t) (ins7 p t)).2 := by
          unfold ev7
          rw [evP_step p M depK chY hh]; unfold bodyP; rw [if_neg h9]
        have hN := one_st hp h h0
        rw [e] at ho ⊢
        obtain ⟨-, -, a, b, c, d⟩ := ih _ _ tk (by rw [s1]; show M - (r.steps + 1) ≤ n; omega) hN (by rw [s2]; exact hr) ho
        exact ⟨a, b, c, d⟩
end Go.Proofs.YtpmapdialjdcbaaDoor
namespace Go.Proofs.YtpmapdialjdcbaaDoor.V5
open Go.RowKit
open C2 (In Pr SlF SlI InsAt Tab BoxedP below_alloc below_then still_of_below)

theorem holds_not {op : Int} {sel : In → Int} {lim : Int} {f : List In} {k : Nat} (h : k < f.length) (ho : f[k].o = op) (hl : lim ≤ sel f[k]) : holdsB op sel lim f = false := by
  rw [Bool.eq_false_iff]
  intro hh
  have := holds_at.1 hh f[k] (List.getElem_mem h) ho
  omega
theorem holds_all {op : Int} {sel : In → Int} {lim : Int} {f : List In} (h : ∀ k (hk : k < f.length), f[k].o = op → sel f[k] < lim) : holdsB op sel lim f = true := by
  rw [holds_at]
  intro x hx ho
  obtain ⟨k, hk, rfl⟩ := List.getElem_of_mem hx
  exact h k hk ho
theorem bound_box (w : World) (x y z : Value) (o : Obj) : let W := ((w.alloc (.cells #[x, y, z] 99)).alloc o); W.cell? ⟨w.heap.size, 0, none⟩ = some x ∧ W.cell? ⟨w.heap.size, 1, none⟩ = some y ∧ W.cell? ⟨w.heap.size, 2, none⟩ = some z := by
  intro W
  have h : W.heap[w.heap.size]? = some (.cells #[x, y, z] 99 (0, 0)) := (Below.heap_alloc _ _ _ (by simp)).trans (heap_alloc_new _ _)
  exact ⟨by simp [cell_of_row _ _ _ _ _ _ h], by simp [cell_of_row _ _ _ _ _ _ h], by simp [cell_of_row _ _ _ _ _ _ h]⟩
theorem prog_cells {w : World} {g : Nat} {a b c d : Value} (h : w.heap[g]? = some (.cells #[a, b, c, d] 24 (0, 0))) : w.cell? ⟨g, 0, none⟩ = some a ∧ w.cell? ⟨g, 1, none⟩ = some b ∧ w.cell? ⟨g, 2, none⟩ = some c ∧ w.cell? ⟨g, 3, none⟩ = some d :=
  ⟨by simp [cell_of_row _ _ _ _ _ _ h], by simp [cell_of_row _ _ _ _ _ _ h], by simp [cell_of_row _ _ _ _ _ _ h], by simp [cell_of_row _ _ _ _ _ _ h]⟩
theorem ins_box (w : World) (x : In) : let W := w.alloc (.cells #[.int .i64 x.o, .int .i64 x.a, .int .i64 x.b, .int .i64 x.c] 54); W.cell? ⟨w.heap.size, 0, none⟩ = some (.int .i64 x.o) ∧ W.cell? ⟨w.heap.size, 1, none⟩ = some (.int .i64 x.a) ∧ W.cell? ⟨w.heap.size, 2, none⟩ = some (.int .i64 x.b) ∧ W.cell? ⟨w.heap.size, 3, none⟩ = some (.int .i64 x.c) := by
  intro W
  have h : W.heap[w.heap.size]? = some (.cells #[.int .i64 x.o, .int .i64 x.a, .int .i64 x.b, .int .i64 x.c] 54 (0, 0)) := heap_alloc_new _ _
  exact ⟨by simp [cell_of_row _ _ _ _ _ _ h], by simp [cell_of_row _ _ _ _ _ _ h], by simp [cell_of_row _ _ _ _ _ _ h], by simp [cell_of_row _ _ _ _ _ _ h]⟩
end Go.Proofs.YtpmapdialjdcbaaDoor.V5
