/-
  Helpers: F0Hp, F0FrC.
-/
import Derived.Test.YtopnkfbcphbbiaaDoorBunc36432d0f205
import Derived.Test.YtopnkfbcphbbiaaDoorBun821e415c7222
import Derived.ScopeJumps
import Derived.WalkMore
import Derived.Handy
import Derived.Test.YtopnkfbcphbbiaaDoorBun47b01e774815
namespace Go.Proofs.YtopnkfbcphbbiaaDoor.F0
open Go.RowKit
open A9 (Ab ArAt ArMem FrA)

/-- As Q; by a goto: the rest behind its label, with n gotos more at most. -/
def Exit.hop (P : Program) (c : Code) (Q : Exit → Act → World → Prop) : Nat → Exit → Act → World → Prop
  | 0, .goto _, _, _ => False
  | n + 1, .goto l, a, w => ∃ rest, findLabel c l = some rest ∧ rest.wp P (Exit.hop P c Q n) a w
  | _, e, a, w => Q e a w
theorem hop_goto {P : Program} {c rest : Code} {Q : Exit → Act → World → Prop} {n l : Nat} {a : Act} {w : World} (hf : findLabel c l = some rest) (h : rest.wp P (Exit.hop P c Q n) a w) : Exit.hop P c Q (n + 1) (.goto l) a w := ⟨rest, hf, h⟩
theorem hop_ret {P : Program} {c : Code} {Q : Exit → Act → World → Prop} {n : Nat} {a : Act} {w : World} (h : Q .ret a w) : Exit.hop P c Q n .ret a w := by cases n <;> exact h
theorem hop_normal {P : Program} {c : Code} {Q : Exit → Act → World → Prop} {n : Nat} {a : Act} {w : World} (h : Q .normal a w) : Exit.hop P c Q n .normal a w := by cases n <;> exact h
theorem hop_end {P : Program} {c : Code} {Q : Exit → Act → World → Prop} {n : Nat} {e : Exit} {a : Act} {w : World} (h : Exit.hop P c Q n e a w) (he : ∀ l, e ≠ .goto l) : Q e a w := by
  cases e with
  | goto l => exact absurd rfl (he l)
  | normal => cases n <;> exact h
  | exit id => cases n <;> exact h
  | ret => cases n <;> exact h
  | panic ch => cases n <;> exact h
  | outgrown => cases n <;> exact h
theorem wp_scope_hops {P : Program} {a : Act} {w : World} {Q : Exit → Act → World → Prop} {c : Code} (n : Nat) (first : c.wp P (Exit.hop P c Q n) a w) : (Code.scope c).wp P Q a w := by
  intro b k cs
  have hg : ∀ l rest, findLabel c l = some rest → gotoIn l (.inScope c :: k) = some (.code rest :: .inScope c :: k) := fun l rest hf => by simp [gotoIn, hf]
  have key : ∀ n m e a₁ w₁, Exit.hop P c Q n e a₁ w₁ → Arrives P m b (.inScope c :: k) cs e a₁ w₁ → ∃ e a' w', Q e a' w' ∧ Arrives P m b k cs e a' w' := by
    intro n
    induction n with
    | zero =>
      intro m e a₁ w₁ hq harr
      cases e with
      | goto l => exact False.elim hq
      | normal => exact ⟨.normal, a₁, w₁, hq, Steps.trans harr (.one step_inScope)⟩
      | exit id => exact ⟨.exit id, a₁, w₁, hq, fun k' hk => harr k' (by simp [exitTo, hk])⟩
      | ret => exact ⟨_, a₁, w₁, hq, harr⟩
      | panic ch => exact ⟨_, a₁, w₁, hq, harr⟩
      | outgrown => exact ⟨_, a₁, w₁, hq, harr⟩
    | succ n ih =>
      intro m e a₁ w₁ hq harr
      cases e with
      | goto l =>
        obtain ⟨rest, hf, h⟩ := hq
        obtain ⟨e₂, a₂, w₂, hq₂, harr₂⟩ := h b (.inScope c :: k) cs
        exact ih m e₂ a₂ w₂ hq₂ (.of_steps (harr _ (hg l rest hf)) harr₂)
      | normal => exact ⟨.normal, a₁, w₁, hq, Steps.trans harr (.one step_inScope)⟩
      | exit id => exact ⟨.exit id, a₁, w₁, hq, fun k' hk => harr k' (by simp [exitTo, hk])⟩
      | ret => exact ⟨_, a₁, w₁, hq, harr⟩
      | panic ch => exact ⟨_, a₁, w₁, hq, harr⟩
      | outgrown => exact ⟨_, a₁, w₁, hq, harr⟩
  obtain ⟨e, a₁, w₁, hq, harr⟩ := first b (.inScope c :: k) cs
  obtain ⟨e₂, a₂, w₂, hq₂, harr₂⟩ := key n _ e a₁ w₁ hq harr
  exact ⟨e₂, a₂, w₂, hq₂, .of_steps (.one step_scope) harr₂⟩

/-- .. the scope behind a letter -/
theorem wp_scope_hid {P : Program} {a : Act} {w : World} {Q : Exit → Act → World → Prop} {c : Code} (n : Nat) (first : ∀ C, Hid (C = c) → c.wp P (Exit.hop P C Q n) a w) : (Code.scope c).wp P Q a w := wp_scope_hops n (first c (show Hid (c = c) from rfl))
theorem hop_hid {P : Program} {C c rest : Code} {Q : Exit → Act → World → Prop} {n l : Nat} {a : Act} {w : World} (hC : Hid (C = c)) (hf : findLabel c l = some rest) (h : rest.wp P (Exit.hop P C Q n) a w) : Exit.hop P C Q (n + 1) (.goto l) a w := ⟨rest, by rw [hC.out]; exact hf, h⟩
/-- is none of the two tables -/
def noT (q : Nat) : Prop := q ≠ 0 ∧ q ≠ 1
/-- all blocks but those of S are as they were -/
structure FrS (S : Nat → Prop) (w w' : World) : Prop where
  os : w'.os = w.os
  tape : w'.tape = w.tape
  output : w'.output = w.output
  size : w.heap.size ≤ w'.heap.size
  block : ∀ k, k < w.heap.size → ¬ S k → w'.heap[k]? = w.heap[k]?
section
variable {S : Nat → Prop} {a b c : World}
theorem FrS.refl (S : Nat → Prop) (w : World) : FrS S w w := ⟨rfl, rfl, rfl, Nat.le_refl _, fun _ _ _ => rfl⟩
theorem FrS.trans (h : FrS S a b) (k : FrS S b c) : FrS S a c :=
  ⟨k.os.trans h.os, k.tape.trans h.tape, k.output.trans h.output, Nat.le_trans h.size k.size, fun i h1 h2 => (k.block i (Nat.lt_of_lt_of_le h1 h.size) h2).trans (h.block i h1 h2)⟩
theorem FrS.of_below (h : Below a.heap.size a b) : FrS S a b := ⟨h.os, h.tape, h.output, h.size, fun k hk _ => h.block k hk⟩
theorem FrS.of_arena {B : Ab} (h : FrA B a b) (hS : ∀ k, B.has k → S k) : FrS S a b := ⟨h.os, h.tape, h.output, h.size, fun k hk hn => h.block k hk fun hb => hn (hS k hb)⟩
theorem FrS.wide {T : Nat → Prop} (h : FrS S a b) (hS : ∀ k, S k → T k) : FrS T a b := ⟨h.os, h.tape, h.output, h.size, fun k hk hn => h.block k hk fun hb => hn (hS k hb)⟩
theorem FrS.setCell (h : FrS S a b) {g : Nat} (hg : S g) (f : Nat) (v : Value) : FrS S a (b.setCell ⟨g, f, none⟩ v) :=
  ⟨h.os, h.tape, h.output, by simpa using h.size, fun k h1 h2 => (Below.heap_setCell _ _ _ _ (fun e => h2 (by rw [e]; exact hg))).trans (h.block k h1 h2)⟩
theorem FrS.drew (h : FrS S a b) : FrS S a b.drew := ⟨h.os, h.tape, h.output, h.size, h.block⟩
theorem FrS.drewN (h : FrS S a b) (n : Nat) : FrS S a (b.drewN n) := ⟨h.os, h.tape, h.output, h.size, h.block⟩
theorem FrS.alloc (h : FrS S a b) (o : Obj) : FrS S a (b.alloc o) := h.trans (.of_below ((Below.refl _ _).alloc (Nat.le_refl _) o))
theorem FrS.below {n : Nat} (h : FrS S a b) (hn : n ≤ a.heap.size) (hS : ∀ k, S k → n ≤ k) : Below n a b := ⟨h.os, h.tape, h.output, h.size, fun k hk => h.block k (by omega) fun hb => by have := hS k hb; omega⟩
end
end Go.Proofs.YtopnkfbcphbbiaaDoor.F0
namespace Go.Proofs.YtopnkfbcphbbiaaDoor.F0
open Go.RowKit
open A9 (Ab ArAt ArMem FrA Ar rawA setRawA swapRawA Left9)

/-- where raw words stand -/
structure Pl5 where
  wk : Int
  hd : Int
  ln : Int
  gn : Int
  cv : Int
def Pl5.v (p : Pl5) : Value := .agg #[.int .i64 p.wk, .int .i64 p.hd, .int .i64 p.ln, .int .i64 p.gn, .int .i64 p.cv]
def headF (p : Pl5) (w c : Int) : Int := wrap64 (wrap64 (p.hd + wrap64 (4 * w)) + c)
def linkF (p : Pl5) (m : Int) : Int := wrap64 (wrap64 (p.ln + m) - 1)
def trnF (h m : Int) : Int := wrap64 (wrap64 (wrap64 (h - codF h) + 131072) + m)
def unmF (m : Int) : Int := wrap64 (8 * wrap64 (m - 1))
theorem firstOf_any (h : Int) (w : World) : Calls Tryd.prog 39 #[.int .i64 h] w fun e w' => e = .returned (.int .i64 (codF h)) ∧ w' = w := by
  have hm : bits .and .i64 h 131071 = codF h := H8.and_mask 17 131071 h (by omega) (by omega)
  generalize codF h = c at *
  go_enter Tryd.func39, Tryd.ntmps39
  go_wp2_with fail
  go_ret
  exact ⟨rfl, rfl⟩
theorem turned_any (h m : Int) (w : World) : Calls Tryd.prog 77 #[.int .i64 h, .int .i64 m] w fun e w' => e = .returned (.int .i64 (trnF h m)) ∧ w' = w := by
  have h1 := fun wx => firstOf_any h wx
  unfold trnF
  generalize codF h = c at *
  go_enter Tryd.func77, Tryd.ntmps77
  go_wp2_with fail
  refine (h1 _).mono ?_
  rintro e w1 ⟨rfl, rfl⟩
  go_wp2_with fail
  go_ret
  exact ⟨rfl, rfl⟩
theorem mark_any (b : Int) (h0 : 0 ≤ b) (h1 : b ≤ 1000000) (w : World) : Calls Tryd.prog 74 #[.int .i64 b] w fun e w' => e = .returned (.int .i64 (b / 8 + 1)) ∧ w' = w := by
  go_enter Tryd.func74, Tryd.ntmps74
  go_wp2_with fail
  go_ret
  exact ⟨H8.ret_i64 (by omega), rfl⟩
theorem unmark_any (m : Int) (w : World) : Calls Tryd.prog 41 #[.int .i64 m] w fun e w' => e = .returned (.int .i64 (unmF m)) ∧ w' = w := by
  unfold unmF
  go_enter Tryd.func41, Tryd.ntmps41
  go_wp2_with fail
  go_ret
  exact ⟨rfl, rfl⟩
theorem link_any (p : Pl5) (m : Int) (w : World) : Calls Tryd.prog 42 #[p.v, .int .i64 m] w fun e w' => e = .returned (.int .i64 (linkF p m)) ∧ Below w.heap.size w w' := by
  unfold linkF Pl5.v
  go_enter Tryd.func42, Tryd.ntmps42
  go_wp2_with fail
  go_ret
  exact ⟨rfl, (Below.refl _ _).alloc (Nat.le_refl _) _⟩
theorem head_any (p : Pl5) (k c : Int) (w : World) : Calls Tryd.prog 40 #[p.v, .int .i64 k, .int .i64 c] w fun e w' => e = .returned (.int .i64 (headF p k c)) ∧ Below w.heap.size w w' := by
  unfold headF Pl5.v
  go_enter Tryd.func40, Tryd.ntmps40
  go_wp2_with fail
  go_ret
  exact ⟨rfl, (Below.refl _ _).alloc (Nat.le_refl _) _⟩
end Go.Proofs.YtopnkfbcphbbiaaDoor.F0
