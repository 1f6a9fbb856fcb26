/-
  Helpers: S1Sw, S1Ya, S1Yb.
-/
import Derived.Test.YtopnkfbcphbbiaaDoorBun7d57e226f0c7
import Derived.ArgAppend
namespace Go.Proofs.YtopnkfbcphbbiaaDoor.S1
open Go.RowKit
open A9 (intsV intsV_one infoInt SrcN)

def RowO (w : World) (base : Nat) (v : Value) (xs : List Int) : Prop :=
  (v = .slice none 0 0 ∧ xs = []) ∨ ∃ r off cap cur, v = .slice (some ⟨r, off, none⟩) xs.length cap ∧ base ≤ r ∧ w.heap[r]? = some (.cells cur 3 (0, 0)) ∧ xs.length ≤ cap ∧ cap ≤ maxLen ∧ off + cap ≤ cur.size ∧ ∀ j x, xs[j]? = some x → cur[off + j]? = some (.int .i64 x)
section
variable {w w' : World} {base : Nat} {v : Value} {xs : List Int}
theorem RowO.nil (w : World) (base : Nat) : RowO w base (.slice none 0 0) [] := .inl ⟨rfl, rfl⟩
theorem RowO.lt (h : RowO w base v xs) (g : Nat) (hg : v.ownBlock = some g) : base ≤ g ∧ g < w.heap.size := by
  rcases h with ⟨rfl, rfl⟩ | ⟨r, off, cap, cur, rfl, h1, h2, -⟩
  · simp [Value.ownBlock] at hg
  · have e : r = g := by simpa [Value.ownBlock] using hg
    subst e
    exact ⟨h1, lt_of_block h2⟩
theorem RowO.kept (h : RowO w base v xs) (hb : ∀ g, v.ownBlock = some g → w'.heap[g]? = w.heap[g]?) : RowO w' base v xs := by
  rcases h with ⟨rfl, rfl⟩ | ⟨r, off, cap, cur, rfl, h1, h2, h3⟩
  · exact .inl ⟨rfl, rfl⟩
  · exact .inr ⟨r, off, cap, cur, rfl, h1, (hb r (by simp [Value.ownBlock])).trans h2, h3⟩
theorem RowO.of_own {n : Nat} (h : w.ownsRow base 3 1 v n (intsV xs)) (hn : xs.length = n) : RowO w base v xs := by
  subst hn
  rcases h.2 with ⟨h0, h1⟩ | ⟨g, cap, cur, h0, h1, h2, h3, h4, h5, h6⟩
  · exact .inl ⟨h0, List.eq_nil_of_length_eq_zero h1⟩
  · refine .inr ⟨g, 0, cap, cur, h0, h1, h2, h3, h4, by omega, fun j x hx => ?_⟩
    have hj := (List.getElem?_eq_some_iff.1 hx).1
    have h7 : (intsV xs)[j]? = some (.int .i64 x) := by simp [intsV, hx]
    rw [← h6, List.getElem?_take_of_lt (by omega)] at h7
    rw [Nat.zero_add]
    simpa using h7
theorem RowO.len (h : RowO w base v xs) : ∃ a cap, v = .slice a xs.length cap := by
  rcases h with ⟨rfl, rfl⟩ | ⟨r, off, cap, cur, rfl, -⟩
  · exact ⟨none, 0, rfl⟩
  · exact ⟨_, cap, rfl⟩
/-- its first one, and what is behind it -/
theorem RowO.first {x : Int} {ys : List Int} (h : RowO w base v (x :: ys)) : ∃ r off cap, v = .slice (some ⟨r, off, none⟩) (ys.length + 1) cap ∧ 1 ≤ cap ∧ ys.length + 1 ≤ cap ∧ cap ≤ maxLen ∧ w.cell? ⟨r, off, none⟩ = some (.int .i64 x) ∧ RowO w base (.slice (if cap = 1 then some ⟨r, off, none⟩ else some ⟨r, off + 1, none⟩) ys.length (cap - 1)) ys := by
  rcases h with ⟨-, h⟩ | ⟨r, off, cap, cur, rfl, h1, h2, h3, h4, h5, h6⟩
  · cases h
  · simp only [List.length_cons] at h3
    refine ⟨r, off, cap, rfl, by omega, h3, h4, ?_, ?_⟩
    · have h7 := cell_of_row w r off _ _ _ h2
      rw [h7]
      have := h6 0 x rfl
      simpa using this
    · by_cases hc : cap = 1
      · rw [if_pos hc]
        obtain rfl : ys = [] := List.eq_nil_of_length_eq_zero (by omega)
        exact .inr ⟨r, off, cap - 1, cur, rfl, h1, h2, by simp, by omega, by omega, fun j x hx => by simp at hx⟩
      · rw [if_neg hc]
        exact .inr ⟨r, off + 1, cap - 1, cur, rfl, h1, h2, by omega, by omega, by omega, fun j y hy => by
          have := h6 (j + 1) y (by simpa using hy)
          rw [show off + 1 + j = off + (j + 1) by omega]
          exact this⟩
theorem RowO.app (ty : TypeId) (h : RowO w base v xs) (hb : base ≤ w.heap.size) {ad : Option Addr} {cap : Nat} {x : Int} (hs : SrcN w ad 1 [x]) (hn : xs.length ≤ 10000) :
    ∃ v' w', (Builtin.append_ #[22, 22] ty #[v, .slice ad 1 cap]).run Tryd.prog w = .ok v' w' ∧ RowO w' base v' (xs ++ [x]) ∧ (∀ k, k < w.heap.size → v.ownBlock ≠ some k → w'.heap[k]? = w.heap[k]?) ∧ w.heap.size ≤ w'.heap.size ∧ w'.os = w.os ∧ w'.tape = w.tape ∧ w'.output = w.output ∧ (v'.ownBlock = v.ownBlock ∨ ∀ g, v'.ownBlock = some g → w.heap.size ≤ g) := by
  obtain ⟨i, hi, hz, hz1, hz2⟩ := infoInt
  obtain ⟨hl, a, rfl, hc⟩ := hs
  rcases h with ⟨rfl, rfl⟩ | ⟨r, off, c, cur, rfl, h1, h2, h3, h4, h5, h6⟩
  · obtain ⟨v', w', hr, o1, o2, -, o3⟩ := run_append_own_at (P := Tryd.prog) w base 22 ty 3 i (.int .i64 0) 1 8 Tryd.underlying22 hi hz hz1 hz2 rfl (by decide) (.slice none 0 0) 0 [] (World.ownsRow_nil w base _ _) a 1 cap (intsV [x]) (by simp [intsV]) hc intsV_one (by unfold maxLen; omega) (by omega) hb
    refine ⟨v', w', hr, RowO.of_own (n := 1) o1 rfl, fun k hk hne => o2.block k hk fun e => by simp [Value.ownBlock] at e, o2.size, o2.os, o2.tape, o2.output, .inr fun g hg => ?_⟩
    rcases o3 with o3 | o3
    · rw [o3] at hg
      simp [Value.ownBlock] at hg
    · rw [o3] at hg
      exact Nat.le_of_eq (Option.some.inj hg)
  · by_cases hroom : xs.length + 1 ≤ c
    · have hr := run_append_room_cells (P := Tryd.prog) w 22 ty 3 i Tryd.underlying22 hi r off xs.length c a 1 cap (intsV [x]) (by simp [intsV, hz1]) hc intsV_one hroom (fun j hj => by
        have hj0 : j = 0 := by simp [intsV] at hj; omega
        have hlt : off + xs.length * i.size + j < cur.size := by rw [hj0, hz1]; omega
        rw [cell_of_row w r _ _ _ _ h2, Array.getElem?_eq_getElem hlt]
        rfl) (fun j _ => frozen_of_row w r _ _ _ h2)
      rw [hz1, Nat.mul_one] at hr
      have hset : w.setCells r (off + xs.length) (intsV [x]) = w.setCell ⟨r, off + xs.length, none⟩ (.int .i64 x) := rfl
      rw [hset] at hr
      refine ⟨_, _, hr, .inr ⟨r, off, c, cur.setIfInBounds (off + xs.length) (.int .i64 x), by simp, h1, heap_setCell_same _ _ _ _ _ _ h2, by simp; omega, h4, by simpa using h5, fun j y hy => ?_⟩, fun k hk hne => Below.heap_setCell _ _ _ _ (fun e => hne (by rw [e]; rfl)), by simp, rfl, rfl, rfl, .inl rfl⟩
      by_cases hj : j < xs.length
      · rw [List.getElem?_append_left hj] at hy
        rw [Array.getElem?_setIfInBounds_ne (by omega)]
        exact h6 j y hy
      · have hj2 : j = xs.length := by
          have := (List.getElem?_eq_some_iff.1 hy).1
          simp at this
          omega
        subst hj2
        simp at hy
        subst hy
        rw [Array.getElem?_setIfInBounds_self_of_lt (by omega)]
    · obtain ⟨v', w', hr, o1, o2⟩ := run_append_arg_grows (P := Tryd.prog) w 22 ty 3 i (.int .i64 0) 1 8 Tryd.underlying22 hi hz hz1 hz2 rfl (by decide) ⟨r, off, none⟩ xs.length c (intsV xs) (by simp [intsV]) (fun j u hu => by
          rw [Addr.add_lit, cell_of_row w r _ _ _ _ h2]
          rw [intsV, List.getElem?_map] at hu
          obtain ⟨y, hy, rfl⟩ := Option.map_eq_some_iff.1 hu
          exact h6 j y hy) a 1 cap (intsV [x]) (by simp [intsV]) hc (by omega) (by unfold maxLen; omega) (by omega)
      refine ⟨v', w', hr, ?_, fun k hk _ => o2.block k hk (by simp), o2.size, o2.os, o2.tape, o2.output, ?_⟩
      · have h9 : RowO w' w.heap.size v' (xs ++ [x]) := RowO.of_own (n := xs.length + 1) (by simpa [intsV] using o1) (by simp)
        rcases h9 with ⟨e1, e2⟩ | ⟨r', off', c', cur', e1, e2, e3⟩
        · exact .inl ⟨e1, e2⟩
        · exact .inr ⟨r', off', c', cur', e1, by omega, e3⟩
      · exact .inr fun g hg => (o1.lt g hg).1
end
end Go.Proofs.YtopnkfbcphbbiaaDoor.S1
namespace Go.Proofs.YtopnkfbcphbbiaaDoor.S1
open Go.RowKit
open H8 (HTab below_then)
open A9 (Ab ArAt ArMem FrA Ar rawA useA ptrA Ok9 SrcN row_new isTab tab_lt htab_keep)
open F0 (Pl5 Tn FrS noT noT_new plBox plS plS_of below_next Wk upO upO_same upO_other upV upV_same upV_other)

def isFr : Mc → Bool
  | .free _ _ _ => true
  | _ => false
def MAt (B : Ab) (q x : Nat) (w : World) (p : Pl5) (m : Mc) : Prop :=
  (isFr m = true ∧ ∃ f b t, FeM B q w p f b t ∧ FeR m f b t ∧ f.y = x) ∨ (isFr m = false ∧ ∃ a t, AlM B q w p a t ∧ AlR m a t ∧ a.x = x)
theorem MAt.kept {B : Ab} {q x : Nat} {w w' : World} {p : Pl5} {m : Mc} (h : MAt B q x w p m) (hq : w'.heap[q]? = w.heap[q]?) (hx : w'.heap[x]? = w.heap[x]?) : MAt B q x w' p m := by
  rcases h with ⟨h0, f, b, t, h1, h2, rfl⟩ | ⟨h0, a, t, h1, h2, rfl⟩
  · exact .inl ⟨h0, f, b, t, ⟨h1.al.same hq, h1.po.same hx, h1.qB, h1.xB, h1.qT, h1.xT⟩, h2, rfl⟩
  · exact .inr ⟨h0, a, t, ⟨h1.al.same hq, h1.po.same hx, h1.qB, h1.xB, h1.qT, h1.xT⟩, h2, rfl⟩
theorem MAt.lt {B : Ab} {q x : Nat} {w : World} {p : Pl5} {m : Mc} (h : MAt B q x w p m) : q < w.heap.size ∧ x < w.heap.size ∧ x ≠ q := by
  rcases h with ⟨h0, f, b, t, h1, h2, rfl⟩ | ⟨h0, a, t, h1, h2, rfl⟩
  · exact ⟨h1.al.lt, h1.po.lt, h1.ne⟩
  · exact ⟨h1.al.lt, h1.po.lt, h1.ne⟩
/-- the blocks, by number -/
def bkF (g ob ub kb : Nat) (ov : Nat → Value) (mb : Nat → Option (Nat × Nat)) (i : Nat) : Option Nat :=
  if i < 5 then (ov i).ownBlock else if i < 10 then (mb (i - 5)).map (·.1) else if i < 15 then (mb (i - 10)).map (·.2) else if i = 15 then some ob else if i = 16 then some ub else if i = 17 then some kb else if i = 18 then some g else none
section
variable {g ob ub kb : Nat} {ov : Nat → Value} {mb : Nat → Option (Nat × Nat)} {i : Nat}
theorem bk_row (hi : i < 5) : bkF g ob ub kb ov mb i = (ov i).ownBlock := if_pos hi
theorem bk_q (hi : i < 5) : bkF g ob ub kb ov mb (i + 5) = (mb i).map (·.1) := by
  unfold bkF
  rw [if_neg (by omega), if_pos (by omega), Nat.add_sub_cancel]
theorem bk_x (hi : i < 5) : bkF g ob ub kb ov mb (i + 10) = (mb i).map (·.2) := by
  unfold bkF
  rw [if_neg (by omega), if_neg (by omega), if_pos (by omega), Nat.add_sub_cancel]
theorem bk_ob : bkF g ob ub kb ov mb 15 = some ob := rfl
theorem bk_ub : bkF g ob ub kb ov mb 16 = some ub := rfl
theorem bk_kb : bkF g ob ub kb ov mb 17 = some kb := rfl
theorem bk_g : bkF g ob ub kb ov mb 18 = some g := rfl
theorem bk_mb (hi : i < 5) (v : Option (Nat × Nat)) (j : Nat) : bkF g ob ub kb ov (upO mb i v) j = if j = i + 5 then v.map (·.1) else if j = i + 10 then v.map (·.2) else bkF g ob ub kb ov mb j := by
  by_cases h1 : j = i + 5
  · rw [if_pos h1, h1, bk_q hi, upO_same]
  · by_cases h2 : j = i + 10
    · rw [if_neg h1, if_pos h2, h2, bk_x hi, upO_same]
    · rw [if_neg h1, if_neg h2]
      unfold bkF
      by_cases a1 : j < 5
      · rw [if_pos a1, if_pos a1]
      · rw [if_neg a1, if_neg a1]
        by_cases a2 : j < 10
        · rw [if_pos a2, if_pos a2, upO_other _ _ (by omega)]
        · rw [if_neg a2, if_neg a2]
          by_cases a3 : j < 15
          · rw [if_pos a3, if_pos a3, upO_other _ _ (by omega)]
          · rw [if_neg a3, if_neg a3]
theorem bk_ov (hi : i < 5) (v : Value) (j : Nat) : bkF g ob ub kb (upV ov i v) mb j = if j = i then v.ownBlock else bkF g ob ub kb ov mb j := by
  by_cases h1 : j = i
  · rw [if_pos h1, h1, bk_row hi, upV_same]
  · rw [if_neg h1]
    unfold bkF
    by_cases a1 : j < 5
    · rw [if_pos a1, if_pos a1, upV_other _ _ h1]
    · rw [if_neg a1, if_neg a1]
end
structure Bk (B : Ab) (W w : World) (bk : Nat → Option Nat) : Prop where
  inj : ∀ i j b, bk i = some b → bk j = some b → i = j
  lo : ∀ i b, bk i = some b → W.heap.size ≤ b ∧ b < w.heap.size ∧ ¬ B.has b
theorem Bk.step {B : Ab} {W w w' : World} {bk bk' : Nat → Option Nat} (h : Bk B W w bk) (hW : W.heap.size ≤ w.heap.size) (hsz : w.heap.size ≤ w'.heap.size) (h1 : ∀ j b, bk' j = some b → bk j = some b ∨ (w.heap.size ≤ b ∧ b < w'.heap.size ∧ ¬ B.has b)) (h2 : ∀ i j b, bk' i = some b → bk' j = some b → w.heap.size ≤ b → i = j) : Bk B W w' bk' := by
  refine ⟨fun i j b hi hj => ?_, fun i b hi => ?_⟩
  · by_cases hb : w.heap.size ≤ b
    · exact h2 i j b hi hj hb
    · rcases h1 i b hi with a | a
      · rcases h1 j b hj with c | c
        · exact h.inj i j b a c
        · omega
      · omega
  · rcases h1 i b hi with a | a
    · obtain ⟨x1, x2, x3⟩ := h.lo i b a
      exact ⟨x1, by omega, x3⟩
    · exact ⟨by omega, a.2⟩
theorem Bk.same {B : Ab} {W w w' : World} {bk : Nat → Option Nat} (h : Bk B W w bk) (hsz : w.heap.size ≤ w'.heap.size) : Bk B W w' bk :=
  ⟨h.inj, fun i b hi => by have := h.lo i b hi; exact ⟨this.1, by omega, this.2.2⟩⟩
section
variable {B : Ab} {W w w' : World} {s s' : Ar} {g : Nat} {p : Pl5} {ob ub kb : Nat} {ov : Nat → Value} {own : Nat → List Int} {mc : Nat → Option Mc} {mb : Nat → Option (Nat × Nat)} {cu ck : Nat → Value}
end
end Go.Proofs.YtopnkfbcphbbiaaDoor.S1
namespace Go.Proofs.YtopnkfbcphbbiaaDoor.S1
open Go.RowKit
open H8 (HTab below_then)
open A9 (Ab ArAt ArMem FrA Ar rawA useA ptrA Ok9 SrcN row_new isTab tab_lt htab_keep)
open F0 (Pl5 Tn FrS noT noT_new plBox plS plS_of below_next Wk upO upO_same upO_other upV upV_same upV_other)

section
variable {B : Ab} {W w w' : World} {s s' : Ar} {g : Nat} {p : Pl5} {ob ub kb : Nat} {ov : Nat → Value} {own : Nat → List Int} {mc : Nat → Option Mc} {mb : Nat → Option (Nat × Nat)} {cu ck : Nat → Value}
end
end Go.Proofs.YtopnkfbcphbbiaaDoor.S1
