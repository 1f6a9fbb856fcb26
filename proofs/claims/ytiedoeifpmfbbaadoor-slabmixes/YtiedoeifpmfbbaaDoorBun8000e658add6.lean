/-
  Helpers: Sw, Ya, Yb, Yc, Yd, Ye.
-/
import Derived.Test.YtiedoeifpmfbbaaDoorBun8a2411e6fe70
import Derived.ArgAppend
namespace Go.Proofs.YtiedoeifpmfbbaaDoor
open Go.RowKit
open A9 (intsV intsV_one infoInt SrcN)

def RowO (w : World) (base : Nat) (v : Value) (xs : List Int) : Prop :=
  (v = .slice none 0 0 ∧ xs = []) ∨ ∃ r off cap cur, v = .slice (some ⟨r, off, none⟩) xs.length cap ∧ base ≤ r ∧ w.heap[r]? = some (.cells cur 3 (0, 0)) ∧ xs.length ≤ cap ∧ cap ≤ maxLen ∧ off + cap ≤ cur.size ∧ ∀ j x, xs[j]? = some x → cur[off + j]? = some (.int .i64 x)
section
variable {w w' : World} {base : Nat} {v : Value} {xs : List Int}
theorem RowO.nil (w : World) (base : Nat) : RowO w base (.slice none 0 0) [] := .inl ⟨rfl, rfl⟩
theorem RowO.lt (h : RowO w base v xs) (g : Nat) (hg : v.ownBlock = some g) : base ≤ g ∧ g < w.heap.size := by
  rcases h with ⟨rfl, rfl⟩ | ⟨r, off, cap, cur, rfl, h1, h2, -⟩
  · simp [Value.ownBlock] at hg
  · have e : r = g := by simpa [Value.ownBlock] using hg
    subst e
    exact ⟨h1, lt_of_block h2⟩
theorem RowO.kept (h : RowO w base v xs) (hb : ∀ g, v.ownBlock = some g → w'.heap[g]? = w.heap[g]?) : RowO w' base v xs := by
  rcases h with ⟨rfl, rfl⟩ | ⟨r, off, cap, cur, rfl, h1, h2, h3⟩
  · exact .inl ⟨rfl, rfl⟩
  · exact .inr ⟨r, off, cap, cur, rfl, h1, (hb r (by simp [Value.ownBlock])).trans h2, h3⟩
theorem RowO.of_own {n : Nat} (h : w.ownsRow base 3 1 v n (intsV xs)) (hn : xs.length = n) : RowO w base v xs := by
  subst hn
  rcases h.2 with ⟨h0, h1⟩ | ⟨g, cap, cur, h0, h1, h2, h3, h4, h5, h6⟩
  · exact .inl ⟨h0, List.eq_nil_of_length_eq_zero h1⟩
  · refine .inr ⟨g, 0, cap, cur, h0, h1, h2, h3, h4, by omega, fun j x hx => ?_⟩
    have hj := (List.getElem?_eq_some_iff.1 hx).1
    have h7 : (intsV xs)[j]? = some (.int .i64 x) := by simp [intsV, hx]
    rw [← h6, List.getElem?_take_of_lt (by omega)] at h7
    rw [Nat.zero_add]
    simpa using h7
theorem RowO.len (h : RowO w base v xs) : ∃ a cap, v = .slice a xs.length cap := by
  rcases h with ⟨rfl, rfl⟩ | ⟨r, off, cap, cur, rfl, -⟩
  · exact ⟨none, 0, rfl⟩
  · exact ⟨_, cap, rfl⟩
/-- its first one, and what is behind it -/
theorem RowO.first {x : Int} {ys : List Int} (h : RowO w base v (x :: ys)) : ∃ r off cap, v = .slice (some ⟨r, off, none⟩) (ys.length + 1) cap ∧ 1 ≤ cap ∧ ys.length + 1 ≤ cap ∧ cap ≤ maxLen ∧ w.cell? ⟨r, off, none⟩ = some (.int .i64 x) ∧ RowO w base (.slice (if cap = 1 then some ⟨r, off, none⟩ else some ⟨r, off + 1, none⟩) ys.length (cap - 1)) ys := by
  rcases h with ⟨-, h⟩ | ⟨r, off, cap, cur, rfl, h1, h2, h3, h4, h5, h6⟩
  · cases h
  · simp only [List.length_cons] at h3
    refine ⟨r, off, cap, rfl, by omega, h3, h4, ?_, ?_⟩
    · have h7 := cell_of_row w r off _ _ _ h2
      rw [h7]
      have := h6 0 x rfl
      simpa using this
    · by_cases hc : cap = 1
      · rw [if_pos hc]
        obtain rfl : ys = [] := List.eq_nil_of_length_eq_zero (by omega)
        exact .inr ⟨r, off, cap - 1, cur, rfl, h1, h2, by simp, by omega, by omega, fun j x hx => by simp at hx⟩
      · rw [if_neg hc]
        exact .inr ⟨r, off + 1, cap - 1, cur, rfl, h1, h2, by omega, by omega, by omega, fun j y hy => by
          have := h6 (j + 1) y (by simpa using hy)
          rw [show off + 1 + j = off + (j + 1) by omega]
          exact this⟩
theorem RowO.app (ty : TypeId) (h : RowO w base v xs) (hb : base ≤ w.heap.size) {ad : Option Addr} {cap : Nat} {x : Int} (hs : SrcN w ad 1 [x]) (hn : xs.length ≤ 10000) :
    ∃ v' w', (Builtin.append_ #[22, 22] ty #[v, .slice ad 1 cap]).run Tryd.prog w = .ok v' w' ∧ RowO w' base v' (xs ++ [x]) ∧ (∀ k, k < w.heap.size → v.ownBlock ≠ some k → w'.heap[k]? = w.heap[k]?) ∧ w.heap.size ≤ w'.heap.size ∧ w'.os = w.os ∧ w'.tape = w.tape ∧ w'.output = w.output ∧ (v'.ownBlock = v.ownBlock ∨ ∀ g, v'.ownBlock = some g → w.heap.size ≤ g) := by
  obtain ⟨i, hi, hz, hz1, hz2⟩ := infoInt
  obtain ⟨hl, a, rfl, hc⟩ := hs
  rcases h with ⟨rfl, rfl⟩ | ⟨r, off, c, cur, rfl, h1, h2, h3, h4, h5, h6⟩
  · obtain ⟨v', w', hr, o1, o2, -, o3⟩ := run_append_own_at (P := Tryd.prog) w base 22 ty 3 i (.int .i64 0) 1 8 Tryd.underlying22 hi hz hz1 hz2 rfl (by decide) (.slice none 0 0) 0 [] (World.ownsRow_nil w base _ _) a 1 cap (intsV [x]) (by simp [intsV]) hc intsV_one (by unfold maxLen; omega) (by omega) hb
    refine ⟨v', w', hr, RowO.of_own (n := 1) o1 rfl, fun k hk hne => o2.block k hk fun e => by simp [Value.ownBlock] at e, o2.size, o2.os, o2.tape, o2.output, .inr fun g hg => ?_⟩
    rcases o3 with o3 | o3
    · rw [o3] at hg
      simp [Value.ownBlock] at hg
    · rw [o3] at hg
      exact Nat.le_of_eq (Option.some.inj hg)
  · by_cases hroom : xs.length + 1 ≤ c
    · have hr := run_append_room_cells (P := Tryd.prog) w 22 ty 3 i Tryd.underlying22 hi r off xs.length c a 1 cap (intsV [x]) (by simp [intsV, hz1]) hc intsV_one hroom (fun j hj => by
        have hj0 : j = 0 := by simp [intsV] at hj; omega
        have hlt : off + xs.length * i.size + j < cur.size := by rw [hj0, hz1]; omega
        rw [cell_of_row w r _ _ _ _ h2, Array.getElem?_eq_getElem hlt]
        rfl) (fun j _ => frozen_of_row w r _ _ _ h2)
      rw [hz1, Nat.mul_one] at hr
      have hset : w.setCells r (off + xs.length) (intsV [x]) = w.setCell ⟨r, off + xs.length, none⟩ (.int .i64 x) := rfl
      rw [hset] at hr
      refine ⟨_, _, hr, .inr ⟨r, off, c, cur.setIfInBounds (off + xs.length) (.int .i64 x), by simp, h1, heap_setCell_same _ _ _ _ _ _ h2, by simp; omega, h4, by simpa using h5, fun j y hy => ?_⟩, fun k hk hne => Below.heap_setCell _ _ _ _ (fun e => hne (by rw [e]; rfl)), by simp, rfl, rfl, rfl, .inl rfl⟩
      by_cases hj : j < xs.length
      · rw [List.getElem?_append_left hj] at hy
        rw [Array.getElem?_setIfInBounds_ne (by omega)]
        exact h6 j y hy
      · have hj2 : j = xs.length := by
          have := (List.getElem?_eq_some_iff.1 hy).1
          simp at this
          omega
        subst hj2
        simp at hy
        subst hy
        rw [Array.getElem?_setIfInBounds_self_of_lt (by omega)]
    · obtain ⟨v', w', hr, o1, o2⟩ := run_append_arg_grows (P := Tryd.prog) w 22 ty 3 i (.int .i64 0) 1 8 Tryd.underlying22 hi hz hz1 hz2 rfl (by decide) ⟨r, off, none⟩ xs.length c (intsV xs) (by simp [intsV]) (fun j u hu => by
          rw [Addr.add_lit, cell_of_row w r _ _ _ _ h2]
          rw [intsV, List.getElem?_map] at hu
          obtain ⟨y, hy, rfl⟩ := Option.map_eq_some_iff.1 hu
          exact h6 j y hy) a 1 cap (intsV [x]) (by simp [intsV]) hc (by omega) (by unfold maxLen; omega) (by omega)
      refine ⟨v', w', hr, ?_, fun k hk _ => o2.block k hk (by simp), o2.size, o2.os, o2.tape, o2.output, ?_⟩
      · have h9 : RowO w' w.heap.size v' (xs ++ [x]) := RowO.of_own (n := xs.length + 1) (by simpa [intsV] using o1) (by simp)
        rcases h9 with ⟨e1, e2⟩ | ⟨r', off', c', cur', e1, e2, e3⟩
        · exact .inl ⟨e1, e2⟩
        · exact .inr ⟨r', off', c', cur', e1, by omega, e3⟩
      · exact .inr fun g hg => (o1.lt g hg).1
end
end Go.Proofs.YtiedoeifpmfbbaaDoor
namespace Go.Proofs.YtiedoeifpmfbbaaDoor
open Go.RowKit
open H8 (HTab below_then)
open A9 (Ab ArAt ArMem FrA Ar rawA useA ptrA Ok9 SrcN row_new isTab tab_lt htab_keep)
open F0 (Pl5 Tn FrS noT noT_new plBox plS plS_of below_next Wk upO upO_same upO_other upV upV_same upV_other)

def isFr : Mc → Bool
  | .free _ _ _ => true
  | _ => false
def MAt (B : Ab) (q x : Nat) (w : World) (p : Pl5) (m : Mc) : Prop :=
  (isFr m = true ∧ ∃ f b t, FeM B q w p f b t ∧ FeR m f b t ∧ f.y = x) ∨ (isFr m = false ∧ ∃ a t, AlM B q w p a t ∧ AlR m a t ∧ a.x = x)
theorem MAt.kept {B : Ab} {q x : Nat} {w w' : World} {p : Pl5} {m : Mc} (h : MAt B q x w p m) (hq : w'.heap[q]? = w.heap[q]?) (hx : w'.heap[x]? = w.heap[x]?) : MAt B q x w' p m := by
  rcases h with ⟨h0, f, b, t, h1, h2, rfl⟩ | ⟨h0, a, t, h1, h2, rfl⟩
  · exact .inl ⟨h0, f, b, t, ⟨h1.al.same hq, h1.po.same hx, h1.qB, h1.xB, h1.qT, h1.xT⟩, h2, rfl⟩
  · exact .inr ⟨h0, a, t, ⟨h1.al.same hq, h1.po.same hx, h1.qB, h1.xB, h1.qT, h1.xT⟩, h2, rfl⟩
theorem MAt.lt {B : Ab} {q x : Nat} {w : World} {p : Pl5} {m : Mc} (h : MAt B q x w p m) : q < w.heap.size ∧ x < w.heap.size ∧ x ≠ q := by
  rcases h with ⟨h0, f, b, t, h1, h2, rfl⟩ | ⟨h0, a, t, h1, h2, rfl⟩
  · exact ⟨h1.al.lt, h1.po.lt, h1.ne⟩
  · exact ⟨h1.al.lt, h1.po.lt, h1.ne⟩
/-- the blocks, by number -/
def bkF (g ob ub kb : Nat) (ov : Nat → Value) (mb : Nat → Option (Nat × Nat)) (i : Nat) : Option Nat :=
  if i < 5 then (ov i).ownBlock else if i < 10 then (mb (i - 5)).map (·.1) else if i < 15 then (mb (i - 10)).map (·.2) else if i = 15 then some ob else if i = 16 then some ub else if i = 17 then some kb else if i = 18 then some g else none
section
variable {g ob ub kb : Nat} {ov : Nat → Value} {mb : Nat → Option (Nat × Nat)} {i : Nat}
theorem bk_row (hi : i < 5) : bkF g ob ub kb ov mb i = (ov i).ownBlock := if_pos hi
theorem bk_q (hi : i < 5) : bkF g ob ub kb ov mb (i + 5) = (mb i).map (·.1) := by
  unfold bkF
  rw [if_neg (by omega), if_pos (by omega), Nat.add_sub_cancel]
theorem bk_x (hi : i < 5) : bkF g ob ub kb ov mb (i + 10) = (mb i).map (·.2) := by
  unfold bkF
  rw [if_neg (by omega), if_neg (by omega), if_pos (by omega), Nat.add_sub_cancel]
theorem bk_ob : bkF g ob ub kb ov mb 15 = some ob := rfl
theorem bk_ub : bkF g ob ub kb ov mb 16 = some ub := rfl
theorem bk_kb : bkF g ob ub kb ov mb 17 = some kb := rfl
theorem bk_g : bkF g ob ub kb ov mb 18 = some g := rfl
theorem bk_mb (hi : i < 5) (v : Option (Nat × Nat)) (j : Nat) : bkF g ob ub kb ov (upO mb i v) j = if j = i + 5 then v.map (·.1) else if j = i + 10 then v.map (·.2) else bkF g ob ub kb ov mb j := by
  by_cases h1 : j = i + 5
  · rw [if_pos h1, h1, bk_q hi, upO_same]
  · by_cases h2 : j = i + 10
    · rw [if_neg h1, if_pos h2, h2, bk_x hi, upO_same]
    · rw [if_neg h1, if_neg h2]
      unfold bkF
      by_cases a1 : j < 5
      · rw [if_pos a1, if_pos a1]
      · rw [if_neg a1, if_neg a1]
        by_cases a2 : j < 10
        · rw [if_pos a2, if_pos a2, upO_other _ _ (by omega)]
        · rw [if_neg a2, if_neg a2]
          by_cases a3 : j < 15
          · rw [if_pos a3, if_pos a3, upO_other _ _ (by omega)]
          · rw [if_neg a3, if_neg a3]
theorem bk_ov (hi : i < 5) (v : Value) (j : Nat) : bkF g ob ub kb (upV ov i v) mb j = if j = i then v.ownBlock else bkF g ob ub kb ov mb j := by
  by_cases h1 : j = i
  · rw [if_pos h1, h1, bk_row hi, upV_same]
  · rw [if_neg h1]
    unfold bkF
    by_cases a1 : j < 5
    · rw [if_pos a1, if_pos a1, upV_other _ _ h1]
    · rw [if_neg a1, if_neg a1]
end
structure Bk (B : Ab) (W w : World) (bk : Nat → Option Nat) : Prop where
  inj : ∀ i j b, bk i = some b → bk j = some b → i = j
  lo : ∀ i b, bk i = some b → W.heap.size ≤ b ∧ b < w.heap.size ∧ ¬ B.has b
theorem Bk.step {B : Ab} {W w w' : World} {bk bk' : Nat → Option Nat} (h : Bk B W w bk) (hW : W.heap.size ≤ w.heap.size) (hsz : w.heap.size ≤ w'.heap.size) (h1 : ∀ j b, bk' j = some b → bk j = some b ∨ (w.heap.size ≤ b ∧ b < w'.heap.size ∧ ¬ B.has b)) (h2 : ∀ i j b, bk' i = some b → bk' j = some b → w.heap.size ≤ b → i = j) : Bk B W w' bk' := by
  refine ⟨fun i j b hi hj => ?_, fun i b hi => ?_⟩
  · by_cases hb : w.heap.size ≤ b
    · exact h2 i j b hi hj hb
    · rcases h1 i b hi with a | a
      · rcases h1 j b hj with c | c
        · exact h.inj i j b a c
        · omega
      · omega
  · rcases h1 i b hi with a | a
    · obtain ⟨x1, x2, x3⟩ := h.lo i b a
      exact ⟨x1, by omega, x3⟩
    · exact ⟨by omega, a.2⟩
theorem Bk.same {B : Ab} {W w w' : World} {bk : Nat → Option Nat} (h : Bk B W w bk) (hsz : w.heap.size ≤ w'.heap.size) : Bk B W w' bk :=
  ⟨h.inj, fun i b hi => by have := h.lo i b hi; exact ⟨this.1, by omega, this.2.2⟩⟩
structure Ys (B : Ab) (W w : World) (s : Ar) (g : Nat) (p : Pl5) (ob ub kb : Nat) (ov : Nat → Value) (own : Nat → List Int) (mc : Nat → Option Mc) (mb : Nat → Option (Nat × Nat)) (cu ck : Nat → Value) : Prop where
  wk : Wk B W w s g p
  bk : Bk B W w (bkF g ob ub kb ov mb)
  rows : ∀ i, i < 5 → RowO w W.heap.size (ov i) (own i)
  obr : w.rowIs ob 44 5 ov
  ubr : w.rowIs ub 47 5 cu
  kbr : w.rowIs kb 48 5 ck
  mN : ∀ i, i < 5 → mc i = none → mb i = none
  mS : ∀ i, i < 5 → ∀ m, mc i = some m → ∃ q x, mb i = some (q, x) ∧ MAt B q x w p m
  tb : HTab W
section
variable {B : Ab} {W w w' : World} {s s' : Ar} {g : Nat} {p : Pl5} {ob ub kb : Nat} {ov : Nat → Value} {own : Nat → List Int} {mc : Nat → Option Mc} {mb : Nat → Option (Nat × Nat)} {cu ck : Nat → Value}
/-- its blocks as they were -/
theorem Ys.frame (h : Ys B W w s g p ob ub kb ov own mc mb cu ck) (hW : Wk B W w' s' g p) (hsz : w.heap.size ≤ w'.heap.size) (hk : ∀ i b, bkF g ob ub kb ov mb i = some b → w'.heap[b]? = w.heap[b]?) : Ys B W w' s' g p ob ub kb ov own mc mb cu ck := by
  refine ⟨hW, h.bk.same hsz, fun i hi => (h.rows i hi).kept fun r hr => hk i r (by rw [bk_row hi]; exact hr), h.obr.of_block (hk 15 _ bk_ob), h.ubr.of_block (hk 16 _ bk_ub), h.kbr.of_block (hk 17 _ bk_kb), h.mN, fun i hi m hm => ?_, h.tb⟩
  obtain ⟨q, x, e, hM⟩ := h.mS i hi m hm
  exact ⟨q, x, e, hM.kept (hk (i + 5) q (by rw [bk_q hi, e]; rfl)) (hk (i + 10) x (by rw [bk_x hi, e]; rfl))⟩
theorem Ys.arena (h : Ys B W w s g p ob ub kb ov own mc mb cu ck) (hA : ArAt B w' s') (hF : FrA B w w') : Ys B W w' s' g p ob ub kb ov own mc mb cu ck :=
  h.frame (h.wk.arena hA hF) hF.size fun i b hb => hF.block b (h.bk.lo i b hb).2.1 (h.bk.lo i b hb).2.2
theorem Ys.below (h : Ys B W w s g p ob ub kb ov own mc mb cu ck) (hb : Below w.heap.size w w') : Ys B W w' s g p ob ub kb ov own mc mb cu ck :=
  h.frame (h.wk.below hb) hb.size fun i b hb' => hb.block b (h.bk.lo i b hb').2.1
theorem Ys.alloc (h : Ys B W w s g p ob ub kb ov own mc mb cu ck) (o : Obj) : Ys B W (w.alloc o) s g p ob ub kb ov own mc mb cu ck := h.below ((Below.refl _ _).alloc (Nat.le_refl _) o)
theorem Ys.drew (h : Ys B W w s g p ob ub kb ov own mc mb cu ck) : Ys B W w.drew s g p ob ub kb ov own mc mb cu ck := h.below (Below.refl _ _).drew
/-- one actor's machine goes on, or is let go -/
theorem Ys.turn (h : Ys B W w s g p ob ub kb ov own mc mb cu ck) {i q x : Nat} (hi : i < 5) (hmb : mb i = some (q, x)) (hA : ArAt B w' s') (hF : FrS (S3 B q x) w w') {m' : Option Mc} {b' : Option (Nat × Nat)} (hN : m' = none → b' = none) (hS : ∀ m, m' = some m → ∃ x', b' = some (q, x') ∧ (x' = x ∨ (w.heap.size ≤ x' ∧ x' < w'.heap.size ∧ ¬ B.has x')) ∧ MAt B q x' w' p m) : Ys B W w' s' g p ob ub kb ov own (upO mc i m') (upO mb i b') cu ck := by
  have hbq : bkF g ob ub kb ov mb (i + 5) = some q := by rw [bk_q hi, hmb]; rfl
  have hbx : bkF g ob ub kb ov mb (i + 10) = some x := by rw [bk_x hi, hmb]; rfl
  have hk : ∀ j b, j ≠ i + 5 → j ≠ i + 10 → bkF g ob ub kb ov mb j = some b → w'.heap[b]? = w.heap[b]? := fun j b h1 h2 hb => hF.block b (h.bk.lo j b hb).2.1 fun hh => by
    rcases hh with hh | hh | hh
    · exact (h.bk.lo j b hb).2.2 hh
    · exact h1 (h.bk.inj j _ b hb (by rw [hh]; exact hbq))
    · exact h2 (h.bk.inj j _ b hb (by rw [hh]; exact hbx))
  have hqW := (h.bk.lo _ _ hbq).1
  have hxW := (h.bk.lo _ _ hbx).1
  have hg : g ≠ q ∧ g ≠ x := ⟨fun e => by have := h.bk.inj 18 (i + 5) g bk_g (hbq.trans (congrArg some e.symm)); omega, fun e => by have := h.bk.inj 18 (i + 10) g bk_g (hbx.trans (congrArg some e.symm)); omega⟩
  have hlow : Below W.heap.size W w' := h.wk.low.trans (hF.below h.wk.low.size fun k hk => by
    rcases hk with hk | rfl | rfl
    · exact h.wk.own k hk
    · exact hqW
    · exact hxW)
  have hW : Wk B W w' s' g p := ⟨hA, hlow, h.wk.own, (hk 18 g (by omega) (by omega) bk_g).trans h.wk.bx, h.wk.gB, h.wk.gW⟩
  have hnew : ∀ j b, bkF g ob ub kb ov (upO mb i b') j = some b → bkF g ob ub kb ov mb j = some b ∨ (j = i + 10 ∧ w.heap.size ≤ b ∧ b < w'.heap.size ∧ ¬ B.has b) := fun j b hb => by
    rw [bk_mb hi] at hb
    cases m' with
    | none =>
      rw [hN rfl] at hb
      split at hb
      · cases hb
      · split at hb
        · cases hb
        · exact .inl hb
    | some m =>
      obtain ⟨x', hb', hx', -⟩ := hS m rfl
      rw [hb'] at hb
      split at hb
      · rename_i e
        have e2 : q = b := Option.some.inj hb
        rw [e, ← e2]
        exact .inl hbq
      · split at hb
        · rename_i e
          have e2 : x' = b := Option.some.inj hb
          rcases hx' with hx' | hx'
          · rw [e, ← e2, hx']
            exact .inl hbx
          · rw [← e2]
            exact .inr ⟨e, hx'⟩
        · exact .inl hb
  refine ⟨hW, h.bk.step h.wk.low.size hF.size (fun j b hb => (hnew j b hb).imp_right (·.2)) (fun j l b hj hl hb => ?_), fun j hj => (h.rows j hj).kept fun r hr => hk j r (by omega) (by omega) (by rw [bk_row hj]; exact hr), h.obr.of_block (hk 15 _ (by omega) (by omega) bk_ob), h.ubr.of_block (hk 16 _ (by omega) (by omega) bk_ub), h.kbr.of_block (hk 17 _ (by omega) (by omega) bk_kb), fun j hj e => ?_, fun j hj m hm => ?_, h.tb⟩
  · rcases hnew j b hj with a | a
    · have := (h.bk.lo j b a).2.1; omega
    · rcases hnew l b hl with c | c
      · have := (h.bk.lo l b c).2.1; omega
      · omega
  · by_cases e2 : j = i
    · subst e2
      rw [upO_same] at e ⊢
      exact hN e
    · rw [upO_other _ _ e2] at e ⊢
      exact h.mN j hj e
  · by_cases e2 : j = i
    · subst e2
      rw [upO_same] at hm ⊢
      obtain ⟨x', h1, -, h3⟩ := hS m hm
      exact ⟨q, x', h1, h3⟩
    · rw [upO_other _ _ e2] at hm ⊢
      obtain ⟨q', x', e, hM⟩ := h.mS j hj m hm
      exact ⟨q', x', e, hM.kept (hk (j + 5) q' (by omega) (by omega) (by rw [bk_q hj, e]; rfl)) (hk (j + 10) x' (by omega) (by omega) (by rw [bk_x hj, e]; rfl))⟩
/-- a machine begins -/
theorem Ys.fresh (h : Ys B W w s g p ob ub kb ov own mc mb cu ck) {i q x : Nat} (hi : i < 5) (hmb : mb i = none) (hb : Below w.heap.size w w') (hq : w.heap.size ≤ q) (hx : w.heap.size ≤ x) {m : Mc} (hM : MAt B q x w' p m) : Ys B W w' s g p ob ub kb ov own (upO mc i (some m)) (upO mb i (some (q, x))) cu ck := by
  have h2 := h.below hb
  obtain ⟨m1, m2, m3⟩ := hM.lt
  have hl := fun k (hk : B.has k) => h.wk.ar.lt hk
  have hnew : ∀ j b, bkF g ob ub kb ov (upO mb i (some (q, x))) j = some b → bkF g ob ub kb ov mb j = some b ∨ (j = i + 5 ∧ b = q) ∨ (j = i + 10 ∧ b = x) := fun j b hb => by
    rw [bk_mb hi] at hb
    split at hb
    · rename_i e
      exact .inr (.inl ⟨e, (Option.some.inj hb).symm⟩)
    · split at hb
      · rename_i e
        exact .inr (.inr ⟨e, (Option.some.inj hb).symm⟩)
      · exact .inl hb
  refine ⟨h2.wk, h.bk.step h.wk.low.size hb.size (fun j b hb => ?_) (fun j l b hj hl' hbs => ?_), h2.rows, h2.obr, h2.ubr, h2.kbr, fun j hj e => ?_, fun j hj m hm => ?_, h.tb⟩
  · rcases hnew j b hb with a | ⟨-, rfl⟩ | ⟨-, rfl⟩
    · exact .inl a
    · exact .inr ⟨hq, m1, fun hh => by have := hl _ hh; omega⟩
    · exact .inr ⟨hx, m2, fun hh => by have := hl _ hh; omega⟩
  · rcases hnew j b hj with a | ⟨a, rfl⟩ | ⟨a, rfl⟩
    · have := (h.bk.lo j b a).2.1; omega
    · rcases hnew l b hl' with c | ⟨c, -⟩ | ⟨c, e⟩
      · have := (h.bk.lo l b c).2.1; omega
      · omega
      · exact absurd e.symm m3
    · rcases hnew l b hl' with c | ⟨c, e⟩ | ⟨c, -⟩
      · have := (h.bk.lo l b c).2.1; omega
      · exact absurd e m3
      · omega
  · by_cases e2 : j = i
    · subst e2
      rw [upO_same] at e
      cases e
    · rw [upO_other _ _ e2] at e ⊢
      exact h.mN j hj e
  · by_cases e2 : j = i
    · subst e2
      rw [upO_same] at hm ⊢
      cases hm
      exact ⟨q, x, rfl, hM⟩
    · rw [upO_other _ _ e2] at hm ⊢
      exact h2.mS j hj m hm
end
end Go.Proofs.YtiedoeifpmfbbaaDoor
namespace Go.Proofs.YtiedoeifpmfbbaaDoor
open Go.RowKit
open H8 (HTab below_then)
open A9 (Ab ArAt ArMem FrA Ar rawA useA ptrA Ok9 SrcN row_new isTab tab_lt htab_keep)
open F0 (Pl5 Tn FrS noT noT_new plBox plS plS_of below_next Wk upO upO_same upO_other upV upV_same upV_other)

section
variable {B : Ab} {W w w' : World} {s s' : Ar} {g : Nat} {p : Pl5} {ob ub kb : Nat} {ov : Nat → Value} {own : Nat → List Int} {mc : Nat → Option Mc} {mb : Nat → Option (Nat × Nat)} {cu ck : Nat → Value}
theorem Ys.far (h : Ys B W w s g p ob ub kb ov own mc mb cu ck) {j b : Nat} (hb : bkF g ob ub kb ov mb j = some b) : W.heap.size ≤ b ∧ b < w.heap.size ∧ ¬ B.has b ∧ noT b := by
  obtain ⟨x1, x2, x3⟩ := h.bk.lo j b hb
  exact ⟨x1, x2, x3, noT_new h.tb x1⟩
/-- one block turned, all others as they were -/
theorem Ys.wkSet (h : Ys B W w s g p ob ub kb ov own mc mb cu ck) {j b : Nat} (hb : bkF g ob ub kb ov mb j = some b) (hj : j ≠ 18) (i : Nat) (v : Value) : Wk B W (w.setCell ⟨b, i, none⟩ v) s g p := by
  obtain ⟨x1, x2, x3, x4⟩ := h.far hb
  have hg : g ≠ b := fun e => hj (h.bk.inj j 18 b hb (by rw [← e]; exact bk_g))
  exact ⟨h.wk.ar.setOther x3 x4.1 x4.2 i v, h.wk.low.setCell (p := ⟨b, i, none⟩) x1 v, h.wk.own, (Below.heap_setCell _ _ _ _ hg).trans h.wk.bx, h.wk.gB, h.wk.gW⟩
theorem Ys.others (h : Ys B W w s g p ob ub kb ov own mc mb cu ck) {j b : Nat} (hb : bkF g ob ub kb ov mb j = some b) (i : Nat) (v : Value) {l c : Nat} (hl : l ≠ j) (hc : bkF g ob ub kb ov mb l = some c) : (w.setCell ⟨b, i, none⟩ v).heap[c]? = w.heap[c]? :=
  Below.heap_setCell _ _ _ _ fun e => hl (h.bk.inj l j c hc (by have e2 : c = b := e; rw [e2]; exact hb))
theorem Ys.setU (h : Ys B W w s g p ob ub kb ov own mc mb cu ck) (i : Nat) (v : Value) : Ys B W (w.setCell ⟨ub, i, none⟩ v) s g p ob ub kb ov own mc mb (upV cu i v) ck := by
  have ho := fun l c (hl : l ≠ 16) (hc : bkF g ob ub kb ov mb l = some c) => h.others bk_ub i v hl hc
  refine ⟨h.wkSet bk_ub (by decide) i v, h.bk.same (by simp), fun j hj => (h.rows j hj).kept fun r hr => ho j r (by omega) (by rw [bk_row hj]; exact hr), h.obr.of_block (ho 15 _ (by decide) bk_ob), (h.ubr.set i v).congr fun j _ => ?_, h.kbr.of_block (ho 17 _ (by decide) bk_kb), h.mN, fun j hj m hm => ?_, h.tb⟩
  · unfold upV
    split <;> rfl
  · obtain ⟨q, x, e, hM⟩ := h.mS j hj m hm
    exact ⟨q, x, e, hM.kept (ho (j + 5) q (by omega) (by rw [bk_q hj, e]; rfl)) (ho (j + 10) x (by omega) (by rw [bk_x hj, e]; rfl))⟩
theorem Ys.setK (h : Ys B W w s g p ob ub kb ov own mc mb cu ck) (i : Nat) (v : Value) : Ys B W (w.setCell ⟨kb, i, none⟩ v) s g p ob ub kb ov own mc mb cu (upV ck i v) := by
  have ho := fun l c (hl : l ≠ 17) (hc : bkF g ob ub kb ov mb l = some c) => h.others bk_kb i v hl hc
  refine ⟨h.wkSet bk_kb (by decide) i v, h.bk.same (by simp), fun j hj => (h.rows j hj).kept fun r hr => ho j r (by omega) (by rw [bk_row hj]; exact hr), h.obr.of_block (ho 15 _ (by decide) bk_ob), h.ubr.of_block (ho 16 _ (by decide) bk_ub), (h.kbr.set i v).congr fun j _ => ?_, h.mN, fun j hj m hm => ?_, h.tb⟩
  · unfold upV
    split <;> rfl
  · obtain ⟨q, x, e, hM⟩ := h.mS j hj m hm
    exact ⟨q, x, e, hM.kept (ho (j + 5) q (by omega) (by rw [bk_q hj, e]; rfl)) (ho (j + 10) x (by omega) (by rw [bk_x hj, e]; rfl))⟩
/-- another row takes a row's place: the arrays not yet -/
theorem Ys.row (h : Ys B W w s g p ob ub kb ov own mc mb cu ck) (hW : Wk B W w' s g p) (hsz : w.heap.size ≤ w'.heap.size) {i : Nat} (hi : i < 5) (hk : ∀ j b, j ≠ i → bkF g ob ub kb ov mb j = some b → w'.heap[b]? = w.heap[b]?) {v : Value} {xs : List Int} (hr : RowO w' W.heap.size v xs) (hn : ∀ r, v.ownBlock = some r → (ov i).ownBlock = some r ∨ (w.heap.size ≤ r ∧ ¬ B.has r)) :
    Ys B W (w'.setCell ⟨ob, i, none⟩ v) s g p ob ub kb (upV ov i v) (upO own i xs) mc mb cu ck := by
  have hnew : ∀ j b, bkF g ob ub kb (upV ov i v) mb j = some b → bkF g ob ub kb ov mb j = some b ∨ (j = i ∧ w.heap.size ≤ b ∧ b < w'.heap.size ∧ ¬ B.has b) := fun j b hb => by
    rw [bk_ov hi] at hb
    split at hb
    · rename_i e
      rcases hn b hb with a | a
      · rw [e, bk_row hi]
        exact .inl a
      · exact .inr ⟨e, a.1, (hr.lt b hb).2, a.2⟩
    · exact .inl hb
  have hbk : Bk B W w' (bkF g ob ub kb (upV ov i v) mb) := h.bk.step h.wk.low.size hsz (fun j b hb => (hnew j b hb).imp_right (·.2)) fun j l b hj hl hb => by
    rcases hnew j b hj with a | a
    · have := (h.bk.lo j b a).2.1; omega
    · rcases hnew l b hl with c | c
      · have := (h.bk.lo l b c).2.1; omega
      · omega
  have hbo : bkF g ob ub kb (upV ov i v) mb 15 = some ob := bk_ob
  obtain ⟨o1, o2, o3⟩ := hbk.lo 15 ob hbo
  have o4 := noT_new h.tb o1
  have hs : ∀ j b, j ≠ 15 → bkF g ob ub kb (upV ov i v) mb j = some b → (w'.setCell ⟨ob, i, none⟩ v).heap[b]? = w'.heap[b]? := fun j b hj hb => Below.heap_setCell _ _ _ _ fun e => hj (hbk.inj j 15 b hb (by have e2 : b = ob := e; rw [e2]; exact bk_ob))
  have hkk : ∀ j b, j ≠ i → j ≠ 15 → bkF g ob ub kb ov mb j = some b → (w'.setCell ⟨ob, i, none⟩ v).heap[b]? = w.heap[b]? := fun j b h1 h2 hb => (hs j b h2 (by rw [bk_ov hi, if_neg h1]; exact hb)).trans (hk j b h1 hb)
  refine ⟨⟨hW.ar.setOther o3 o4.1 o4.2 i v, hW.low.setCell (p := ⟨ob, i, none⟩) o1 v, hW.own, (hs 18 g (by decide) bk_g).trans hW.bx, hW.gB, hW.gW⟩, hbk.same (by simp), fun j hj => ?_, ((h.obr.of_block (hk 15 ob (by omega) bk_ob)).set i v).congr fun j _ => ?_, h.ubr.of_block (hkk 16 _ (by omega) (by decide) bk_ub), h.kbr.of_block (hkk 17 _ (by omega) (by decide) bk_kb), h.mN, fun j hj m hm => ?_, h.tb⟩
  · by_cases e : j = i
    · subst e
      rw [upV_same, upO_same]
      exact hr.kept fun r hr2 => hs j r (by omega) (by rw [bk_ov hi, if_pos rfl]; exact hr2)
    · rw [upV_other _ _ e, upO_other _ _ e]
      exact (h.rows j hj).kept fun r hr2 => hkk j r e (by omega) (by rw [bk_row hj]; exact hr2)
  · unfold upV
    split <;> rfl
  · obtain ⟨q, x, e, hM⟩ := h.mS j hj m hm
    exact ⟨q, x, e, hM.kept (hkk (j + 5) q (by omega) (by omega) (by rw [bk_q hj, e]; rfl)) (hkk (j + 10) x (by omega) (by omega) (by rw [bk_x hj, e]; rfl))⟩
/-- a row grows by one: ahead of its store -/
theorem Ys.app (ty : TypeId) (h : Ys B W w s g p ob ub kb ov own mc mb cu ck) {i : Nat} (hi : i < 5) {ad : Option Addr} {cap : Nat} {x : Int} (hs : SrcN w ad 1 [x]) (hn : (own i).length ≤ 10000) :
    ∃ v' w', (Builtin.append_ #[22, 22] ty #[ov i, .slice ad 1 cap]).run Tryd.prog w = .ok v' w' ∧ Ys B W (w'.setCell ⟨ob, i, none⟩ v') s g p ob ub kb (upV ov i v') (upO own i (own i ++ [x])) mc mb cu ck ∧ w'.rowIs ob 44 5 ov := by
  obtain ⟨v', w', hr, ho, hb, hsz, e1, e2, e3, hbk⟩ := (h.rows i hi).app ty h.wk.low.size (cap := cap) hs hn
  have hkb : ∀ j b, j ≠ i → bkF g ob ub kb ov mb j = some b → w'.heap[b]? = w.heap[b]? := fun j b hj hbj => hb b (h.bk.lo j b hbj).2.1 fun e => hj (h.bk.inj j i b hbj (by rw [bk_row hi]; exact e))
  have hBk : ∀ k, B.has k → w'.heap[k]? = w.heap[k]? := fun k hk => hb k (h.wk.ar.lt hk) fun e => (h.bk.lo i k (by rw [bk_row hi]; exact e)).2.2 hk
  have hlo : ∀ k, k < W.heap.size → w'.heap[k]? = w.heap[k]? := fun k hk => hb k (Nat.lt_of_lt_of_le hk h.wk.low.size) fun e => by have := ((h.rows i hi).lt k e).1; omega
  have hA : ArAt B w' s := ⟨h.wk.ar.toArMem.same hBk (htab_keep h.wk.ar.tab fun k hk => hlo k (tab_lt h.tb k hk)), h.wk.ar.ok⟩
  have hW : Wk B W w' s g p := ⟨hA, ⟨e1.trans h.wk.low.os, e2.trans h.wk.low.tape, e3.trans h.wk.low.output, Nat.le_trans h.wk.low.size hsz, fun k hk => (hlo k hk).trans (h.wk.low.block k hk)⟩, h.wk.own, (hkb 18 g (by omega) bk_g).trans h.wk.bx, h.wk.gB, h.wk.gW⟩
  refine ⟨v', w', hr, h.row hW hsz hi hkb ho fun r hr2 => ?_, h.obr.of_block (hkb 15 ob (by omega) bk_ob)⟩
  rcases hbk with e | e
  · exact .inl (by rw [← e]; exact hr2)
  · have := e r hr2
    exact .inr ⟨this, fun hh => by have := h.wk.ar.lt hh; omega⟩
theorem list_appY {ops : Array Oper} {rest : List Oper} {o : Oper} {a : Act} {Q : Exit → Act → World → Prop} (hgd : o.guard = none) (x y : Operand)
    (ho : o.op = .call { callee := .builtin .append, args := #[x, y], argTypes := #[22, 22] }) (h : Ys B W w s g p ob ub kb ov own mc mb cu ck) {i : Nat} (hi : i < 5) {ad : Option Addr} {cap : Nat} {z : Int} (hx : a.eval x = ov i) (hy : a.eval y = .slice ad 1 cap) (hs : SrcN w ad 1 [z]) (hn : (own i).length ≤ 10000)
    (hK : ∀ v' w', Ys B W (w'.setCell ⟨ob, i, none⟩ v') s g p ob ub kb (upV ov i v') (upO own i (own i ++ [z])) mc mb cu ck → w'.rowIs ob 44 5 ov → wpList Tryd.prog ops Q rest (a.put o.dst v') w') : wpList Tryd.prog ops Q (o :: rest) a w := by
  refine wpList_plain hgd fun K' hK' => ?_
  obtain ⟨v', w', hr, h2, h3⟩ := h.app o.type hi (cap := cap) hs hn
  unfold Oper.wp execOp
  simp only [ho, resolve, invoke, builtin, Sem.run_bind, Sem.run_pure, Result.andThen_ok, List.map_toArray, List.map_cons, List.map_nil, hx, hy, hr]
  exact hK' _ _ (hK v' w' h2 h3)
/-- a row's first one gone -/
theorem Ys.tail (h : Ys B W w s g p ob ub kb ov own mc mb cu ck) {i : Nat} (hi : i < 5) {x : Int} {ys : List Int} (hx : own i = x :: ys) : ∃ r off cap, ov i = .slice (some ⟨r, off, none⟩) (ys.length + 1) cap ∧ 1 ≤ cap ∧ ys.length + 1 ≤ cap ∧ cap ≤ maxLen ∧ w.cell? ⟨r, off, none⟩ = some (.int .i64 x) ∧
    Ys B W (w.setCell ⟨ob, i, none⟩ (.slice (if cap = 1 then some ⟨r, off, none⟩ else some ⟨r, off + 1, none⟩) ys.length (cap - 1))) s g p ob ub kb (upV ov i (.slice (if cap = 1 then some ⟨r, off, none⟩ else some ⟨r, off + 1, none⟩) ys.length (cap - 1))) (upO own i ys) mc mb cu ck := by
  have hr := h.rows i hi
  rw [hx] at hr
  obtain ⟨r, off, cap, e, c1, c2, c3, hc, ht⟩ := hr.first
  refine ⟨r, off, cap, e, c1, c2, c3, hc, h.row h.wk (Nat.le_refl _) hi (fun _ _ _ _ => rfl) ht fun r' hr' => .inl ?_⟩
  rw [e]
  split at hr' <;> exact hr'
end
end Go.Proofs.YtiedoeifpmfbbaaDoor
namespace Go.Proofs.YtiedoeifpmfbbaaDoor
open Go.RowKit
open H8 (okP sizeF HTab below_then packV packF isH opA opB opC)
open A9 (Ab ArAt ArMem FrA Ar rawA useA ptrA Ok9 okB bornS retireS retireA diedA diedS inS zN bN zN_bd Left9 New9 new9 cntV cntW cntW_le retire_of SrcN storeA store_in inW wr64_id opC_bd upN atW)
open F0 (Pl5 Tn FrS noT noT_new plBox plS plS_of below_next Wk upO upO_same upO_other upV upV_same upV_other headF headF_eq sumN sumN_ge)

structure Mk (k m T : Nat) (s : Ar) (own : Nat → List Int) (mc : Nat → Option Mc) : Prop where
  ex : ∃ hd lk gn cg cl ls, Sl (4 * k) (grs m) k s hd lk gn cg cl ls own mc T
  bad : s.bad = false
  nw : s.nw = m
  hi : ∀ i, k ≤ i → own i = [] ∧ mc i = none
theorem step_nw (K M : Nat) (s : Ar) (m : Mc) : (stepF K M s m).1.nw = s.nw := by
  cases m <;> simp only [stepF] <;> (repeat' split) <;> rfl
section
variable {k m T i : Nat} {s s' : Ar} {own : Nat → List Int} {mc : Nat → Option Mc}
theorem Mk.wide (h : Mk k m T s own mc) {T' : Nat} (hT : T ≤ T') : Mk k m T' s own mc := by
  obtain ⟨hd, lk, gn, cg, cl, ls, hS⟩ := h.ex
  exact ⟨⟨hd, lk, gn, cg, cl, ls, hS.wide hT⟩, h.bad, h.nw, h.hi⟩
theorem Mk.same (h : Mk k m T s own mc) (e1 : s'.raw = s.raw) (e2 : s'.nr = s.nr) (e3 : s'.nw = s.nw) (e4 : s'.st = s.st) (e5 : s'.gen = s.gen) (e6 : s'.cL = s.cL) (e7 : s'.cR = s.cR) (e8 : s'.cC = s.cC) (e9 : s'.was = s.was) (e10 : s'.bad = s.bad) : Mk k m T s' own mc := by
  obtain ⟨hd, lk, gn, cg, cl, ls, hS⟩ := h.ex
  exact ⟨⟨hd, lk, gn, cg, cl, ls, ⟨hS.I.same e1 e2 e3 e4 e5, hS.N.same e6 e7 e8 e9 e3⟩⟩, e10.trans h.bad, e3.trans h.nw, h.hi⟩
theorem Mk.use (h : Mk k m T s own mc) : Mk k m T (useA s) own mc := h.same rfl rfl rfl rfl rfl rfl rfl rfl rfl rfl
theorem Mk.live (h : Mk k m T s own mc) (hi : i < k) {a : Int} (ha : a ∈ own i) : s.st a = 1 := by
  obtain ⟨hd, lk, gn, cg, cl, ls, hS⟩ := h.ex
  exact hS.I.live i hi a ha
theorem Mk.inv (h : Mk k m T s own mc) (hi : i < k) {mm : Mc} (hm : mc i = some mm) : Inv (4 * k) (grs m) s mm T := by
  obtain ⟨hd, lk, gn, cg, cl, ls, hS⟩ := h.ex
  exact ⟨k, hd, lk, gn, cg, cl, ls, own, mc, T, i, hS, hi, hm, Nat.le_refl _⟩
theorem Mk.step (h : Mk k m T s own mc) (hO : Ok9 s) (hT : T ≤ 1000000) (hi : i < k) {mm : Mc} (hm : mc i = some mm) : Mk k m (T + 1) (stepF (4 * k) (grs m) s mm).1 (endO own i (stepF (4 * k) (grs m) s mm).2) (endM mc i (stepF (4 * k) (grs m) s mm).2) := by
  obtain ⟨hd, lk, gn, cg, cl, ls, hS⟩ := h.ex
  obtain ⟨hd', lk', gn', cg', cl', ls', h2⟩ := hS.step hO hT hi hm
  refine ⟨⟨hd', lk', gn', cg', cl', ls', h2⟩, (step_uses _ _ s mm).2.trans h.bad, (step_nw _ _ s mm).trans h.nw, fun j hj => ?_⟩
  obtain ⟨x1, x2⟩ := h.hi j hj
  have hne : j ≠ i := by omega
  cases (stepF (4 * k) (grs m) s mm).2 with
  | go m' => exact ⟨x1, (upO_other _ _ hne).trans x2⟩
  | freed => exact ⟨x1, (upO_other _ _ hne).trans x2⟩
  | refused => exact ⟨x1, (upO_other _ _ hne).trans x2⟩
  | got a => exact ⟨(upO_other _ _ hne).trans x1, (upO_other _ _ hne).trans x2⟩
theorem Mk.got (h : Mk k m T s own mc) (hO : Ok9 s) (hT : T ≤ 1000000) (hi : i < k) {mm : Mc} (hm : mc i = some mm) {a : Int} (ha : (stepF (4 * k) (grs m) s mm).2 = .got a) : a ≠ 0 := by
  obtain ⟨hd, lk, gn, cg, cl, ls, hS⟩ := h.ex
  cases mm with
  | gen c b =>
    obtain ⟨-, ok, hb, -⟩ := hS.gen hO hT hi hm
    unfold stepF at ha
    simp only [hS.I.rw.gns b hb] at ha
    cases ha
    exact nm_ne ok
  | free h i m =>
    unfold stepF at ha
    dsimp only at ha
    split at ha
    · cases ha
    · split at ha
      · cases ha
      · split at ha <;> cases ha
  | pop c i n m =>
    unfold stepF at ha
    dsimp only at ha
    split at ha
    · split at ha <;> cases ha
    · split at ha
      · cases ha
      · split at ha <;> cases ha
  | look c =>
    unfold stepF at ha
    dsimp only at ha
    split at ha <;> cases ha
  | carve c v =>
    unfold stepF at ha
    dsimp only at ha
    split at ha <;> cases ha
theorem Mk.ask (h : Mk k m T s own mc) (hi : i < k) (hm : mc i = none) {c : Nat} (hc : c < 4) : Mk k m T s own (upO mc i (some (.pop c (4 * i + c) (k - 1) ⟨0, 0, 0⟩))) := by
  obtain ⟨hd, lk, gn, cg, cl, ls, hS⟩ := h.ex
  exact ⟨⟨hd, lk, gn, cg, cl, ls, hS.ask hi hm (by omega) (by omega)⟩, h.bad, h.nw, fun j hj => ⟨(h.hi j hj).1, (upO_other _ _ (by omega)).trans (h.hi j hj).2⟩⟩
theorem Mk.retire (h : Mk k m T s own mc) (hT : T ≤ 1000000) (hi : i < k) (hm : mc i = none) {a : Int} {ys : List Int} (ho : own i = a :: ys) : Mk k m T (retireS s a) (upO own i ys) (upO mc i (some (.free a (4 * i + clN a) ⟨grN a, 0, 0⟩))) := by
  obtain ⟨hd, lk, gn, cg, cl, ls, hS⟩ := h.ex
  have hc := clN_lt a
  have h2 := hS.retire hT hi (l1 := []) (l2 := ys) ho hm (i := 4 * i + clN a) (by omega) (by omega)
  exact ⟨⟨hd, lk, gn, cg, cl, ls, h2⟩, h.bad, h.nw, fun j hj => ⟨(upO_other _ _ (by omega)).trans (h.hi j hj).1, (upO_other _ _ (by omega)).trans (h.hi j hj).2⟩⟩
theorem Mk.name (h : Mk k m T s own mc) (hO : Ok9 s) (hi : i < k) {a : Int} (ha : a ∈ own i) : isH a ∧ bN a = 8 * grN a := by
  have h1 := h.live hi ha
  obtain ⟨hd, lk, gn, cg, cl, ls, hS⟩ := h.ex
  exact ⟨(hO.fit a (by rw [h1]; decide)).1, (hS.I.seen a (by rw [h1]; decide)).1.1⟩
/-- what is carved -/
theorem Mk.cv (h : Mk k m T s own mc) : ∃ v : Int, rawA s ((4 * k + grs m + grs m : Nat) : Int) = (useA s, v) ∧ 0 ≤ v ∧ v ≤ m := by
  obtain ⟨hd, lk, gn, cg, cl, ls, hS⟩ := h.ex
  have h1 := hS.I.cap
  rw [h.nw] at h1
  exact ⟨_, rawA_cv hS.I.rw, by omega, by omega⟩
/-- what is counted -/
theorem Mk.count (h : Mk k m T s own mc) (hT : T ≤ 10000) : ∃ c l r : Nat, s.cC = (c : Int) ∧ s.cL = (l : Int) ∧ s.cR = (r : Int) ∧ c ≤ m ∧ l = sumN (fun w => szO (own w)) k ∧ l ≤ 640000 ∧ r ≤ 640000 ∧ l ≤ 64 * T := by
  obtain ⟨hd, lk, gn, cg, cl, ls, hS⟩ := h.ex
  have h1 := cntW_le s.was s.nw
  rw [h.nw] at h1
  have h2 := hS.N.bd
  have h3 := hS.N.cC
  rw [h.nw] at h3
  exact ⟨_, _, _, h3, hS.N.cL, hS.N.cR, h1, rfl, by omega, by omega, by omega⟩
end
/-- what a step leaves -/
def StY (B : Ab) (W : World) (g : Nat) (p : Pl5) (ob ub kb : Nat) (ov : Nat → Value) (own : Nat → List Int) (mc : Nat → Option Mc) (mb : Nat → Option (Nat × Nat)) (cu ck : Nat → Value) (k m T i q : Nat) (fr : Bool) (s : Ar) (e : Ending) (w' : World) : Prop :=
  ∃ s' done, e = .returned (.bool done) ∧ s'.uses = wrap64 (s.uses + 1) ∧
    (done = false → ∃ m' x', isFr m' = fr ∧ Ys B W w' s' g p ob ub kb ov own (upO mc i (some m')) (upO mb i (some (q, x'))) cu ck ∧ Mk k m (T + 1) s' own (upO mc i (some m'))) ∧
    (done = true → Ys B W w' s' g p ob ub kb ov own (upO mc i none) (upO mb i none) cu ck ∧
      ((fr = true ∧ Mk k m (T + 1) s' own (upO mc i none)) ∨ (fr = false ∧ AlEnd q w' p 0 ∧ Mk k m (T + 1) s' own (upO mc i none)) ∨ ∃ h, fr = false ∧ h ≠ 0 ∧ AlEnd q w' p h ∧ Mk k m (T + 1) s' (upO own i (own i ++ [h])) (upO mc i none)))
section
variable {B : Ab} {W w w' : World} {s s' : Ar} {g : Nat} {ob ub kb : Nat} {ov : Nat → Value} {own : Nat → List Int} {mc : Nat → Option Mc} {mb : Nat → Option (Nat × Nat)} {cu ck : Nat → Value} {k m T i q x : Nat}
theorem Ys.stepA (h : Ys B W w s g (plK k m) ob ub kb ov own mc mb cu ck) (hP : Mk k m T s own mc) (hk1 : 1 ≤ k) (hk5 : k ≤ 5) (hT : T ≤ 10000) (hi : i < k) {mm : Mc} (hm : mc i = some mm) (hmb : mb i = some (q, x)) (hf : isFr mm = false) :
    Calls Tryd.prog 61 #[.pointer (some ⟨q, 0, none⟩), ptrA B] w (StY B W g (plK k m) ob ub kb ov own mc mb cu ck k m T i q false s) := by
  obtain ⟨q', x', e, hM⟩ := h.mS i (by omega) mm hm
  rw [hmb] at e
  cases e
  have hp := plK_ok (a := k) (m := m) hk1 (by omega)
  rcases hM with ⟨h0, -⟩ | ⟨-, a, t, h1, h2, rfl⟩
  · rw [h0] at hf; cases hf
  refine (alStep h.wk.ar h1 h2 hp (hP.inv hi hm) (by omega)).mono fun e w' hh => ?_
  obtain ⟨a', t', ⟨e1, e2, e3, e4, e5⟩, e6⟩ := hh
  have hstep := hP.step h.wk.ar.ok (by omega) hi hm
  have hgot := fun a ha => hP.got h.wk.ar.ok (by omega) hi hm (a := a) ha
  have hu := (step_uses (4 * k) (grs m) s mm).1
  have hx' : a'.x = a.x ∨ (w.heap.size ≤ a'.x ∧ a'.x < w'.heap.size ∧ ¬ B.has a'.x) := e5.imp_right fun h => ⟨h, e3.po.lt, e3.xB⟩
  have hend : ∀ o, (stepF (4 * k) (grs m) s mm).2 = o → endB o = true → Ys B W w' (stepF (4 * k) (grs m) s mm).1 g (plK k m) ob ub kb ov own (upO mc i none) (upO mb i none) cu ck := fun o _ _ => h.turn (by omega) hmb e2 e4 (fun _ => rfl) (fun m hm => by cases hm)
  generalize stepF (4 * k) (grs m) s mm = R at *
  obtain ⟨s', o⟩ := R
  simp only at e1 e2 e6 hstep hgot hu hend
  cases o with
  | go m' =>
    have hf' : isFr m' = false := by
      cases m' with
      | free h i m => exact e6.elim
      | _ => rfl
    exact ⟨s', false, e1, hu, fun _ => ⟨m', a'.x, hf', h.turn (by omega) hmb e2 e4 (fun hh => by cases hh) (fun m hm => by cases hm; exact ⟨a'.x, rfl, hx', .inr ⟨hf', a', t', e3, e6, rfl⟩⟩), hstep⟩, fun hh => by cases hh⟩
  | freed => exact e6.elim
  | refused => exact ⟨s', true, e1, hu, (fun hh => by cases hh), fun _ => ⟨hend _ rfl rfl, .inr (.inl ⟨rfl, ⟨a', e3.al, e6.2⟩, hstep⟩)⟩⟩
  | got a => exact ⟨s', true, e1, hu, (fun hh => by cases hh), fun _ => ⟨hend _ rfl rfl, .inr (.inr ⟨a, rfl, hgot a rfl, ⟨a', e3.al, e6.2⟩, hstep⟩)⟩⟩
theorem Ys.stepF (h : Ys B W w s g (plK k m) ob ub kb ov own mc mb cu ck) (hP : Mk k m T s own mc) (hk1 : 1 ≤ k) (hk5 : k ≤ 5) (hT : T ≤ 10000) (hi : i < k) {mm : Mc} (hm : mc i = some mm) (hmb : mb i = some (q, x)) (hf : isFr mm = true) :
    Calls Tryd.prog 54 #[.pointer (some ⟨q, 0, none⟩), ptrA B] w (StY B W g (plK k m) ob ub kb ov own mc mb cu ck k m T i q true s) := by
  obtain ⟨q', x', e, hM⟩ := h.mS i (by omega) mm hm
  rw [hmb] at e
  cases e
  have hp := plK_ok (a := k) (m := m) hk1 (by omega)
  rcases hM with ⟨-, f, b, t, h1, h2, rfl⟩ | ⟨h0, -⟩
  · refine (feStep h.wk.ar h1 h2 hp (hP.inv hi hm)).mono fun e w' hh => ?_
    obtain ⟨f', t', ⟨e1, e2, e3, e4⟩, e5, e6⟩ := hh
    rw [e5] at e4
    have hstep := hP.step h.wk.ar.ok (by omega) hi hm
    have hu := (step_uses (4 * k) (grs m) s mm).1
    have hend : ∀ o, (Go.Proofs.YtiedoeifpmfbbaaDoor.stepF (4 * k) (grs m) s mm).2 = o → endB o = true → Ys B W w' (Go.Proofs.YtiedoeifpmfbbaaDoor.stepF (4 * k) (grs m) s mm).1 g (plK k m) ob ub kb ov own (upO mc i none) (upO mb i none) cu ck := fun o _ _ => h.turn (by omega) hmb e2 e4 (fun _ => rfl) (fun m hm => by cases hm)
    generalize Go.Proofs.YtiedoeifpmfbbaaDoor.stepF (4 * k) (grs m) s mm = R at *
    obtain ⟨s', o⟩ := R
    simp only at e1 e2 e6 hstep hu hend
    cases o with
    | go m' =>
      have hf' : isFr m' = true := by
        cases m' with
        | free h i m => rfl
        | _ => exact e6.elim
      exact ⟨s', false, e1, hu, fun _ => ⟨m', f.y, hf', h.turn (by omega) hmb e2 e4 (fun hh => by cases hh) (fun m hm => by cases hm; exact ⟨f.y, rfl, .inl rfl, .inl ⟨hf', f', b, t', e3, e6, e5⟩⟩), hstep⟩, fun hh => by cases hh⟩
    | freed => exact ⟨s', true, e1, hu, (fun hh => by cases hh), fun _ => ⟨hend _ rfl rfl, .inl ⟨rfl, hstep⟩⟩⟩
    | refused => exact e6.elim
    | got a => exact e6.elim
  · rw [h0] at hf; cases hf
/-- one is asked for -/
theorem Ys.newA (h : Ys B W w s g (plK k m) ob ub kb ov own mc mb cu ck) (hk1 : 1 ≤ k) (hk5 : k ≤ 5) (hi : i < k) (hm : mc i = none) {c : Nat} (hc : c < 4) :
    Calls Tryd.prog 15 #[(plK k m).v, .int .i64 (i : Int), .int .i64 (c : Int)] w fun e w' => ∃ q x, e = .returned (.pointer (some ⟨q, 0, none⟩)) ∧ Ys B W w' s g (plK k m) ob ub kb ov own (upO mc i (some (.pop c (4 * i + c) (k - 1) ⟨0, 0, 0⟩))) (upO mb i (some (q, x))) cu ck := by
  have hp := plK_ok (a := k) (m := m) hk1 (by omega)
  refine (newAlW h.wk (by rw [plK_wk]; omega) (by rw [plK_wk]; omega) (sizeF_pos hc)).mono fun e w' hh => ?_
  obtain ⟨q, e1, hN⟩ := hh
  obtain ⟨x, hM, hx⟩ := hN.ex
  have hal : AlR (.pop c (4 * i + c) (k - 1) ⟨0, 0, 0⟩) ⟨x, i, c, (plK k m).wk - 1, 0, 0, 0⟩ ⟨headF (plK k m) i c, 0, 0, 0⟩ := by
    refine ⟨rfl, rfl, rfl, ?_, ?_, ⟨?_, rfl, fun h => by simp at h, fun h => by simp at h⟩, by omega⟩
    · show (plK k m).wk - 1 = ((k - 1 : Nat) : Int)
      rw [plK_wk]; omega
    · show (i : Int) = (((4 * i + c) / 4 : Nat) : Int)
      omega
    · show headF (plK k m) i c = ((4 * i + c : Nat) : Int)
      rw [headF_eq hp.k (by omega) (by omega) (by omega) (by omega)]
      omega
  exact ⟨q, x, e1, h.fresh (by omega) (h.mN i (by omega) hm) hN.bel hN.q0 hx (.inr ⟨rfl, _, _, hM, hal, rfl⟩)⟩
/-- one goes back -/
theorem Ys.newF {a : Int} (h : Ys B W w s g (plK k m) ob ub kb ov own mc mb cu ck) (hk1 : 1 ≤ k) (hk5 : k ≤ 5) (hi : i < k) (hm : mc i = none) (hh : isH a) (hb : bN a = 8 * grN a) :
    Calls Tryd.prog 12 #[(plK k m).v, .int .i64 (i : Int), .int .i64 a] w fun e w' => ∃ q x, e = .returned (.pointer (some ⟨q, 0, none⟩)) ∧ Ys B W w' s g (plK k m) ob ub kb ov own (upO mc i (some (.free a (4 * i + clN a) ⟨grN a, 0, 0⟩))) (upO mb i (some (q, x))) cu ck := by
  have hp := plK_ok (a := k) (m := m) hk1 (by omega)
  have hc4 := clN_lt a
  refine (newFeW (k := (i : Int)) h.wk hh hb).mono fun e w' hh => ?_
  obtain ⟨q, e1, hN⟩ := hh
  obtain ⟨y, hM, hy⟩ := hN.ex
  have hcl : opC a = (clN a : Int) := by have := opC_bd a; unfold clN; omega
  have hfe : FeR (.free a (4 * i + clN a) ⟨grN a, 0, 0⟩) ⟨y, a, false⟩ ((grN a : Int) + 1) ⟨headF (plK k m) i (opC a), 0, 0, 0⟩ := by
    refine ⟨rfl, rfl, rfl, ?_, rfl, fun h => by simp at h, fun h => by simp at h⟩
    show headF (plK k m) i (opC a) = ((4 * i + clN a : Nat) : Int)
    rw [hcl, headF_eq hp.k (by omega) (by omega) (by omega) (by omega)]
    omega
  exact ⟨q, y, e1, h.fresh (by omega) (h.mN i (by omega) hm) hN.bel hN.q0 hy (.inl ⟨rfl, _, _, _, hM, hfe, rfl⟩)⟩
end
end Go.Proofs.YtiedoeifpmfbbaaDoor
namespace Go.Proofs.YtiedoeifpmfbbaaDoor
open Go.RowKit
open H8 (okP sizeF HTab below_then packV packF isH opA opB opC)
open A9 (Ab ArAt ArMem FrA Ar rawA useA ptrA Ok9 row_new)
open F0 (Pl5 Tn FrS noT noT_new plBox plS plS_of below_next Wk upO upO_same upO_other upV upV_same upV_other)

def cuF (mc : Nat → Option Mc) (mb : Nat → Option (Nat × Nat)) (i : Nat) : Value := match mb i with
  | none => .nilIface
  | some (q, _) => match mc i with
    | none => .nilIface
    | some m => if isFr m = true then ifFe q else ifAl q
def ckF (mc : Nat → Option Mc) (mb : Nat → Option (Nat × Nat)) (i : Nat) : Value := match mb i with
  | none => .pointer none
  | some (q, _) => match mc i with
    | none => .pointer none
    | some m => if isFr m = true then .pointer none else .pointer (some ⟨q, 0, none⟩)
section
variable {B : Ab} {W w w' : World} {s s' : Ar} {g : Nat} {p : Pl5} {ob ub kb : Nat} {ov : Nat → Value} {own : Nat → List Int} {mc : Nat → Option Mc} {mb : Nat → Option (Nat × Nat)} {cu ck : Nat → Value} {i q x : Nat} {mm : Mc}
theorem cu_none (h : mb i = none) : cuF mc mb i = .nilIface := by unfold cuF; rw [h]
theorem ck_none (h : mb i = none) : ckF mc mb i = .pointer none := by unfold ckF; rw [h]
theorem cu_fr (h : mb i = some (q, x)) (hm : mc i = some mm) (hf : isFr mm = true) : cuF mc mb i = ifFe q := by unfold cuF; rw [h]; simp only [hm]; exact if_pos hf
theorem cu_al (h : mb i = some (q, x)) (hm : mc i = some mm) (hf : isFr mm = false) : cuF mc mb i = ifAl q := by unfold cuF; rw [h]; simp only [hm]; exact if_neg (by rw [hf]; decide)
theorem ck_fr (h : mb i = some (q, x)) (hm : mc i = some mm) (hf : isFr mm = true) : ckF mc mb i = .pointer none := by unfold ckF; rw [h]; simp only [hm]; exact if_pos hf
theorem ck_al (h : mb i = some (q, x)) (hm : mc i = some mm) (hf : isFr mm = false) : ckF mc mb i = .pointer (some ⟨q, 0, none⟩) := by unfold ckF; rw [h]; simp only [hm]; exact if_neg (by rw [hf]; decide)
theorem cu_up (v : Option Mc) (b : Option (Nat × Nat)) (j : Nat) (hj : j ≠ i) : cuF (upO mc i v) (upO mb i b) j = cuF mc mb j := by unfold cuF; rw [upO_other _ _ hj, upO_other _ _ hj]
theorem ck_up (v : Option Mc) (b : Option (Nat × Nat)) (j : Nat) (hj : j ≠ i) : ckF (upO mc i v) (upO mb i b) j = ckF mc mb j := by unfold ckF; rw [upO_other _ _ hj, upO_other _ _ hj]
theorem Ys.re (h : Ys B W w s g p ob ub kb ov own mc mb cu ck) {cu' ck' : Nat → Value} (hu : ∀ j, j < 5 → cu j = cu' j) (hk : ∀ j, j < 5 → ck j = ck' j) : Ys B W w s g p ob ub kb ov own mc mb cu' ck' :=
  ⟨h.wk, h.bk, h.rows, h.obr, h.ubr.congr hu, h.kbr.congr hk, h.mN, h.mS, h.tb⟩
/-- a machine goes on: the arrays' cells stay right -/
theorem Ys.reGo (h : Ys B W w s g p ob ub kb ov own (upO mc i (some mm)) (upO mb i (some (q, x))) (cuF mc mb) (ckF mc mb)) {m0 : Mc} {x0 : Nat} (hm : mc i = some m0) (hb : mb i = some (q, x0)) (hf : isFr mm = isFr m0) :
    Ys B W w s g p ob ub kb ov own (upO mc i (some mm)) (upO mb i (some (q, x))) (cuF (upO mc i (some mm)) (upO mb i (some (q, x)))) (ckF (upO mc i (some mm)) (upO mb i (some (q, x)))) := by
  refine h.re (fun j _ => ?_) fun j _ => ?_
  · by_cases e : j = i
    · subst e
      cases hfr : isFr m0 with
      | true => rw [cu_fr hb hm hfr, cu_fr (upO_same _ _ _) (upO_same _ _ _) (hf.trans hfr)]
      | false => rw [cu_al hb hm hfr, cu_al (upO_same _ _ _) (upO_same _ _ _) (hf.trans hfr)]
    · exact (cu_up _ _ j e).symm
  · by_cases e : j = i
    · subst e
      cases hfr : isFr m0 with
      | true => rw [ck_fr hb hm hfr, ck_fr (upO_same _ _ _) (upO_same _ _ _) (hf.trans hfr)]
      | false => rw [ck_al hb hm hfr, ck_al (upO_same _ _ _) (upO_same _ _ _) (hf.trans hfr)]
    · exact (ck_up _ _ j e).symm
/-- both cells turned -/
theorem Ys.set2 {v : Option Mc} {b : Option (Nat × Nat)} (h : Ys B W w s g p ob ub kb ov own (upO mc i v) (upO mb i b) (cuF mc mb) (ckF mc mb)) {x y : Value} (hx : x = cuF (upO mc i v) (upO mb i b) i) (hy : y = ckF (upO mc i v) (upO mb i b) i) :
    Ys B W ((w.setCell ⟨ub, i, none⟩ x).setCell ⟨kb, i, none⟩ y) s g p ob ub kb ov own (upO mc i v) (upO mb i b) (cuF (upO mc i v) (upO mb i b)) (ckF (upO mc i v) (upO mb i b)) := by
  refine ((h.setU i x).setK i y).re (fun j _ => ?_) fun j _ => ?_
  · by_cases e : j = i
    · subst e
      rw [upV_same, hx]
    · rw [upV_other _ _ e, cu_up _ _ j e]
  · by_cases e : j = i
    · subst e
      rw [upV_same, hy]
    · rw [upV_other _ _ e, ck_up _ _ j e]
/-- one cell turned, the other right as it is -/
theorem Ys.set1 {v : Option Mc} {b : Option (Nat × Nat)} (h : Ys B W w s g p ob ub kb ov own (upO mc i v) (upO mb i b) (cuF mc mb) (ckF mc mb)) {x : Value} (hx : x = cuF (upO mc i v) (upO mb i b) i) (hy : ckF mc mb i = ckF (upO mc i v) (upO mb i b) i) :
    Ys B W (w.setCell ⟨ub, i, none⟩ x) s g p ob ub kb ov own (upO mc i v) (upO mb i b) (cuF (upO mc i v) (upO mb i b)) (ckF (upO mc i v) (upO mb i b)) := by
  refine (h.setU i x).re (fun j _ => ?_) fun j _ => ?_
  · by_cases e : j = i
    · subst e
      rw [upV_same, hx]
    · rw [upV_other _ _ e, cu_up _ _ j e]
  · by_cases e : j = i
    · subst e
      exact hy
    · exact (ck_up _ _ j e).symm
end
theorem bk_init {g ob ub kb i b : Nat} (h : bkF g ob ub kb (fun _ => .slice none 0 0) (fun _ => none) i = some b) : (i = 15 ∧ b = ob) ∨ (i = 16 ∧ b = ub) ∨ (i = 17 ∧ b = kb) ∨ (i = 18 ∧ b = g) := by
  unfold bkF at h
  split at h
  · simp [Value.ownBlock] at h
  · split at h
    · simp at h
    · split at h
      · simp at h
      · split at h
        · exact .inl ⟨by assumption, (Option.some.inj h).symm⟩
        · split at h
          · exact .inr (.inl ⟨by assumption, (Option.some.inj h).symm⟩)
          · split at h
            · exact .inr (.inr (.inl ⟨by assumption, (Option.some.inj h).symm⟩))
            · split at h
              · exact .inr (.inr (.inr ⟨by assumption, (Option.some.inj h).symm⟩))
              · cases h
theorem Ys.init {B : Ab} {W w2 : World} {s : Ar} {g : Nat} {p : Pl5} (h : Wk B W w2 s g p) (hT : HTab W) :
    Ys B W (((w2.alloc (.cells (Array.replicate 5 (.slice none 0 0)) 44 (0, 0))).alloc (.cells (Array.replicate 5 .nilIface) 47 (0, 0))).alloc (.cells (Array.replicate 5 (.pointer none)) 48 (0, 0))) s g p w2.heap.size (w2.heap.size + 1) (w2.heap.size + 2) (fun _ => .slice none 0 0) (fun _ => []) (fun _ => none) (fun _ => none) (cuF (fun _ => none) (fun _ => none)) (ckF (fun _ => none) (fun _ => none)) := by
  have hr1 := row_new w2 (.slice none 0 0) 5 44 _ rfl
  generalize ho1 : Obj.cells (Array.replicate 5 (Value.slice none 0 0)) 44 (0, 0) = o1 at *
  have hz1 : (w2.alloc o1).heap.size = w2.heap.size + 1 := by simp
  have hr2 := row_new (w2.alloc o1) .nilIface 5 47 _ rfl
  generalize ho2 : Obj.cells (Array.replicate 5 Value.nilIface) 47 (0, 0) = o2 at *
  have hz2 : ((w2.alloc o1).alloc o2).heap.size = w2.heap.size + 2 := by simp
  have hr3 := row_new ((w2.alloc o1).alloc o2) (.pointer none) 5 48 _ rfl
  generalize ho3 : Obj.cells (Array.replicate 5 (Value.pointer none)) 48 (0, 0) = o3 at *
  have hz3 : (((w2.alloc o1).alloc o2).alloc o3).heap.size = w2.heap.size + 3 := by simp
  rw [hz1] at hr2
  rw [hz2] at hr3
  have hl1 : Below w2.heap.size w2 (w2.alloc o1) := (Below.refl _ _).alloc (Nat.le_refl _) _
  have hl2 : Below w2.heap.size w2 ((w2.alloc o1).alloc o2) := hl1.alloc hl1.size _
  have hl3 : Below w2.heap.size w2 (((w2.alloc o1).alloc o2).alloc o3) := hl2.alloc hl2.size _
  have hlow := h.low.size
  have hg := h.glt
  have hgW := h.gW
  have hgB := h.gB
  have hBl := fun k (hk : B.has k) => h.ar.lt hk
  have e1 : ((w2.alloc o1).alloc o2).heap[w2.heap.size]? = (w2.alloc o1).heap[w2.heap.size]? := Below.heap_alloc _ _ _ (by rw [hz1]; omega)
  have e2 : (((w2.alloc o1).alloc o2).alloc o3).heap[w2.heap.size]? = ((w2.alloc o1).alloc o2).heap[w2.heap.size]? := Below.heap_alloc _ _ _ (by rw [hz2]; omega)
  have e3 : (((w2.alloc o1).alloc o2).alloc o3).heap[w2.heap.size + 1]? = ((w2.alloc o1).alloc o2).heap[w2.heap.size + 1]? := Below.heap_alloc _ _ _ (by rw [hz2]; omega)
  refine ⟨h.below hl3, ⟨fun i j b hi hj => ?_, fun i b hi => ?_⟩, fun _ _ => RowO.nil _ _, (hr1.of_block e1).of_block e2, (hr2.of_block e3).congr fun j _ => (cu_none rfl).symm, hr3.congr fun j _ => (ck_none rfl).symm, fun _ _ _ => rfl, fun _ _ m hm => (by cases hm), hT⟩
  · rcases bk_init hi with ⟨a, c⟩ | ⟨a, c⟩ | ⟨a, c⟩ | ⟨a, c⟩ <;> rcases bk_init hj with ⟨d, f⟩ | ⟨d, f⟩ | ⟨d, f⟩ | ⟨d, f⟩ <;> omega
  · rw [hz3]
    rcases bk_init hi with ⟨-, rfl⟩ | ⟨-, rfl⟩ | ⟨-, rfl⟩ | ⟨-, rfl⟩
    · exact ⟨by omega, by omega, fun hh => by have := hBl _ hh; omega⟩
    · exact ⟨by omega, by omega, fun hh => by have := hBl _ hh; omega⟩
    · exact ⟨by omega, by omega, fun hh => by have := hBl _ hh; omega⟩
    · exact ⟨by omega, by omega, hgB⟩
/-- all that holds at a round's head -/
def YsR (B : Ab) (W : World) (g ob ub kb k m i : Nat) (w : World) : Prop := ∃ s ov own mc mb, Ys B W w s g (plK k m) ob ub kb ov own mc mb (cuF mc mb) (ckF mc mb) ∧ Mk k m i s own mc ∧ 0 ≤ s.uses ∧ s.uses ≤ 3 * i ∧ ∀ j, j < 5 → (own j).length ≤ i
/-- .. behind one actor's turn -/
def YsU (B : Ab) (W : World) (g ob ub kb k m i : Nat) (u : Int) (w : World) : Prop := ∃ s ov own mc mb, Ys B W w s g (plK k m) ob ub kb ov own mc mb (cuF mc mb) (ckF mc mb) ∧ Mk k m (i + 1) s own mc ∧ 0 ≤ s.uses ∧ s.uses ≤ u + 2 ∧ ∀ j, j < 5 → (own j).length ≤ i + 1
end Go.Proofs.YtiedoeifpmfbbaaDoor
namespace Go.Proofs.YtiedoeifpmfbbaaDoor
open Go.RowKit
open H8 (okP sizeF HTab below_then packV packF isH opA opB opC placeI placeI_bd place_any)
open A9 (Ab ArAt ArMem FrA Ar rawA useA ptrA Ok9 okB bornS retireS retireA diedA diedS inS zN bN zN_bd Left9 New9 new9 NAt cntV cntW cntW_le retire_of SrcN storeA store_in inW wr64_id opC_bd upN atW src_one)
open F0 (Pl5 Tn FrS noT noT_new plBox plS plS_of below_next Wk tab_new upO upO_same upO_other upV upV_same upV_other sumN)

theorem Mk.begin {k m : Nat} (h2 : k ≤ 100) (h3 : m ≤ 4000) : Mk k m 0 (new9 ((4 * k + grs m + grs m + 1 : Nat) : Int) (m : Int) false) (fun _ => []) (fun _ => none) := by
  have hg : grs m ≤ 501 := by unfold grs; omega
  have hr : (new9 ((4 * k + grs m + grs m + 1 : Nat) : Int) (m : Int) false).nr = 4 * k + grs m + grs m + 1 := by
    rw [new9_nr]
    exact cut_id (by omega)
  have hn : (new9 ((4 * k + grs m + grs m + 1 : Nat) : Int) (m : Int) false).nw = m := by
    rw [new9_nw]
    exact cut_id (by omega)
  exact ⟨⟨_, _, _, _, _, _, SxI.new _ _ (by rw [hr]; omega) (by omega) (by rw [hn]; unfold grs; omega) (by omega) (by omega), SxC.new _ _⟩, rfl, hn, fun _ _ => ⟨rfl, rfl⟩⟩
theorem RowO.at {w : World} {base : Nat} {v : Value} {xs : List Int} (h : RowO w base v xs) {t : Nat} {x : Int} (hx : xs[t]? = some x) : ∃ r off cap, v = .slice (some ⟨r, off, none⟩) xs.length cap ∧ xs.length ≤ cap ∧ cap ≤ maxLen ∧ w.cell? ⟨r, off + t, none⟩ = some (.int .i64 x) := by
  rcases h with ⟨-, rfl⟩ | ⟨r, off, cap, cur, rfl, h1, h2, h3, h4, h5, h6⟩
  · simp at hx
  · refine ⟨r, off, cap, rfl, h3, h4, ?_⟩
    rw [cell_of_row w r (off + t) _ _ _ h2]
    have := h6 t x hx
    simpa using this
theorem szO_take {xs : List Int} {t : Nat} {x : Int} (h : xs[t]? = some x) : szO (xs.take (t + 1)) = szO (xs.take t) + zN x := by
  rw [List.take_add_one, h, szO_app]
  simp [szO]
theorem fldL2 (a b c d : Int) (w : World) : (Instr.field 53 (.agg #[.int .i64 a, .int .i64 b, .int .i64 c, .int .i64 d]) 1).run Tryd.prog w = .ok (.int .i64 b) w := by kernel_rfl
/-- what Count's numbers are told to be -/
theorem tot_facts {c l r m : Nat} (h1 : c ≤ m) (h2 : l ≤ 640000) (h3 : r ≤ 640000) (h4 : m ≤ 240) : ∃ f : Int, wrap64 (wrap64 ((c : Int) - (l : Int)) - (r : Int)) = f ∧ (wrap64 ((l : Int) + (r : Int) + f) != (c : Int)) = false ∧ ¬ m < c ∧ decide (m < c) = false ∧ ¬ (m : Int) < (c : Int) ∧ decide ((m : Int) < (c : Int)) = false := by
  have hcm : ¬ (m : Int) < (c : Int) := by omega
  have hcn : ¬ m < c := by omega
  refine ⟨(c : Int) - (l : Int) - (r : Int), ?_, ?_, hcn, decide_eq_false hcn, hcm, decide_eq_false hcm⟩
  · rw [A9.wr64_id (x := (c : Int) - (l : Int)) (by omega) (by omega), A9.wr64_id (by omega) (by omega)]
  · rw [show (l : Int) + (r : Int) + ((c : Int) - (l : Int) - (r : Int)) = (c : Int) by omega, A9.wr64_id (by omega) (by omega)]
    exact bne_self_eq_false _
set_option maxHeartbeats 16000000 in
set_option maxRecDepth 8000 in
theorem mixes_walk (a0 a1 : Int) (ad : Option Addr) (len cap : Nat) (hl : len ≤ 9223372036854775807) (w : World) (hN : NAt w ad len) (hT : HTab w) : Calls Tryd.prog 4 #[.int .i64 a0, .int .i64 a1, .slice ad len cap] w fun e w' => e = .returned (.bool true) ∧ Below w.heap.size w w' := by
  have P0 := fun wx => place_any a0 5 wx (by omega) (by omega)
  have P1 := fun wx => place_any a1 30 wx (by omega) (by omega)
  have Pv := fun z wx => place_any z 1048576 wx (by omega) (by omega)
  obtain ⟨y, hy, hy4⟩ : ∃ y : Nat, placeI a0 5 = y ∧ y < 5 := ⟨(placeI a0 5).toNat, by have := placeI_bd a0 5 (by omega); omega, by have := placeI_bd a0 5 (by omega); omega⟩
  obtain ⟨mw, hmw, hmw4⟩ : ∃ t : Nat, placeI a1 30 = t ∧ t < 30 := ⟨(placeI a1 30).toNat, by have := placeI_bd a1 30 (by omega); omega, by have := placeI_bd a1 30 (by omega); omega⟩
  obtain ⟨k, hk⟩ : ∃ n, n = 1 + y := ⟨_, rfl⟩
  obtain ⟨m, hm⟩ : ∃ m, m = 8 * mw := ⟨_, rfl⟩
  have hnI : (1 : Int) + (y : Int) = (k : Int) := by omega
  have hmI : (8 : Int) * (mw : Int) = (m : Int) := by omega
  have hnW : wrap64 (k : Int) = (k : Int) := A9.wr64_id (by omega) (by omega)
  have hmW : wrap64 (m : Int) = (m : Int) := A9.wr64_id (by omega) (by omega)
  rw [hy] at P0
  rw [hmw] at P1
  have HN : Hid (1 ≤ k ∧ k ≤ 5 ∧ m ≤ 240) := ⟨by omega, by omega, by omega⟩
  clear hy hmw
  have kR := fun wx => Raw_k (a := k) (m := m) (by omega) (by omega) (by omega) wx
  have kN := fun wx (hx : HTab wx) => A9.New_any ((4 * k + grs m + grs m + 1 : Nat) : Int) (m : Int) false wx hx
  have hB0 : Hid (Mk k m 0 (new9 ((4 * k + grs m + grs m + 1 : Nat) : Int) (m : Int) false) (fun _ => []) (fun _ => none) ∧ (new9 ((4 * k + grs m + grs m + 1 : Nat) : Int) (m : Int) false).uses = 0) := ⟨Mk.begin (by omega) (by omega), rfl⟩
  have ka := fun wx (hx : HTab wx) => awake_any wx hx
  have HT : Hid (HTab w) := hT
  generalize new9 ((4 * k + grs m + grs m + 1 : Nat) : Int) (m : Int) false = s0 at *
  generalize ((4 * k + grs m + grs m + 1 : Nat) : Int) = n0 at *
  clear hT hk hm hy4 hmw4
  unfold Pl5.v at kR
  go_enter Tryd.func4, Tryd.ntmps4
  go_wp2_with fail
  refine (P0 _).mono ?_
  rintro e w ⟨rfl, rfl⟩
  go_wp2_with fail
  refine (P1 _).mono ?_
  rintro e w ⟨rfl, rfl⟩
  go_wp2_with fail
  refine (kR _).mono ?_
  rintro e w1 ⟨rfl, hb1⟩
  go_wp2_with fail
  refine (kN _ (tab_new HT.out hb1)).mono ?_
  rintro e w2 ⟨B, rfl, hA2, hb2, hlB⟩
  have hW2 : Wk B w w2 s0 w1.heap.size (plK k m) := Wk.begin hb1 hA2 hb2 hlB
  clear hA2 hb2 hlB hb1 kR kN P0 P1
  generalize w1.heap.size = g at *
  have HI : Hid (Ys B w (((w2.alloc (.cells (Array.replicate 5 (.slice none 0 0)) 44 (0, 0))).alloc (.cells (Array.replicate 5 .nilIface) 47 (0, 0))).alloc (.cells (Array.replicate 5 (.pointer none)) 48 (0, 0))) s0 g (plK k m) w2.heap.size (w2.heap.size + 1) (w2.heap.size + 2) (fun _ => .slice none 0 0) (fun _ => []) (fun _ => none) (fun _ => none) (cuF (fun _ => none) (fun _ => none)) (ckF (fun _ => none) (fun _ => none))) := Ys.init hW2 HT.out
  clear hW2
  go_wp2_with fail
  obtain ⟨ob, hob⟩ : ∃ n, Hid (n = w2.heap.size) := ⟨_, rfl⟩
  rw [← (hob.out : ob = w2.heap.size)]
  have HR0 : Hid (YsR B w g ob (ob + 1) (ob + 2) k m 0 (((w2.alloc (.cells (Array.replicate 5 (.slice none 0 0)) 44 (0, 0))).alloc (.cells (Array.replicate 5 .nilIface) 47 (0, 0))).alloc (.cells (Array.replicate 5 (.pointer none)) 48 (0, 0)))) := by
    have := HI.out
    rw [← (hob.out : ob = w2.heap.size)] at this
    exact ⟨s0, _, _, _, _, this, hB0.out.1, by rw [hB0.out.2]; omega, by rw [hB0.out.2]; omega, fun _ _ => Nat.le_refl _⟩
  clear HI hB0
  generalize ob + 2 = kb at *
  generalize ob + 1 = ub at *
  go_loopw [15] (fun iv wr => ∃ i : Nat, i ≤ 500 ∧ i ≤ len ∧ iv = .int .i64 i ∧ YsR B w g ob ub kb k m i wr) (fun iv _ => 500 - (intOf iv).toNat)
  case atStart => exact ⟨0, by omega, by omega, rfl, HR0.out⟩
  case round =>
    obtain ⟨i, hi5, hil, rfl, s, ov, own, mc, mb, hY, hP, hu0, huT, hlen⟩ := hrel
    clear HR0 hob
    obtain ⟨wq, rfl⟩ : ∃ W, W = wr := ⟨wr, rfl⟩
    by_cases hlt : i < len ∧ i < 500
    · obtain ⟨hlt, hlt5⟩ := hlt
      obtain ⟨b, o, z, rfl, hcz⟩ := hN.low hY.wk.low i hlt
      have HN0 : Hid (NAt w (some ⟨b, o, none⟩) len) := hN
      have hli : (i : Int) < (len : Int) := by omega
      have hli6 : (i : Int) < 500 := by omega
      obtain ⟨v1, v2⟩ := placeI_bd z 1048576 (by omega)
      have Pz := fun wx => Pv z wx
      generalize placeI z 1048576 = v at *
      have hnb := HN.out
      have hk0 : ¬ (k : Int) = 0 := by omega
      have hk0b : ((k : Int) == 0) = false := by simp; omega
      obtain ⟨a, ha, hak⟩ : ∃ a : Nat, v % (k : Int) = (a : Int) ∧ a < k := ⟨(v % (k : Int)).toNat, by have := Int.emod_nonneg v hk0; omega, by have := Int.emod_nonneg v hk0; have := Int.emod_lt_of_pos v (show (0 : Int) < (k : Int) by omega); omega⟩
      have ku := A9.Uses_any hY.wk.ar
      have HY : Hid (Ys B w wq s g (plK k m) ob ub kb ov own mc mb (cuF mc mb) (ckF mc mb) ∧ Mk k m i s own mc ∧ 0 ≤ s.uses ∧ s.uses ≤ 3 * i ∧ (∀ j, j < 5 → (own j).length ≤ i)) := ⟨hY, hP, hu0, huT, hlen⟩
      clear hN hY hP hu0 huT hlen
      have hw2 : wrap64 (s.uses + 2) = s.uses + 2 := A9.wr64_id (by have := HY.out; omega) (by have := HY.out; omega)
      have hw1 : wrap64 (s.uses + 1) = s.uses + 1 := A9.wr64_id (by have := HY.out; omega) (by have := HY.out; omega)
      go_upto_block 2 with (first | (go_at_call 7; refine (Pz _).mono ?_; rintro e wq ⟨rfl, rfl⟩) | (go_at_call 22; refine ku.mono ?_; rintro e wq ⟨rfl, rfl⟩))
      have HU : Hid (wrap64 (s.uses + 2) = s.uses + 2 ∧ wrap64 (s.uses + 1) = s.uses + 1) := ⟨hw2, hw1⟩
      clear ha ku Pz hcz hw1 hw2
      go_cut [] (fun wx => YsU B w g ob ub kb k m i s.uses wx)
      case first =>
        as_aux_lemma =>
          have ha5 : a < 5 := by omega
          have hai2 : (a : Int) < 5 := by omega
          have cO : wq.cell? ⟨ob, a, none⟩ = some (ov a) := HY.out.1.obr.cell ha5
          obtain ⟨oa, oc, ho⟩ := (HY.out.1.rows a ha5).len
          rw [ho] at cO
          have cU : wq.cell? ⟨ub, a, none⟩ = some (cuF mc mb a) := HY.out.1.ubr.cell ha5
          have cK : wq.cell? ⟨kb, a, none⟩ = some (ckF mc mb a) := HY.out.1.kbr.cell ha5
          have hne1 : ub ≠ kb := fun e => by have := HY.out.1.bk.inj 16 17 ub bk_ub (by rw [e]; exact bk_kb); omega
          have hne2 : kb ≠ ub := Ne.symm hne1
          have HOV : Hid (ov a = .slice oa (own a).length oc) := ho
          clear ho
          cases em : mc a with
          | some mm =>
            obtain ⟨q, x, eb, -⟩ := HY.out.1.mS a ha5 mm em
            cases hf : isFr mm with
            | true =>
              rw [cu_fr eb em hf] at cU
              rw [ck_fr eb em hf] at cK
              have ks := HY.out.1.stepF HY.out.2.1 (by omega) (by omega) (by omega) hak em eb hf
              have hn1 := nilFe ⟨q, 0, none⟩
              have hm1 := mthFe ⟨q, 0, none⟩
              have HM : Hid (mc a = some mm ∧ mb a = some (q, x) ∧ isFr mm = true) := ⟨em, eb, hf⟩
              clear em eb hf cO
              go_wp2_with fail
              refine ks.mono ?_
              rintro e w3 ⟨s3, done, rfl, hus, hgo, hen⟩
              have HUS : Hid (s3.uses = s.uses + 1) := hus.trans HU.out.2
              clear hus ks cU cK
              cases done with
              | false =>
                obtain ⟨m', x', hf', hY3, hP3⟩ := hgo rfl
                have HE : Hid (YsU B w g ob ub kb k m i s.uses w3) := ⟨s3, ov, own, _, _, hY3.reGo HM.out.1 HM.out.2.1 (hf'.trans HM.out.2.2.symm), hP3, by have := HUS.out; have := HY.out; omega, by have := HUS.out; omega, fun j hj => by have := HY.out.2.2.2.2 j hj; omega⟩
                clear hY3 hP3 hgo hen hf'
                go_wp2_with fail
                go_meet
                exact HE.out
              | true =>
                obtain ⟨hY3, hor⟩ := hen rfl
                have hP3 : Mk k m (i + 1) s3 own (upO mc a none) := by
                  rcases hor with ⟨-, h⟩ | ⟨h, -⟩ | ⟨_, h, -⟩
                  · exact h
                  · cases h
                  · cases h
                have cU3 : w3.cell? ⟨ub, a, none⟩ = some (ifFe q) := (hY3.ubr.cell ha5).trans (by rw [cu_fr HM.out.2.1 HM.out.1 HM.out.2.2])
                have cK3 : w3.cell? ⟨kb, a, none⟩ = some (.pointer none) := (hY3.kbr.cell ha5).trans (by rw [ck_fr HM.out.2.1 HM.out.1 HM.out.2.2])
                have fU3 : w3.frozen? ⟨ub, a, none⟩ = false := hY3.ubr.frozen _
                have fK3 : w3.frozen? ⟨kb, a, none⟩ = false := hY3.kbr.frozen _
                have HE : Hid (YsU B w g ob ub kb k m i s.uses ((w3.setCell ⟨ub, a, none⟩ .nilIface).setCell ⟨kb, a, none⟩ (.pointer none))) := ⟨s3, ov, own, _, _, hY3.set2 (cu_none (upO_same _ _ _)).symm (ck_none (upO_same _ _ _)).symm, hP3, by have := HUS.out; have := HY.out; omega, by have := HUS.out; omega, fun j hj => by have := HY.out.2.2.2.2 j hj; omega⟩
                clear hY3 hP3 hgo hen hor
                go_wp2_with fail
                go_meet
                exact HE.out
            | false =>
              rw [cu_al eb em hf] at cU
              rw [ck_al eb em hf] at cK
              have ks := HY.out.1.stepA HY.out.2.1 (by omega) (by omega) (by omega) hak em eb hf
              have hn1 := nilAl ⟨q, 0, none⟩
              have hm1 := mthAl ⟨q, 0, none⟩
              have HM : Hid (mc a = some mm ∧ mb a = some (q, x) ∧ isFr mm = false) := ⟨em, eb, hf⟩
              clear em eb hf cO
              go_wp2_with fail
              refine ks.mono ?_
              rintro e w3 ⟨s3, done, rfl, hus, hgo, hen⟩
              have HUS : Hid (s3.uses = s.uses + 1) := hus.trans HU.out.2
              clear hus ks cU cK
              cases done with
              | false =>
                obtain ⟨m', x', hf', hY3, hP3⟩ := hgo rfl
                have HE : Hid (YsU B w g ob ub kb k m i s.uses w3) := ⟨s3, ov, own, _, _, hY3.reGo HM.out.1 HM.out.2.1 (hf'.trans HM.out.2.2.symm), hP3, by have := HUS.out; have := HY.out; omega, by have := HUS.out; omega, fun j hj => by have := HY.out.2.2.2.2 j hj; omega⟩
                clear hY3 hP3 hgo hen hf'
                go_wp2_with fail
                go_meet
                exact HE.out
              | true =>
                obtain ⟨hY3, hor⟩ := hen rfl
                have cK3 : w3.cell? ⟨kb, a, none⟩ = some (.pointer (some ⟨q, 0, none⟩)) := (hY3.kbr.cell ha5).trans (by rw [ck_al HM.out.2.1 HM.out.1 HM.out.2.2])
                rcases hor with ⟨hfr, -⟩ | ⟨-, hE, hP3⟩ | ⟨h, -, hne, hE, hP3⟩
                · cases hfr
                · have kH := handleW hE
                  rw [show ((0 : Int) != 0) = false from rfl] at kH
                  have HY3 : Hid (Ys B w w3 s3 g (plK k m) ob ub kb ov own (upO mc a none) (upO mb a none) (cuF mc mb) (ckF mc mb) ∧ Mk k m (i + 1) s3 own (upO mc a none)) := ⟨hY3, hP3⟩
                  clear hY3 hP3 hgo hen hE
                  go_wp2_with fail
                  refine kH.mono ?_
                  rintro e w4 ⟨rfl, hb4⟩
                  have hY4 := HY3.out.1.below hb4
                  have cU4 : w4.cell? ⟨ub, a, none⟩ = some (ifAl q) := (hY4.ubr.cell ha5).trans (by rw [cu_al HM.out.2.1 HM.out.1 HM.out.2.2])
                  have cK4 : w4.cell? ⟨kb, a, none⟩ = some (.pointer (some ⟨q, 0, none⟩)) := (hY4.kbr.cell ha5).trans (by rw [ck_al HM.out.2.1 HM.out.1 HM.out.2.2])
                  have fU4 : w4.frozen? ⟨ub, a, none⟩ = false := hY4.ubr.frozen _
                  have fK4 : w4.frozen? ⟨kb, a, none⟩ = false := hY4.kbr.frozen _
                  have HE : Hid (YsU B w g ob ub kb k m i s.uses ((w4.setCell ⟨ub, a, none⟩ .nilIface).setCell ⟨kb, a, none⟩ (.pointer none))) := ⟨s3, ov, own, _, _, hY4.set2 (cu_none (upO_same _ _ _)).symm (ck_none (upO_same _ _ _)).symm, HY3.out.2, by have := HUS.out; have := HY.out; omega, by have := HUS.out; omega, fun j hj => by have := HY.out.2.2.2.2 j hj; omega⟩
                  clear hY4 hb4 kH cK3
                  go_wp2_with fail
                  go_meet
                  exact HE.out
                · have kH := handleW hE
                  have hnb0 : (h != 0) = true := by simpa using hne
                  rw [hnb0] at kH
                  have HY3 : Hid (Ys B w w3 s3 g (plK k m) ob ub kb ov own (upO mc a none) (upO mb a none) (cuF mc mb) (ckF mc mb) ∧ Mk k m (i + 1) s3 (upO own a (own a ++ [h])) (upO mc a none)) := ⟨hY3, hP3⟩
                  clear hY3 hP3 hgo hen hE hne hnb0
                  go_wp2_with fail
                  refine kH.mono ?_
                  rintro e w4 ⟨rfl, hb4⟩
                  have HY4 : Hid (Ys B w w4 s3 g (plK k m) ob ub kb ov own (upO mc a none) (upO mb a none) (cuF mc mb) (ckF mc mb)) := HY3.out.1.below hb4
                  have cO4 : w4.cell? ⟨ob, a, none⟩ = some (.slice oa (own a).length oc) := by rw [← HOV.out]; exact HY4.out.obr.cell ha5
                  have hL := HY.out.2.2.2.2 a ha5
                  have HST : Hid (s3.st h = 1) := HY3.out.2.live hak (by rw [upO_same]; simp)
                  clear hb4 kH cK3
                  obtain ⟨L, hLL⟩ : ∃ L, (own a).length = L := ⟨_, rfl⟩
                  have HLL : Hid ((own a).length = L) := hLL
                  rw [hLL] at cO4 hL
                  have HOV2 : Hid (ov a = .slice oa L oc) := by have := HOV.out; rw [hLL] at this; exact this
                  clear hLL
                  go_wp2_with (refine list_appY rfl _ _ rfl (HY4.out.alloc _) ha5 HOV2.out.symm rfl (src_one _ _) (by have := HLL.out; omega) ?_; intro v' w5 hY5 hro5; obtain ⟨va, vc, hv⟩ := (hY5.rows a ha5).len; rw [upV_same, upO_same, List.length_append, HLL.out] at hv; subst hv; have c5 : w5.cell? ⟨ob, a, none⟩ = some (.slice oa L oc) := by { rw [← HOV2.out]; exact hro5.cell ha5 }; have f5 : w5.frozen? ⟨ob, a, none⟩ = false := hro5.frozen _; have HY5 : Hid _ := hY5; clear hY5 hro5)
                  have hin : inW s3 h 7 := ⟨by rw [HST.out]; decide, by decide, by have := (zN_bd h).1; omega⟩
                  have kS : ∀ n', Calls Tryd.prog 23 #[ptrA B, .int .i64 h, .int .i64 7, .int .i64 n'] (w5.setCell ⟨ob, a, none⟩ (.slice va (L + 1) vc)) (Left9 B (w5.setCell ⟨ob, a, none⟩ (.slice va (L + 1) vc)) (.tuple #[]) { useA s3 with mem := upN s3.mem (atW h 7) n' }) := fun n' => by
                    have := A9.Store_any HY5.out.wk.ar h 7 n'
                    rw [store_in hin] at this
                    exact this
                  clear c5 f5 cO4
                  refine (kS _).mono ?_
                  rintro e w6 ⟨rfl, hA6, hF6⟩
                  have hY6 := HY5.out.arena hA6 hF6
                  have cU6 : w6.cell? ⟨ub, a, none⟩ = some (ifAl q) := (hY6.ubr.cell ha5).trans (by rw [cu_al HM.out.2.1 HM.out.1 HM.out.2.2])
                  have cK6 : w6.cell? ⟨kb, a, none⟩ = some (.pointer (some ⟨q, 0, none⟩)) := (hY6.kbr.cell ha5).trans (by rw [ck_al HM.out.2.1 HM.out.1 HM.out.2.2])
                  have fU6 : w6.frozen? ⟨ub, a, none⟩ = false := hY6.ubr.frozen _
                  have fK6 : w6.frozen? ⟨kb, a, none⟩ = false := hY6.kbr.frozen _
                  have HP6 : Hid (∀ n', Mk k m (i + 1) { useA s3 with mem := upN s3.mem (atW h 7) n' } (upO own a (own a ++ [h])) (upO mc a none) ∧ ({ useA s3 with mem := upN s3.mem (atW h 7) n' } : Ar).uses = s.uses + 2) := fun n' => ⟨HY3.out.2.same rfl rfl rfl rfl rfl rfl rfl rfl rfl rfl, by show wrap64 (s3.uses + 1) = _; rw [HUS.out, show s.uses + 1 + 1 = s.uses + 2 by omega]; exact HU.out.1⟩
                  have HE : Hid (YsU B w g ob ub kb k m i s.uses ((w6.setCell ⟨ub, a, none⟩ .nilIface).setCell ⟨kb, a, none⟩ (.pointer none))) := ⟨_, _, _, _, _, hY6.set2 (cu_none (upO_same _ _ _)).symm (ck_none (upO_same _ _ _)).symm, (HP6.out _).1, by rw [(HP6.out _).2]; have := HY.out; omega, by rw [(HP6.out _).2]; omega, fun j hj => by
                    by_cases e : j = a
                    · subst e; rw [upO_same, List.length_append, HLL.out]; simp; omega
                    · rw [upO_other _ _ e]; have := HY.out.2.2.2.2 j hj; omega⟩
                  clear hY6 hA6 hF6 kS HY5 HY4 hin
                  go_wp2_with fail
                  go_meet
                  exact HE.out
          | none =>
            have eb := HY.out.1.mN a ha5 em
            rw [cu_none eb] at cU
            rw [ck_none eb] at cK
            have fO : wq.frozen? ⟨ob, a, none⟩ = false := HY.out.1.obr.frozen _
            have fU : wq.frozen? ⟨ub, a, none⟩ = false := HY.out.1.ubr.frozen _
            have fK : wq.frozen? ⟨kb, a, none⟩ = false := HY.out.1.kbr.frozen _
            have HM : Hid (mc a = none ∧ mb a = none) := ⟨em, eb⟩
            obtain ⟨d, hd⟩ : ∃ d : Nat, v / (k : Int) = (d : Int) := ⟨(v / (k : Int)).toNat, by have := Int.ediv_nonneg v1 (show (0 : Int) ≤ (k : Int) by omega); omega⟩
            clear em eb
            by_cases hfr : d % 3 = 0 ∧ 0 < (own a).length
            · obtain ⟨hd3, hpos⟩ := hfr
              obtain ⟨x, ys, hx⟩ : ∃ x ys, own a = x :: ys := by
                cases h : own a with
                | nil => rw [h] at hpos; simp at hpos
                | cons x ys => exact ⟨x, ys, rfl⟩
              obtain ⟨r, off, c9, eo, c1, c2, c3, hc1, hYt⟩ := HY.out.1.tail ha5 hx
              have cO2 := HY.out.1.obr.cell ha5
              rw [eo] at cO2
              clear cO
              obtain ⟨L, hL⟩ : ∃ L, ys.length + 1 = L := ⟨_, rfl⟩
              have hL' : ys.length = L - 1 := by omega
              rw [hL] at cO2 c2
              rw [hL'] at hYt
              have hd3I : (d : Int) % 3 = 0 := by omega
              have hd3b : ((d : Int) % 3 == 0) = true := by rw [hd3I]; rfl
              have hL1 : (0 : Int) < (L : Int) := by omega
              have hL2 : (1 : Int) ≤ (L : Int) := by omega
              have hL3 : (L : Int) ≤ (c9 : Int) := by omega
              unfold maxLen at c3
              have hlive := HY.out.2.1.live hak (a := x) (by rw [hx]; simp)
              obtain ⟨hnm1, hnm2⟩ := HY.out.2.1.name HY.out.1.wk.ar.ok hak (a := x) (by rw [hx]; simp)
              have hP3 := HY.out.2.1.retire (by omega) hak HM.out.1 hx
              have HX : Hid (own a = x :: ys ∧ isH x ∧ bN x = 8 * grN x ∧ s.st x = 1 ∧ ys.length + 1 = L) := ⟨hx, hnm1, hnm2, hlive, hL⟩
              have HP3 : Hid (Mk k m i (retireS s x) (upO own a ys) (upO mc a (some (.free x (4 * a + clN x) ⟨grN x, 0, 0⟩)))) := hP3
              clear hx hnm1 hnm2 hlive hL hL' hP3 hpos eo HOV
              by_cases h91 : c9 = 1
              · subst h91
                obtain rfl : L = 1 := by omega
                rw [if_pos rfl] at hYt
                simp only [Nat.sub_self] at hYt
                have HYt : Hid _ := hYt
                clear hYt
                go_wp2_with fail
                have kT := A9.Retire_any HYt.out.wk.ar x
                rw [retire_of HX.out.2.2.2.1] at kT
                refine kT.mono ?_
                rintro e w5 ⟨rfl, hA5, hF5⟩
                have hY5 := HYt.out.arena hA5 hF5
                have kF := hY5.newF (by omega) (by omega) hak HM.out.1 HX.out.2.1 HX.out.2.2.1
                obtain ⟨e0, e1, e2, e3, e4⟩ := hY5.wk.pl
                unfold Pl5.v at kF
                clear hA5 hF5 hY5 kT HYt cU cK cO2 fO fU fK hc1
                go_wp2_with fail
                refine kF.mono ?_
                rintro e w6 ⟨q, x6, rfl, hY6⟩
                have cU6 : w6.cell? ⟨ub, a, none⟩ = some .nilIface := (hY6.ubr.cell ha5).trans (by rw [cu_none HM.out.2])
                have fU6 : w6.frozen? ⟨ub, a, none⟩ = false := hY6.ubr.frozen _
                have HE : Hid (YsU B w g ob ub kb k m i s.uses (w6.setCell ⟨ub, a, none⟩ (ifFe q))) := ⟨_, _, _, _, _, hY6.set1 (cu_fr (upO_same _ _ _) (upO_same _ _ _) rfl).symm (by rw [ck_none HM.out.2, ck_fr (upO_same _ _ _) (upO_same _ _ _) rfl]), HP3.out.wide (by omega), by have := HY.out; show 0 ≤ s.uses; omega, by show s.uses ≤ s.uses + 2; omega, fun j hj => by
                  by_cases e : j = a
                  · subst e
                    rw [upO_same]
                    have h1 := HY.out.2.2.2.2 j hj
                    rw [HX.out.1] at h1
                    simp at h1
                    omega
                  · rw [upO_other _ _ e]; have := HY.out.2.2.2.2 j hj; omega⟩
                clear hY6 kF e0 e1 e2 e3 e4
                go_wp2_with fail
                go_meet
                exact HE.out
              · rw [if_neg h91] at hYt
                have HYt : Hid _ := hYt
                clear hYt
                go_wp2_with fail
                have kT := A9.Retire_any HYt.out.wk.ar x
                rw [retire_of HX.out.2.2.2.1] at kT
                refine kT.mono ?_
                rintro e w5 ⟨rfl, hA5, hF5⟩
                have hY5 := HYt.out.arena hA5 hF5
                have kF := hY5.newF (by omega) (by omega) hak HM.out.1 HX.out.2.1 HX.out.2.2.1
                obtain ⟨e0, e1, e2, e3, e4⟩ := hY5.wk.pl
                unfold Pl5.v at kF
                clear hA5 hF5 hY5 kT HYt cU cK cO2 fO fU fK hc1
                go_wp2_with fail
                refine kF.mono ?_
                rintro e w6 ⟨q, x6, rfl, hY6⟩
                have cU6 : w6.cell? ⟨ub, a, none⟩ = some .nilIface := (hY6.ubr.cell ha5).trans (by rw [cu_none HM.out.2])
                have fU6 : w6.frozen? ⟨ub, a, none⟩ = false := hY6.ubr.frozen _
                have HE : Hid (YsU B w g ob ub kb k m i s.uses (w6.setCell ⟨ub, a, none⟩ (ifFe q))) := ⟨_, _, _, _, _, hY6.set1 (cu_fr (upO_same _ _ _) (upO_same _ _ _) rfl).symm (by rw [ck_none HM.out.2, ck_fr (upO_same _ _ _) (upO_same _ _ _) rfl]), HP3.out.wide (by omega), by have := HY.out; show 0 ≤ s.uses; omega, by show s.uses ≤ s.uses + 2; omega, fun j hj => by
                  by_cases e : j = a
                  · subst e
                    rw [upO_same]
                    have h1 := HY.out.2.2.2.2 j hj
                    rw [HX.out.1] at h1
                    simp at h1
                    omega
                  · rw [upO_other _ _ e]; have := HY.out.2.2.2.2 j hj; omega⟩
                clear hY6 kF e0 e1 e2 e3 e4
                go_wp2_with fail
                go_meet
                exact HE.out
            · have HC : Hid (d / 3 % 3 < 4) := Nat.lt_of_lt_of_le (Nat.mod_lt _ (by omega)) (by omega)
              obtain ⟨L, hL⟩ : ∃ L, (own a).length = L := ⟨_, rfl⟩
              rw [hL] at cO hfr
              obtain ⟨c, hcd⟩ : ∃ c, d / 3 % 3 = c := ⟨_, rfl⟩
              have HC2 : Hid (c < 4) := by have := HC.out; show c < 4; omega
              go_upto_region 25 with fail
              go_cut [128] (fun cv wx => cv = .bool false ∧ wx = wq)
              case first =>
                by_cases hd3 : d % 3 = 0
                · have hd3I : (d : Int) % 3 = 0 := by omega
                  have hd3b : ((d : Int) % 3 == 0) = true := by rw [hd3I]; rfl
                  have hLI : ¬ (0 : Int) < (L : Int) := by omega
                  have hLd : decide ((0 : Int) < (L : Int)) = false := by simpa using hLI
                  have hLn : decide (0 < L) = false := decide_eq_false (by omega)
                  go_wp2_with fail
                  go_meet
                  exact ⟨by first | rfl | rw [hLn], rfl⟩
                · have hd3I : ¬ (d : Int) % 3 = 0 := by omega
                  have hd3b : ((d : Int) % 3 == 0) = false := by simpa using hd3I
                  go_wp2_with fail
                  go_meet
                  exact ⟨rfl, rfl⟩
              case rest =>
                obtain ⟨rfl, rfl⟩ := hcut
                obtain ⟨wq, rfl⟩ : ∃ W, W = wc := ⟨wc, rfl⟩
                have q2 := HY.out.1.wk.pl
                have kA : ∀ wx, Ys B w wx s g (plK k m) ob ub kb ov own mc mb (cuF mc mb) (ckF mc mb) → ∀ n', n' = (c : Int) → Calls Tryd.prog 15 #[(plK k m).v, .int .i64 (a : Int), .int .i64 n'] wx fun e w' => ∃ q x, e = .returned (.pointer (some ⟨q, 0, none⟩)) ∧ Ys B w w' s g (plK k m) ob ub kb ov own (upO mc a (some (.pop c (4 * a + c) (k - 1) ⟨0, 0, 0⟩))) (upO mb a (some (q, x))) (cuF mc mb) (ckF mc mb) := fun wx hx n' hn' => by
                  rw [hn']
                  exact hx.newA (by omega) (by omega) hak HM.out.1 HC2.out
                unfold Pl5.v at kA
                unfold plS at q2
                have hq1 : IntKind.i64.wrap (v.tdiv (k : Int)) = (d : Int) := by rw [Int.tdiv_eq_ediv_of_nonneg v1, hd, IntKind.wrap_i64]; have := Int.ediv_le_self (k : Int) v1; omega
                have hq2 : IntKind.i64.wrap ((d : Int).tdiv 3) = ((d / 3 : Nat) : Int) := by rw [Int.tdiv_eq_ediv_of_nonneg (by omega), IntKind.wrap_i64]; have := Int.ediv_le_self (k : Int) v1; omega
                have hq3 : (((d / 3 : Nat) : Int)).tmod 3 = (c : Int) := by rw [Int.tmod_eq_emod_of_nonneg (by omega)]; omega
                have hkn : ¬ k = 0 := by omega
                have hknd : decide (k = 0) = false := decide_eq_false hkn
                have hkne : (k == 0) = false := by simpa using hkn
                have hq4 : IntKind.i64.wrap ((d : Int) / 3) = (d : Int) / 3 := by rw [IntKind.wrap_i64]; have := Int.ediv_le_self (k : Int) v1; omega
                have HQ : Hid ((((d / 3 : Nat) : Int)).tmod 3 = (c : Int) ∧ ((d : Int) / 3) % 3 = (c : Int) ∧ (IntKind.i64.wrap ((d : Int) / 3)).tmod 3 = (c : Int) ∧ ((d : Int) / 3).tmod 3 = (c : Int)) := ⟨hq3, by omega, by rw [hq4, Int.tmod_eq_emod_of_nonneg (by omega)]; omega, by rw [Int.tmod_eq_emod_of_nonneg (by omega)]; omega⟩
                clear hcd hfr cO hL HOV
                go_wp2_with fail
                go_region_held3 (fun w' => w'.cell? ⟨g, 0, none⟩ = some (.int .i64 (plK k m).wk) ∧ w'.cell? ⟨g, 1, none⟩ = some (.int .i64 (plK k m).hd) ∧ w'.cell? ⟨g, 2, none⟩ = some (.int .i64 (plK k m).ln) ∧ w'.cell? ⟨g, 3, none⟩ = some (.int .i64 (plK k m).gn) ∧ w'.cell? ⟨g, 4, none⟩ = some (.int .i64 (plK k m).cv)) (first | exact q2 | exact hp4) (first
                  | (go_at_call 15; refine (kA _ (by first | exact HY.out.1 | exact HY.out.1.drew) _ (by first | exact HQ.out.1 | exact HQ.out.2.1 | exact HQ.out.2.2.1 | exact HQ.out.2.2.2 | rfl)).mono ?_; rintro e w4 ⟨q, x4, rfl, hY4⟩; have hp4 : plS g (plK k m) w4 := hY4.wk.pl))
                all_goals
                  have cU4 : w4.cell? ⟨ub, a, none⟩ = some .nilIface := (hY4.ubr.cell ha5).trans (by rw [cu_none HM.out.2])
                  have fU4 : w4.frozen? ⟨ub, a, none⟩ = false := hY4.ubr.frozen _
                  have cK4 : w4.cell? ⟨kb, a, none⟩ = some (.pointer none) := (hY4.kbr.cell ha5).trans (by rw [ck_none HM.out.2])
                  have fK4 : w4.frozen? ⟨kb, a, none⟩ = false := hY4.kbr.frozen _
                  have HE : Hid (YsU B w g ob ub kb k m i s.uses ((w4.setCell ⟨ub, a, none⟩ (ifAl q)).setCell ⟨kb, a, none⟩ (.pointer (some ⟨q, 0, none⟩)))) := ⟨_, _, _, _, _, hY4.set2 (cu_al (upO_same _ _ _) (upO_same _ _ _) rfl).symm (ck_al (upO_same _ _ _) (upO_same _ _ _) rfl).symm, (HY.out.2.1.ask hak HM.out.1 HC2.out).wide (by omega), by have := HY.out; omega, by omega, fun j hj => by have := HY.out.2.2.2.2 j hj; omega⟩
                  clear hY4 hp4 kA q2 hq1 hq2 hq3 hq4 cU cK fO fU fK
                  go_wp2_with fail
                  go_meet
                  exact HE.out
      case rest =>
        as_aux_lemma =>
          obtain ⟨s5, ov5, own5, mc5, mb5, hY5, hP5, hu5, hu6, hlen5⟩ := hcut
          obtain ⟨w5, rfl⟩ : ∃ W, W = wc := ⟨wc, rfl⟩
          have kU := A9.Uses_any hY5.wk.ar
          obtain ⟨cvv, hcv, hcv0, hcvm⟩ := hP5.cv
          have kC := A9.Raw_any hY5.wk.ar (plK k m).cv
          rw [show rawA s5 (plK k m).cv = (useA s5, cvv) from hcv] at kC
          have c4 := hY5.wk.pl.2.2.2.2
          have hsu := HY.out
          have hd7 : decide (s.uses + 2 < s5.uses) = false := by simp; omega
          have hw2 : wrap64 (s.uses + 2) = s.uses + 2 := HU.out.1
          have hi2 : IntKind.i64.wrap (s.uses + 2) = s.uses + 2 := by rw [IntKind.wrap_i64]; omega
          have hm7 : ¬ (m : Int) < cvv := by omega
          have hm7d : decide ((m : Int) < cvv) = false := by simpa using hm7
          have HY5 : Hid (Ys B w w5 s5 g (plK k m) ob ub kb ov5 own5 mc5 mb5 (cuF mc5 mb5) (ckF mc5 mb5) ∧ Mk k m (i + 1) s5 own5 mc5 ∧ 0 ≤ s5.uses ∧ s5.uses ≤ s.uses + 2 ∧ s.uses ≤ 3 * i ∧ (∀ j, j < 5 → (own5 j).length ≤ i + 1)) := ⟨hY5, hP5, hu5, hu6, hsu.2.2.2.1, hlen5⟩
          clear hY5 hP5 hlen5 hcv hsu
          go_wp2_with fail
          refine kU.mono ?_
          rintro e w5 ⟨rfl, rfl⟩
          go_wp2_with fail
          refine kC.mono ?_
          rintro e w6 ⟨rfl, hA6, hF6⟩
          have hY6 := HY5.out.1.arena hA6 hF6
          have hP6 := HY5.out.2.1.use
          obtain ⟨c, l, r, e1, e2, e3, b1, -, b2, b3, -⟩ := hP6.count (by omega)
          have kN := A9.Count_any hY6.wk.ar
          unfold cntV at kN
          rw [e1, e2, e3] at kN
          obtain ⟨f, hf, hne, hcn, hcnd, hcm, hcmd⟩ := tot_facts b1 b2 b3 HN.out.2.2
          rw [hf] at kN
          have HY6 : Hid (Ys B w w6 (useA s5) g (plK k m) ob ub kb ov5 own5 mc5 mb5 (cuF mc5 mb5) (ckF mc5 mb5) ∧ Mk k m (i + 1) (useA s5) own5 mc5) := ⟨hY6, hP6⟩
          clear hY6 hP6 e1 e2 e3 hA6 hF6 kC kU c4 hf
          go_wp2_with fail
          refine kN.mono ?_
          rintro e w7 ⟨rfl, hb7⟩
          have hY7 := HY6.out.1.below hb7
          have HR : Hid (∀ o, YsR B w g ob ub kb k m (i + 1) (w7.alloc o)) := fun o => ⟨_, _, _, _, _, hY7.alloc o, HY6.out.2, by have h1 := HY5.out; show 0 ≤ wrap64 (s5.uses + 1); rw [A9.wr64_id (by omega) (by omega)]; omega, by have h1 := HY5.out; show wrap64 (s5.uses + 1) ≤ _; rw [A9.wr64_id (by omega) (by omega)]; omega, HY5.out.2.2.2.2.2⟩
          clear hY7 hb7 kN
          go_wp2_with fail
          go_roundw
          case rel => exact ⟨i + 1, by omega, by omega, by go_num, HR.out _⟩
          case measure => simp [intOf]; omega
    · have hnb := HN.out
      have HY : Hid (Ys B w wq s g (plK k m) ob ub kb ov own mc mb (cuF mc mb) (ckF mc mb) ∧ Mk k m i s own mc ∧ (∀ j, j < 5 → (own j).length ≤ i)) := ⟨hY, hP, hlen⟩
      clear hN hY hP hu0 huT hlen Pv
      by_cases h1 : i < len
      · have h1i : (i : Int) < (len : Int) := by omega
        have h2i : ¬ (i : Int) < 500 := by omega
        have h2d : decide ((i : Int) < 500) = false := by simpa using h2i
        clear h1
        go_wp2_with fail
        go_loopw [24, 25] (fun lv iv wr => ∃ j q : Nat, j ≤ k ∧ q ≤ 32000 * j ∧ q = sumN (fun w => szO (own w)) j ∧ lv = .int .i64 q ∧ iv = .int .i64 j ∧ Below wq.heap.size wq wr) (fun _ iv _ => 5 - (intOf iv).toNat)
        case atStart => exact ⟨0, 0, by omega, by omega, rfl, rfl, rfl, Below.refl _ _⟩
        case round =>
          obtain ⟨j, q, hjk, hqb, hqs, rfl, rfl, hB⟩ := hrel
          obtain ⟨wj, rfl⟩ : ∃ W, W = wr := ⟨wr, rfl⟩
          by_cases hj : j < k
          · have hjI : (j : Int) < (k : Int) := by omega
            have hj5 : (j : Int) < 5 := by omega
            have hYj := HY.out.1.below hB
            obtain ⟨oa, oc, ho⟩ := (hYj.rows j (by omega)).len
            have cO : wj.cell? ⟨ob, j, none⟩ = some (ov j) := hYj.obr.cell (by omega)
            rw [ho] at cO
            obtain ⟨L, hL⟩ : ∃ L, (own j).length = L := ⟨_, rfl⟩
            rw [hL] at cO ho
            have hLb : L ≤ 500 := by have := HY.out.2.2 j (by omega); omega
            have HJ : Hid (Below wq.heap.size wq wj ∧ ov j = .slice oa L oc ∧ (own j).length = L ∧ q = sumN (fun w => szO (own w)) j) := ⟨hB, ho, hL, hqs⟩
            clear hYj ho hL hqs hB
            go_wp2_with fail
            go_loopw [24, 204] (fun lv tv wr => ∃ t q' : Nat, t ≤ L ∧ q' ≤ q + 64 * t ∧ q' = q + szO ((own j).take t) ∧ lv = .int .i64 q' ∧ tv = .int .i64 t ∧ Below wq.heap.size wq wr) (fun _ tv _ => L - (intOf tv).toNat)
            case atStart => exact ⟨0, q, by omega, by omega, by simp [szO], rfl, rfl, HJ.out.1⟩
            case round =>
              obtain ⟨t, q', htL, hqt, hqe, rfl, rfl, hB2⟩ := hrel
              obtain ⟨wt, rfl⟩ : ∃ W, W = wr := ⟨wr, rfl⟩
              clear cO
              by_cases ht : t < L
              · have htI : (t : Int) < (L : Int) := by omega
                obtain ⟨h, hh⟩ : ∃ h, (own j)[t]? = some h := ⟨_, List.getElem?_eq_getElem (by rw [HJ.out.2.2.1]; exact ht)⟩
                have hYt := HY.out.1.below hB2
                obtain ⟨r, off, cap, e, hc1, hc2, hcell⟩ := (hYt.rows j (by omega)).at hh
                have hmem : h ∈ own j := List.mem_of_getElem? hh
                rw [HJ.out.2.2.1] at e hc1
                obtain ⟨rfl, rfl⟩ : oa = some ⟨r, off, none⟩ ∧ oc = cap := by
                  have e2 := HJ.out.2.1.symm.trans e
                  injection e2 with e3 e4 e5
                  exact ⟨e3, e5⟩
                have hT : HTab wt := (HT.out.below HY.out.1.wk.low).below hB2
                have kO := A9.Open_is (HY.out.2.1.name HY.out.1.wk.ar.ok hj hmem).1 wt hT
                have kS := fun wx (hx : Below wt.heap.size wt wx) => A9.State_any (hYt.below hx).wk.ar h
                rw [HY.out.2.1.live hj hmem] at kS
                have kZ := fun wx (hx : Below wt.heap.size wt wx) => A9.Size_is h wx (hT.below hx)
                obtain ⟨hz1, hz2⟩ := A9.zN_bd h
                have hqz : IntKind.i64.wrap ((q' : Int) + (A9.zN h : Int)) = (q' : Int) + (A9.zN h : Int) := by rw [IntKind.wrap_i64]; omega
                have HE : Hid (Below wq.heap.size wq wt ∧ q' + A9.zN h = q + szO ((own j).take (t + 1))) := ⟨hB2, by rw [szO_take hh]; omega⟩
                clear hB2 hqe hYt e hmem hh hT
                generalize A9.zN h = zz at *
                generalize bN h = bb at *
                go_wp2_with fail
                refine kO.mono ?_
                rintro e w4 ⟨rfl, hb4⟩
                have kS4 := kS _ hb4
                have kZ4 := kZ _ hb4
                have HB : Hid (Below wq.heap.size wq w4) := below_then HE.out.1 hb4
                clear kO kS kZ hcell hb4
                go_wp2_with fail
                refine kS4.mono ?_
                rintro e w5 ⟨rfl, rfl⟩
                go_wp2_with fail
                refine kZ4.mono ?_
                rintro e w6 ⟨rfl, rfl⟩
                go_wp2_with fail
                go_roundw
                case rel => exact ⟨t + 1, q' + zz, by omega, by omega, HE.out.2, by go_num, by go_num, HB.out⟩
                case measure => simp [intOf]; omega
              · have htI : ¬ (t : Int) < (L : Int) := by omega
                have HE : Hid (Below wq.heap.size wq wt ∧ q' = sumN (fun w => szO (own w)) (j + 1)) := ⟨hB2, by
                  show q' = sumN (fun w => szO (own w)) j + szO (own j)
                  rw [← HJ.out.2.2.2, hqe, List.take_of_length_le (by rw [HJ.out.2.2.1]; omega)]⟩
                clear hB2 hqe
                go_wp2_with fail
                go_roundw
                case rel => exact ⟨j + 1, q', by omega, by omega, HE.out.2, rfl, by go_num, HE.out.1⟩
                case measure => simp [intOf]; omega
          · have hjI : ¬ (j : Int) < (k : Int) := by omega
            obtain rfl : j = k := by omega
            obtain ⟨c, l, r, e1, e2, e3, b1, bl, b2, b3, b4⟩ := HY.out.2.1.count (by omega)
            have hYj := HY.out.1.below hB
            have kF := A9.Fault_any hYj.wk.ar
            rw [HY.out.2.1.bad] at kF
            have kN := A9.Count_any hYj.wk.ar
            unfold cntV at kN
            rw [e1, e2, e3, bl, ← hqs] at kN
            have hq6 : (q : Int) ≤ 65536 := by omega
            have hq7 : q ≤ 65536 := by omega
            have HB : Hid (Below w.heap.size w wj ∧ HTab wj) := ⟨below_then HY.out.1.wk.low hB, (HT.out.below HY.out.1.wk.low).below hB⟩
            obtain ⟨f, hf⟩ : ∃ f, wrap64 (wrap64 ((c : Int) - (q : Int)) - (r : Int)) = f := ⟨_, rfl⟩
            rw [hf] at kN
            have fl6 := fun wx => fldL2 (c : Int) (q : Int) (r : Int) f wx
            clear hYj hB hqs bl e1 e2 e3 hf
            go_wp2_with fail
            refine kF.mono ?_
            rintro e w4 ⟨rfl, rfl⟩
            go_wp2_with fail
            refine kN.mono ?_
            rintro e w5 ⟨rfl, hb5⟩
            have HB5 : Hid (Below w.heap.size w w5 ∧ HTab w5) := ⟨below_then HB.out.1 hb5, HB.out.2.below hb5⟩
            clear hb5 kN kF
            go_wp2_with fail
            refine (ka _ HB5.out.2).mono ?_
            rintro e w6 ⟨rfl, hb6⟩
            go_wp2_with fail
            go_ret
            exact ⟨rfl, below_then HB5.out.1 hb6⟩
      · have h1i : ¬ (i : Int) < (len : Int) := by omega
        have h1d : decide ((i : Int) < (len : Int)) = false := by simpa using h1i
        clear h1
        go_wp2_with fail
        go_loopw [24, 25] (fun lv iv wr => ∃ j q : Nat, j ≤ k ∧ q ≤ 32000 * j ∧ q = sumN (fun w => szO (own w)) j ∧ lv = .int .i64 q ∧ iv = .int .i64 j ∧ Below wq.heap.size wq wr) (fun _ iv _ => 5 - (intOf iv).toNat)
        case atStart => exact ⟨0, 0, by omega, by omega, rfl, rfl, rfl, Below.refl _ _⟩
        case round =>
          obtain ⟨j, q, hjk, hqb, hqs, rfl, rfl, hB⟩ := hrel
          obtain ⟨wj, rfl⟩ : ∃ W, W = wr := ⟨wr, rfl⟩
          by_cases hj : j < k
          · have hjI : (j : Int) < (k : Int) := by omega
            have hj5 : (j : Int) < 5 := by omega
            have hYj := HY.out.1.below hB
            obtain ⟨oa, oc, ho⟩ := (hYj.rows j (by omega)).len
            have cO : wj.cell? ⟨ob, j, none⟩ = some (ov j) := hYj.obr.cell (by omega)
            rw [ho] at cO
            obtain ⟨L, hL⟩ : ∃ L, (own j).length = L := ⟨_, rfl⟩
            rw [hL] at cO ho
            have hLb : L ≤ 500 := by have := HY.out.2.2 j (by omega); omega
            have HJ : Hid (Below wq.heap.size wq wj ∧ ov j = .slice oa L oc ∧ (own j).length = L ∧ q = sumN (fun w => szO (own w)) j) := ⟨hB, ho, hL, hqs⟩
            clear hYj ho hL hqs hB
            go_wp2_with fail
            go_loopw [24, 204] (fun lv tv wr => ∃ t q' : Nat, t ≤ L ∧ q' ≤ q + 64 * t ∧ q' = q + szO ((own j).take t) ∧ lv = .int .i64 q' ∧ tv = .int .i64 t ∧ Below wq.heap.size wq wr) (fun _ tv _ => L - (intOf tv).toNat)
            case atStart => exact ⟨0, q, by omega, by omega, by simp [szO], rfl, rfl, HJ.out.1⟩
            case round =>
              obtain ⟨t, q', htL, hqt, hqe, rfl, rfl, hB2⟩ := hrel
              obtain ⟨wt, rfl⟩ : ∃ W, W = wr := ⟨wr, rfl⟩
              clear cO
              by_cases ht : t < L
              · have htI : (t : Int) < (L : Int) := by omega
                obtain ⟨h, hh⟩ : ∃ h, (own j)[t]? = some h := ⟨_, List.getElem?_eq_getElem (by rw [HJ.out.2.2.1]; exact ht)⟩
                have hYt := HY.out.1.below hB2
                obtain ⟨r, off, cap, e, hc1, hc2, hcell⟩ := (hYt.rows j (by omega)).at hh
                have hmem : h ∈ own j := List.mem_of_getElem? hh
                rw [HJ.out.2.2.1] at e hc1
                obtain ⟨rfl, rfl⟩ : oa = some ⟨r, off, none⟩ ∧ oc = cap := by
                  have e2 := HJ.out.2.1.symm.trans e
                  injection e2 with e3 e4 e5
                  exact ⟨e3, e5⟩
                have hT : HTab wt := (HT.out.below HY.out.1.wk.low).below hB2
                have kO := A9.Open_is (HY.out.2.1.name HY.out.1.wk.ar.ok hj hmem).1 wt hT
                have kS := fun wx (hx : Below wt.heap.size wt wx) => A9.State_any (hYt.below hx).wk.ar h
                rw [HY.out.2.1.live hj hmem] at kS
                have kZ := fun wx (hx : Below wt.heap.size wt wx) => A9.Size_is h wx (hT.below hx)
                obtain ⟨hz1, hz2⟩ := A9.zN_bd h
                have hqz : IntKind.i64.wrap ((q' : Int) + (A9.zN h : Int)) = (q' : Int) + (A9.zN h : Int) := by rw [IntKind.wrap_i64]; omega
                have HE : Hid (Below wq.heap.size wq wt ∧ q' + A9.zN h = q + szO ((own j).take (t + 1))) := ⟨hB2, by rw [szO_take hh]; omega⟩
                clear hB2 hqe hYt e hmem hh hT
                generalize A9.zN h = zz at *
                generalize bN h = bb at *
                go_wp2_with fail
                refine kO.mono ?_
                rintro e w4 ⟨rfl, hb4⟩
                have kS4 := kS _ hb4
                have kZ4 := kZ _ hb4
                have HB : Hid (Below wq.heap.size wq w4) := below_then HE.out.1 hb4
                clear kO kS kZ hcell hb4
                go_wp2_with fail
                refine kS4.mono ?_
                rintro e w5 ⟨rfl, rfl⟩
                go_wp2_with fail
                refine kZ4.mono ?_
                rintro e w6 ⟨rfl, rfl⟩
                go_wp2_with fail
                go_roundw
                case rel => exact ⟨t + 1, q' + zz, by omega, by omega, HE.out.2, by go_num, by go_num, HB.out⟩
                case measure => simp [intOf]; omega
              · have htI : ¬ (t : Int) < (L : Int) := by omega
                have HE : Hid (Below wq.heap.size wq wt ∧ q' = sumN (fun w => szO (own w)) (j + 1)) := ⟨hB2, by
                  show q' = sumN (fun w => szO (own w)) j + szO (own j)
                  rw [← HJ.out.2.2.2, hqe, List.take_of_length_le (by rw [HJ.out.2.2.1]; omega)]⟩
                clear hB2 hqe
                go_wp2_with fail
                go_roundw
                case rel => exact ⟨j + 1, q', by omega, by omega, HE.out.2, rfl, by go_num, HE.out.1⟩
                case measure => simp [intOf]; omega
          · have hjI : ¬ (j : Int) < (k : Int) := by omega
            obtain rfl : j = k := by omega
            obtain ⟨c, l, r, e1, e2, e3, b1, bl, b2, b3, b4⟩ := HY.out.2.1.count (by omega)
            have hYj := HY.out.1.below hB
            have kF := A9.Fault_any hYj.wk.ar
            rw [HY.out.2.1.bad] at kF
            have kN := A9.Count_any hYj.wk.ar
            unfold cntV at kN
            rw [e1, e2, e3, bl, ← hqs] at kN
            have hq6 : (q : Int) ≤ 65536 := by omega
            have hq7 : q ≤ 65536 := by omega
            have HB : Hid (Below w.heap.size w wj ∧ HTab wj) := ⟨below_then HY.out.1.wk.low hB, (HT.out.below HY.out.1.wk.low).below hB⟩
            obtain ⟨f, hf⟩ : ∃ f, wrap64 (wrap64 ((c : Int) - (q : Int)) - (r : Int)) = f := ⟨_, rfl⟩
            rw [hf] at kN
            have fl6 := fun wx => fldL2 (c : Int) (q : Int) (r : Int) f wx
            clear hYj hB hqs bl e1 e2 e3 hf
            go_wp2_with fail
            refine kF.mono ?_
            rintro e w4 ⟨rfl, rfl⟩
            go_wp2_with fail
            refine kN.mono ?_
            rintro e w5 ⟨rfl, hb5⟩
            have HB5 : Hid (Below w.heap.size w w5 ∧ HTab w5) := ⟨below_then HB.out.1 hb5, HB.out.2.below hb5⟩
            clear hb5 kN kF
            go_wp2_with fail
            refine (ka _ HB5.out.2).mono ?_
            rintro e w6 ⟨rfl, hb6⟩
            go_wp2_with fail
            go_ret
            exact ⟨rfl, below_then HB5.out.1 hb6⟩
end Go.Proofs.YtiedoeifpmfbbaaDoor
