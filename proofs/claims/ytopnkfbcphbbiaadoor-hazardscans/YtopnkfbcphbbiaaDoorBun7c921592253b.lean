/-
  Helpers: F0FrH, F0FrI, S1Sp.
-/
import Derived.Test.YtopnkfbcphbbiaaDoorBune58704d09cd2
import Derived.Test.YtopnkfbcphbbiaaDoorBun7ff973b94fcb
namespace Go.Proofs.YtopnkfbcphbbiaaDoor.F0
open Go.RowKit
open A9 (Ab ArAt ArMem FrA Ar rawA setRawA swapRawA Left9 ptrA)
open H8 (HTab below_then)

section
variable {q : Nat} {w : World} {p : Pl5} {b : Int} {t : Tn} {B : Ab} {s : Ar}
def NewPuPost (w : World) (p : Pl5) (b word : Int) (e : Ending) (w' : World) : Prop := ∃ q, e = .returned (.pointer (some ⟨q, 0, none⟩)) ∧ PuAt q w' p b ⟨word, 0, 0, 0⟩ ∧ Below w.heap.size w w' ∧ w.heap.size ≤ q
def NewPoPost (w : World) (p : Pl5) (word : Int) (e : Ending) (w' : World) : Prop := ∃ q, e = .returned (.pointer (some ⟨q, 0, none⟩)) ∧ PoAt q w' p ⟨word, 0, 0, 0⟩ ∧ Below w.heap.size w w' ∧ w.heap.size ≤ q
def plBox (p : Pl5) : Obj := .cells #[.int .i64 p.wk, .int .i64 p.hd, .int .i64 p.ln, .int .i64 p.gn, .int .i64 p.cv] 26 (0, 0)
def plS (g : Nat) (p : Pl5) (w : World) : Prop := w.cell? ⟨g, 0, none⟩ = some (.int .i64 p.wk) ∧ w.cell? ⟨g, 1, none⟩ = some (.int .i64 p.hd) ∧ w.cell? ⟨g, 2, none⟩ = some (.int .i64 p.ln) ∧ w.cell? ⟨g, 3, none⟩ = some (.int .i64 p.gn) ∧ w.cell? ⟨g, 4, none⟩ = some (.int .i64 p.cv)
theorem plS_of {g : Nat} {p : Pl5} {w : World} (h : w.heap[g]? = some (plBox p)) : plS g p w := ⟨cell_of_row _ _ _ _ _ _ h, cell_of_row _ _ _ _ _ _ h, cell_of_row _ _ _ _ _ _ h, cell_of_row _ _ _ _ _ _ h, cell_of_row _ _ _ _ _ _ h⟩
theorem plS.alloc {g : Nat} {p : Pl5} {w : World} (h : plS g p w) (o : Obj) : plS g p (w.alloc o) := by
  have hl := block_lt_of_cell h.1
  have e : ∀ f, (w.alloc o).cell? ⟨g, f, none⟩ = w.cell? ⟨g, f, none⟩ := fun f => World.cell?_of_block (w := w) (Below.heap_alloc _ _ _ hl)
  exact ⟨(e 0).trans h.1, (e 1).trans h.2.1, (e 2).trans h.2.2.1, (e 3).trans h.2.2.2.1, (e 4).trans h.2.2.2.2⟩
theorem below_next {n : Nat} {a b c : World} (h : Below n a b) (hn : n ≤ b.heap.size) (k : Below b.heap.size b c) : Below n a c := ⟨k.os.trans h.os, k.tape.trans h.tape, k.output.trans h.output, Nat.le_trans h.size k.size, fun i hi => (k.block i (by omega)).trans (h.block i hi)⟩
theorem newPuEnd (p : Pl5) (m H : Int) {g : Nat} {w X : World} (HG : Hid (g = w.heap.size)) (hb : Below g w X) : NewPuPost w p m H (.returned (.pointer (some ⟨X.heap.size, 0, none⟩))) (X.alloc (.cells (puB p m ⟨H, 0, 0, 0⟩) 115 (0, 0))) := by
  obtain rfl : g = w.heap.size := HG.out
  exact ⟨_, rfl, (Go.MapKept.heap_alloc X _).1, hb.alloc hb.size _, hb.size⟩
theorem newPoEnd (p : Pl5) (H : Int) {g : Nat} {w X : World} (HG : Hid (g = w.heap.size)) (hb : Below g w X) : NewPoPost w p H (.returned (.pointer (some ⟨X.heap.size, 0, none⟩))) (X.alloc (.cells (poB p ⟨H, 0, 0, 0⟩) 105 (0, 0))) := by
  obtain rfl : g = w.heap.size := HG.out
  exact ⟨_, rfl, (Go.MapKept.heap_alloc X _).1, hb.alloc hb.size _, hb.size⟩
theorem NewPush_any (p : Pl5) (k c b : Int) (h0 : 0 ≤ b) (h1 : b ≤ 1000000) (w : World) : Calls Tryd.prog 64 #[p.v, .int .i64 k, .int .i64 c, .int .i64 b] w (NewPuPost w p (b / 8 + 1) (headF p k c)) := by
  have hh := fun wx => head_any p k c wx
  have hm := fun wx => mark_any b h0 h1 wx
  have hB0 : (w.alloc (plBox p)).heap[w.heap.size]? = some (plBox p) := (Go.MapKept.heap_alloc w _).1
  have hb0 : Below w.heap.size w (w.alloc (plBox p)) := (Below.refl _ _).alloc (Nat.le_refl _) _
  have hlt := lt_of_block hB0
  have ha : w.alloc (.cells #[.int .i64 p.wk, .int .i64 p.hd, .int .i64 p.ln, .int .i64 p.gn, .int .i64 p.cv] 26 (0, 0)) = w.alloc (plBox p) := rfl
  unfold Pl5.v at hh ⊢
  generalize headF p k c = H at *
  generalize b / 8 + 1 = m at *
  go_enter Tryd.func64, Tryd.ntmps64
  go_wp2_with fail
  generalize w.alloc (plBox p) = W at *
  obtain ⟨g, HG⟩ : ∃ g, Hid (g = w.heap.size) := ⟨_, rfl⟩
  rw [← (HG.out : g = w.heap.size)] at hB0 hb0 hlt ⊢
  clear ha
  have c0 : plS g p W := plS_of hB0
  go_region_held3 (fun w' => w'.cell? ⟨g, 0, none⟩ = some (.int .i64 p.wk) ∧ w'.cell? ⟨g, 1, none⟩ = some (.int .i64 p.hd) ∧ w'.cell? ⟨g, 2, none⟩ = some (.int .i64 p.ln) ∧ w'.cell? ⟨g, 3, none⟩ = some (.int .i64 p.gn) ∧ w'.cell? ⟨g, 4, none⟩ = some (.int .i64 p.cv)) (first | exact c0 | exact c1 | exact plS.alloc c1 _) (first
    | (go_at_call 40; refine (hh _).mono ?_; rintro e w1 ⟨rfl, hb1⟩; have hb2 : Below W.heap.size W w1 := (by first | exact hb1 | exact below_then (Below.refl _ _).drew hb1); have c1 : plS g p w1 := plS_of ((hb2.block g hlt).trans hB0))
    | (go_at_call 74; refine (hm _).mono ?_; rintro e w2 ⟨rfl, rfl⟩))
  all_goals
    have HE := newPuEnd p m H HG (below_next hb0 (Nat.le_of_lt hlt) hb2)
    go_wp2_with fail
    go_ret
    exact HE
theorem NewPop_any (p : Pl5) (k c : Int) (w : World) : Calls Tryd.prog 55 #[p.v, .int .i64 k, .int .i64 c] w (NewPoPost w p (headF p k c)) := by
  have hh := fun wx => head_any p k c wx
  have hB0 : (w.alloc (plBox p)).heap[w.heap.size]? = some (plBox p) := (Go.MapKept.heap_alloc w _).1
  have hb0 : Below w.heap.size w (w.alloc (plBox p)) := (Below.refl _ _).alloc (Nat.le_refl _) _
  have hlt := lt_of_block hB0
  have ha : w.alloc (.cells #[.int .i64 p.wk, .int .i64 p.hd, .int .i64 p.ln, .int .i64 p.gn, .int .i64 p.cv] 26 (0, 0)) = w.alloc (plBox p) := rfl
  unfold Pl5.v at hh ⊢
  generalize headF p k c = H at *
  go_enter Tryd.func55, Tryd.ntmps55
  go_wp2_with fail
  generalize w.alloc (plBox p) = W at *
  obtain ⟨g, HG⟩ : ∃ g, Hid (g = w.heap.size) := ⟨_, rfl⟩
  rw [← (HG.out : g = w.heap.size)] at hB0 hb0 hlt ⊢
  clear ha
  have c0 : plS g p W := plS_of hB0
  go_region_held3 (fun w' => w'.cell? ⟨g, 0, none⟩ = some (.int .i64 p.wk) ∧ w'.cell? ⟨g, 1, none⟩ = some (.int .i64 p.hd) ∧ w'.cell? ⟨g, 2, none⟩ = some (.int .i64 p.ln) ∧ w'.cell? ⟨g, 3, none⟩ = some (.int .i64 p.gn) ∧ w'.cell? ⟨g, 4, none⟩ = some (.int .i64 p.cv)) (first | exact c0 | exact c1 | exact plS.alloc c1 _) (first
    | (go_at_call 40; refine (hh _).mono ?_; rintro e w1 ⟨rfl, hb1⟩; have hb2 : Below W.heap.size W w1 := (by first | exact hb1 | exact below_then (Below.refl _ _).drew hb1); have c1 : plS g p w1 := plS_of ((hb2.block g hlt).trans hB0)))
  all_goals
    have HE := newPoEnd p H HG (below_next hb0 (Nat.le_of_lt hlt) hb2)
    go_wp2_with fail
    go_ret
    exact HE
/-- what was popped -/
def baseF (t : Tn) : Int × Bool := if t.ph = 3 ∧ codF t.h ≠ 0 then (unmF (codF t.h), true) else (0, false)
theorem Base_any (hP : PoAt q w p t) : Calls Tryd.prog 57 #[.pointer (some ⟨q, 0, none⟩)] w fun e w' => e = .returned (.tuple #[.int .i64 (baseF t).1, .bool (baseF t).2]) ∧ w' = w := by
  have c1 : w.cell? ⟨q, 1, none⟩ = some (.int .i64 t.ph) := hP.cell 1
  have c2 : w.cell? ⟨q, 2, none⟩ = some (.int .i64 t.h) := hP.cell 2
  have hf := fun wx => firstOf_any t.h wx
  have hi := fun wx => poIdle_any (w := wx) ⟨q, 0, none⟩ (codF t.h)
  have hu := fun wx => unmark_any (codF t.h) wx
  unfold baseF
  generalize unmF (codF t.h) = U at *
  generalize codF t.h = c at *
  clear hP
  by_cases h3 : t.ph = 3
  · have d3 : (t.ph != 3) = false := by simp [h3]
    by_cases hc : c = 0
    · rw [if_neg (by simp [hc])]
      have dc : (c == 0) = true := by simp [hc]
      clear h3 hc
      go_enter Tryd.func57, Tryd.ntmps57
      go_wp2_with (first | (go_at_call 39; refine (hf _).mono ?_; rintro e w1 ⟨rfl, rfl⟩) | (go_at_call 69; refine (hi _).mono ?_; rintro e w1 ⟨rfl, rfl⟩))
      go_ret2
      exact ⟨rfl, rfl⟩
    · rw [if_pos ⟨h3, hc⟩]
      have dc : (c == 0) = false := by simpa using hc
      clear h3 hc
      go_enter Tryd.func57, Tryd.ntmps57
      go_wp2_with (first | (go_at_call 39; refine (hf _).mono ?_; rintro e w1 ⟨rfl, rfl⟩) | (go_at_call 69; refine (hi _).mono ?_; rintro e w1 ⟨rfl, rfl⟩) | (go_at_call 41; refine (hu _).mono ?_; rintro e w1 ⟨rfl, rfl⟩))
      go_ret2
      exact ⟨rfl, rfl⟩
  · rw [if_neg (by simp [h3])]
    have d3 : (t.ph != 3) = true := by simpa using h3
    clear h3
    go_enter Tryd.func57, Tryd.ntmps57
    go_wp2_with (first | (go_at_call 39; refine (hf _).mono ?_; rintro e w1 ⟨rfl, rfl⟩) | (go_at_call 69; refine (hi _).mono ?_; rintro e w1 ⟨rfl, rfl⟩))
    go_ret2
    exact ⟨rfl, rfl⟩
/-- where raw words stand, of so many words -/
def plF (k n : Int) : Pl5 := ⟨max k 0, 0, 4 * max k 0, 4 * max k 0 + (max n 0 + 7) / 8, 4 * max k 0 + (max n 0 + 7) / 8 + (max n 0 + 7) / 8⟩
theorem Raw_any (k n : Int) (hk : k ≤ 1000000) (hn : n ≤ 1000000) (w : World) : Calls Tryd.prog 21 #[.int .i64 k, .int .i64 n] w fun e w' => e = .returned (.tuple #[(plF k n).v, .int .i64 ((plF k n).cv + 1)]) ∧ Below w.heap.size w w' := by
  unfold Pl5.v plF
  obtain ⟨K, h1⟩ : ∃ K, Hid (K = max k 0) := ⟨_, rfl⟩
  obtain ⟨K4, h2⟩ : ∃ K, Hid (K = 4 * max k 0) := ⟨_, rfl⟩
  obtain ⟨KG, h3⟩ : ∃ K, Hid (K = 4 * max k 0 + (max n 0 + 7) / 8) := ⟨_, rfl⟩
  obtain ⟨KC, h4⟩ : ∃ K, Hid (K = 4 * max k 0 + (max n 0 + 7) / 8 + (max n 0 + 7) / 8) := ⟨_, rfl⟩
  obtain ⟨K1, h5⟩ : ∃ K, Hid (K = 4 * max k 0 + (max n 0 + 7) / 8 + (max n 0 + 7) / 8 + 1) := ⟨_, rfl⟩
  show Calls _ _ _ _ (fun e w' => e = .returned (.tuple #[.agg #[.int .i64 (max k 0), .int .i64 0, .int .i64 (4 * max k 0), .int .i64 (4 * max k 0 + (max n 0 + 7) / 8), .int .i64 (4 * max k 0 + (max n 0 + 7) / 8 + (max n 0 + 7) / 8)], .int .i64 (4 * max k 0 + (max n 0 + 7) / 8 + (max n 0 + 7) / 8 + 1)]) ∧ Below w.heap.size w w')
  rw [← h5.out, ← h4.out, ← h3.out, ← h2.out, ← h1.out]
  go_enter Tryd.func21, Tryd.ntmps21
  go_wp2_with fail
  all_goals
    go_region
    all_goals
      go_wp2_with fail
      refine bodyPost_ret (v := .tuple #[.agg #[.int .i64 K, .int .i64 0, .int .i64 K4, .int .i64 KG, .int .i64 KC], .int .i64 K1]) ?_ rfl ⟨rfl, ?_⟩
      · simp [results, Tryd.results21, go_sem]
        simp only [Hid] at h1 h2 h3 h4 h5
        omega
      · repeat (first | exact Below.refl _ _ | refine Below.drew ?_ | refine Below.alloc ?_ (by simp; try omega) _ | refine Below.setCell ?_ (by simp; try omega) _)
end
end Go.Proofs.YtopnkfbcphbbiaaDoor.F0
namespace Go.Proofs.YtopnkfbcphbbiaaDoor.F0
open Go.RowKit
open A9 (Ab ArAt ArMem FrA Ar rawA setRawA swapRawA useA inR upN upN_same upN_other)

def upH (f : Nat → Int) (k : Nat) (v : Int) : Nat → Int := fun j => if j = k then v else f j
theorem upH_same (f : Nat → Int) (k : Nat) (v : Int) : upH f k v k = v := if_pos rfl
theorem upH_other (f : Nat → Int) {k j : Nat} (v : Int) (h : j ≠ k) : upH f k v j = f j := if_neg h
structure RwL (K M : Nat) (s : Ar) (hd lk : Nat → Int) : Prop where
  fit : K + M ≤ s.nr
  big : K + M ≤ 65536
  hds : ∀ k, k < K → s.raw k = hd k
  lks : ∀ b, b < M → s.raw (K + b) = lk b
/-- heads from 0 on, links behind them -/
def PlK (K : Nat) (p : Pl5) : Prop := p.hd = 0 ∧ p.ln = K
theorem headF_eq {K : Nat} {p : Pl5} (hp : PlK K p) {a c : Int} (h1 : 0 ≤ a) (h2 : a ≤ 65536) (h3 : 0 ≤ c) (h4 : c < 4) : headF p a c = 4 * a + c := by
  unfold headF wrap64
  rw [hp.1]
  omega
theorem linkF_eq {K : Nat} {p : Pl5} (hp : PlK K p) (hK : K ≤ 65536) {m : Int} (h1 : 0 ≤ m) (h2 : m ≤ 131072) : linkF p m = K + m - 1 := by
  unfold linkF wrap64
  rw [hp.2]
  omega
theorem unmF_eq {m : Int} (h1 : 0 ≤ m) (h2 : m ≤ 131072) : unmF m = 8 * (m - 1) := by
  unfold unmF wrap64
  omega
theorem trnF_eq {h m : Int} (h1 : 0 ≤ tagF h) (h2 : tagF h ≤ 1000000000) (h3 : 0 ≤ m) (h4 : m < 131072) : trnF h m = mkF (tagF h + 1) m := by
  unfold tagF at h1 h2
  unfold trnF mkF tagF codF wrap64
  omega
def linkS (K : Nat) (s : Ar) (b : Nat) (x : Int) : Ar := { useA s with raw := upN s.raw (K + b) x }
def headS (s : Ar) (k : Nat) (x : Int) : Ar := { useA s with raw := upN s.raw k x }
section
variable {K M : Nat} {s : Ar} {hd lk : Nat → Int} {p : Pl5} {k b : Nat}
theorem RwL.use (h : RwL K M s hd lk) : RwL K M (useA s) hd lk := ⟨h.fit, h.big, h.hds, h.lks⟩
theorem RwL.link (h : RwL K M s hd lk) (b : Nat) (x : Int) : RwL K M (linkS K s b x) hd (upL lk b x) := by
  refine ⟨h.fit, h.big, fun k hk => ?_, fun j hj => ?_⟩
  · show upN s.raw (K + b) x k = _
    rw [upN_other _ _ (by omega)]
    exact h.hds k hk
  · show upN s.raw (K + b) x (K + j) = _
    by_cases e : j = b
    · subst e
      rw [upN_same, upL_same]
    · rw [upN_other _ _ (by omega), upL_other _ _ e]
      exact h.lks j hj
theorem RwL.head (h : RwL K M s hd lk) (hk : k < K) (x : Int) : RwL K M (headS s k x) (upH hd k x) lk := by
  refine ⟨h.fit, h.big, fun j hj => ?_, fun j hj => ?_⟩
  · show upN s.raw k x j = _
    by_cases e : j = k
    · subst e
      rw [upN_same, upH_same]
    · rw [upN_other _ _ e, upH_other _ _ e]
      exact h.hds j hj
  · show upN s.raw k x (K + j) = _
    rw [upN_other _ _ (by omega)]
    exact h.lks j hj
theorem rawA_head (h : RwL K M s hd lk) (hk : k < K) : rawA s (k : Int) = (useA s, hd k) := by
  have hi : inR s (k : Int) := ⟨by omega, by have := h.fit; omega⟩
  unfold rawA
  rw [if_pos hi, Int.toNat_natCast, h.hds k hk]
theorem rawA_link (h : RwL K M s hd lk) (hp : PlK K p) (hb : b < M) : rawA s (linkF p ((b : Int) + 1)) = (useA s, lk b) := by
  have hf := h.fit
  have hg := h.big
  rw [linkF_eq hp (by omega) (by omega) (by omega), show (K : Int) + ((b : Int) + 1) - 1 = ((K + b : Nat) : Int) by omega]
  have hi : inR s ((K + b : Nat) : Int) := ⟨by omega, by omega⟩
  unfold rawA
  rw [if_pos hi, Int.toNat_natCast, h.lks b hb]
theorem setRaw_link (h : RwL K M s hd lk) (hp : PlK K p) (hb : b < M) (x : Int) : setRawA s (linkF p ((b : Int) + 1)) x = linkS K s b x := by
  have hf := h.fit
  have hg := h.big
  rw [linkF_eq hp (by omega) (by omega) (by omega), show (K : Int) + ((b : Int) + 1) - 1 = ((K + b : Nat) : Int) by omega]
  have hi : inR s ((K + b : Nat) : Int) := ⟨by omega, by omega⟩
  unfold setRawA linkS
  rw [if_pos hi, Int.toNat_natCast]
theorem swap_head (h : RwL K M s hd lk) (hk : k < K) (old now : Int) : swapRawA s (k : Int) old now = if hd k = old then (headS s k now, true) else (useA s, false) := by
  have hi : inR s (k : Int) := ⟨by omega, by have := h.fit; omega⟩
  unfold swapRawA headS
  rw [if_pos hi, Int.toNat_natCast, h.hds k hk]
/-- a push's steps -/
theorem pu_read (h : RwL K M s hd lk) (hk : k < K) (m x : Int) (bb : Int) : puStep p bb s ⟨k, 0, x, m⟩ = (useA s, ⟨k, 1, hd k, m⟩, false) := by
  unfold puStep
  rw [if_neg (by intro e; cases e), if_neg (by intro e; cases e), if_neg (by intro e; cases e), rawA_head h hk]
theorem pu_link (h : RwL K M s hd lk) (hp : PlK K p) (hb : b < M) (m x : Int) : puStep p ((b : Int) + 1) s ⟨k, 1, x, m⟩ = (linkS K s b (codF x), ⟨k, 2, x, (b : Int) + 1⟩, false) := by
  unfold puStep
  rw [if_pos rfl, setRaw_link h hp hb]
theorem swapT_eq (h : RwL K M s hd lk) (hk : k < K) (m x : Int) : swapT s ⟨k, 2, x, m⟩ = if hd k = x then (headS s k (trnF x m), ⟨k, 3, x, m⟩, true) else (useA s, ⟨k, 0, x, m⟩, false) := by
  unfold swapT
  simp only [swap_head h hk]
  by_cases e : hd k = x
  · rw [if_pos e, if_pos e]
  · rw [if_neg e, if_neg e]
theorem pu_swap (h : RwL K M s hd lk) (hk : k < K) (m x bb : Int) : puStep p bb s ⟨k, 2, x, m⟩ = if hd k = x then (headS s k (trnF x m), ⟨k, 3, x, m⟩, true) else (useA s, ⟨k, 0, x, m⟩, false) := by
  unfold puStep
  rw [if_neg (by intro e; cases e), if_pos rfl]
  exact swapT_eq h hk m x
theorem pu_end (t : Tn) (ht : t.ph = 3) (bb : Int) : puStep p bb s t = (s, t, true) := by
  unfold puStep
  rw [if_neg (by omega), if_neg (by omega), if_pos ht]
/-- a pop's steps -/
theorem po_read (h : RwL K M s hd lk) (hk : k < K) (m x : Int) : poStep p s ⟨k, 0, x, m⟩ = if codF (hd k) = 0 then (useA s, ⟨k, 3, hd k, m⟩, true) else (useA s, ⟨k, 1, hd k, m⟩, false) := by
  unfold poStep
  rw [if_neg (by intro e; cases e), if_neg (by intro e; cases e), if_neg (by intro e; cases e), rawA_head h hk]
theorem po_link (h : RwL K M s hd lk) (hp : PlK K p) (hb : b < M) (m x : Int) (hx : codF x = (b : Int) + 1) : poStep p s ⟨k, 1, x, m⟩ = (useA s, ⟨k, 2, x, lk b⟩, false) := by
  unfold poStep
  rw [if_pos rfl, hx, rawA_link h hp hb]
theorem po_swap (h : RwL K M s hd lk) (hk : k < K) (m x : Int) : poStep p s ⟨k, 2, x, m⟩ = if hd k = x then (headS s k (trnF x m), ⟨k, 3, x, m⟩, true) else (useA s, ⟨k, 0, x, m⟩, false) := by
  unfold poStep
  rw [if_neg (by intro e; cases e), if_pos rfl]
  exact swapT_eq h hk m x
theorem po_end (t : Tn) (ht : t.ph = 3) : poStep p s t = (s, t, true) := by
  unfold poStep
  rw [if_neg (by omega), if_neg (by omega), if_pos ht]
end
/-! ### many lists -/
structure Lst (K M : Nat) (s : Ar) (hd lk : Nat → Int) (ls : Nat → List Nat) (T : Nat) : Prop extends RwL K M s hd lk where
  L : ∀ k, k < K → Ls M (hd k) lk (ls k)
  two : ∀ j k b, j < K → k < K → j ≠ k → b ∈ ls j → b ∉ ls k
  tg : ∀ k, k < K → tagF (hd k) ≤ T
def upLs (f : Nat → List Nat) (k : Nat) (v : List Nat) : Nat → List Nat := fun j => if j = k then v else f j
theorem upLs_same (f : Nat → List Nat) (k : Nat) (v : List Nat) : upLs f k v k = v := if_pos rfl
theorem upLs_other (f : Nat → List Nat) {k j : Nat} (v : List Nat) (h : j ≠ k) : upLs f k v j = f j := if_neg h
section
variable {K M T : Nat} {s : Ar} {hd lk : Nat → Int} {ls : Nat → List Nat} {p : Pl5} {k b : Nat}
theorem Lst.use (h : Lst K M s hd lk ls T) : Lst K M (useA s) hd lk ls T := ⟨h.toRwL.use, h.L, h.two, h.tg⟩
theorem Lst.wide (h : Lst K M s hd lk ls T) {T' : Nat} (hT : T ≤ T') : Lst K M s hd lk ls T' := ⟨h.toRwL, h.L, h.two, fun k hk => by have := h.tg k hk; omega⟩
/-- a push by itself: three steps -/
def pushS (K : Nat) (s : Ar) (hd : Nat → Int) (k b : Nat) : Ar := headS (linkS K (useA s) b (codF (hd k))) k (trnF (hd k) ((b : Int) + 1))
theorem push3 (h : Lst K M s hd lk ls T) (hp : PlK K p) (hk : k < K) (hb : b < M) (m x : Int) :
    puStep p ((b : Int) + 1) s ⟨k, 0, x, m⟩ = (useA s, ⟨k, 1, hd k, m⟩, false) ∧
    puStep p ((b : Int) + 1) (useA s) ⟨k, 1, hd k, m⟩ = (linkS K (useA s) b (codF (hd k)), ⟨k, 2, hd k, (b : Int) + 1⟩, false) ∧
    puStep p ((b : Int) + 1) (linkS K (useA s) b (codF (hd k))) ⟨k, 2, hd k, (b : Int) + 1⟩ = (pushS K s hd k b, ⟨k, 3, hd k, (b : Int) + 1⟩, true) := by
  refine ⟨pu_read h.toRwL hk m x _, pu_link h.use.toRwL hp hb m _, ?_⟩
  rw [pu_swap (h.use.toRwL.link b _) hk _ _ _, if_pos rfl]
  rfl
theorem Lst.push (h : Lst K M s hd lk ls T) (hT : T ≤ 1000000) (hk : k < K) (hb : b < M) (hno : ∀ j, j < K → b ∉ ls j) :
    Lst K M (pushS K s hd k b) (upH hd k (mkF (tagF (hd k) + 1) ((b : Int) + 1))) (upL lk b (codF (hd k))) (upLs ls k (b :: ls k)) (T + 1) := by
  have hL := h.L k hk
  have ht0 := hL.tag
  have ht1 := h.tg k hk
  have hbig := h.big
  have hc : codF (hd k) ≤ M := hL.cod
  have hcb := cod_bd (hd k)
  have hM : M < 131072 := by omega
  have et : trnF (hd k) ((b : Int) + 1) = mkF (tagF (hd k) + 1) ((b : Int) + 1) := trnF_eq ht0 (by omega) (by omega) (by omega)
  have hR : RwL K M (pushS K s hd k b) (upH hd k (mkF (tagF (hd k) + 1) ((b : Int) + 1))) (upL lk b (codF (hd k))) := by
    unfold pushS
    rw [et]
    exact (h.use.toRwL.link b _).head hk _
  refine ⟨hR, fun j hj => ?_, fun i j c hi hj hij hc1 => ?_, fun j hj => ?_⟩
  · by_cases e : j = k
    · subst e
      rw [upH_same, upLs_same]
      have hl := hL.link (hno j hj) (x := codF (hd j)) ⟨hcb.1, hc⟩
      have hpu : PuOk M (hd j) (upL lk b (codF (hd j))) ⟨b, 2, hd j⟩ := ⟨hb, fun _ => ⟨Old.now _, hc⟩, fun _ => upL_same _ _ _, Nat.le_refl _⟩
      exact hl.push hM hpu rfl rfl (hno j hj)
    · rw [upH_other _ _ e, upLs_other _ _ e]
      exact (h.L j hj).link (hno j hj) ⟨hcb.1, hc⟩
  · by_cases e : i = k
    · subst e
      rw [upLs_same] at hc1
      rw [upLs_other _ _ (Ne.symm hij)]
      rcases List.mem_cons.1 hc1 with rfl | h2
      · exact hno j hj
      · exact h.two i j c hi hj hij h2
    · rw [upLs_other _ _ e] at hc1
      by_cases e2 : j = k
      · subst e2
        rw [upLs_same]
        intro h3
        rcases List.mem_cons.1 h3 with rfl | h4
        · exact hno i hi hc1
        · exact h.two i j c hi hj hij hc1 h4
      · rw [upLs_other _ _ e2]
        exact h.two i j c hi hj hij hc1
  · by_cases e : j = k
    · subst e
      rw [upH_same, tag_mk (by omega) (by omega)]
      omega
    · rw [upH_other _ _ e]
      have := h.tg j hj
      omega
/-- a pop by itself, of an empty list: a step; of another: three -/
theorem pop1 (h : Lst K M s hd lk ls T) (hk : k < K) (hl : ls k = []) (m x : Int) : poStep p s ⟨k, 0, x, m⟩ = (useA s, ⟨k, 3, hd k, m⟩, true) ∧ baseF ⟨k, 3, hd k, m⟩ = (0, false) := by
  have e : codF (hd k) = 0 := by rw [(h.L k hk).head, hl]; rfl
  refine ⟨by rw [po_read h.toRwL hk, if_pos e], ?_⟩
  unfold baseF
  rw [if_neg (by simp [e])]
def popS (s : Ar) (hd lk : Nat → Int) (k b : Nat) : Ar := headS (useA (useA s)) k (trnF (hd k) (lk b))
theorem pop3 (h : Lst K M s hd lk ls T) (hp : PlK K p) (hk : k < K) {r : List Nat} (hl : ls k = b :: r) (m x : Int) :
    poStep p s ⟨k, 0, x, m⟩ = (useA s, ⟨k, 1, hd k, m⟩, false) ∧
    poStep p (useA s) ⟨k, 1, hd k, m⟩ = (useA (useA s), ⟨k, 2, hd k, lk b⟩, false) ∧
    poStep p (useA (useA s)) ⟨k, 2, hd k, lk b⟩ = (popS s hd lk k b, ⟨k, 3, hd k, lk b⟩, true) ∧ baseF ⟨k, 3, hd k, lk b⟩ = (8 * (b : Int), true) := by
  have e : codF (hd k) = (b : Int) + 1 := by rw [(h.L k hk).head, hl]; rfl
  have hb : b < M := (h.L k hk).lt b (by rw [hl]; simp)
  have hg := h.big
  refine ⟨by rw [po_read h.toRwL hk, if_neg (by omega)], po_link h.use.toRwL hp hb m _ e, ?_, ?_⟩
  · rw [po_swap h.use.use.toRwL hk _ _, if_pos rfl]
    rfl
  · unfold baseF
    rw [if_pos ⟨rfl, by simp only; omega⟩]
    simp only [e]
    rw [unmF_eq (by omega) (by omega), show 8 * ((b : Int) + 1 - 1) = 8 * (b : Int) by omega]
theorem Lst.pop (h : Lst K M s hd lk ls T) (hT : T ≤ 1000000) (hk : k < K) {r : List Nat} (hl : ls k = b :: r) :
    Lst K M (popS s hd lk k b) (upH hd k (mkF (tagF (hd k) + 1) (lk b))) lk (upLs ls k r) (T + 1) := by
  have hL := h.L k hk
  have ht0 := hL.tag
  have ht1 := h.tg k hk
  have hbig := h.big
  have hcb := cod_bd (hd k)
  have hc : codF (hd k) = (b : Int) + 1 := by rw [hL.head, hl]; rfl
  have hb : b < M := hL.lt b (by rw [hl]; simp)
  have hlb := hL.lb b hb
  have hpo : PoOk M (hd k) lk ⟨2, hd k, lk b⟩ := ⟨fun _ => ⟨Old.now _, by simp only; omega, hL.cod⟩, fun _ => ⟨fun _ => by simp only; rw [show (codF (hd k) - 1).toNat = b by omega], hlb⟩, Nat.le_refl _⟩
  obtain ⟨b', r', e1, e2, h2⟩ := hL.pop (by omega) hpo rfl rfl
  have e3 : b' = b ∧ r' = r := by rw [hl] at e1; simpa using e1.symm
  obtain ⟨rfl, rfl⟩ := e3
  have et : trnF (hd k) (lk b') = mkF (tagF (hd k) + 1) (lk b') := trnF_eq ht0 (by omega) (by omega) (by omega)
  have hR : RwL K M (popS s hd lk k b') (upH hd k (mkF (tagF (hd k) + 1) (lk b'))) lk := by
    unfold popS
    rw [et]
    exact h.use.use.toRwL.head hk _
  have hsub : ∀ c, c ∈ r' → c ∈ ls k := fun c hc => by rw [hl]; exact List.mem_cons_of_mem _ hc
  refine ⟨hR, fun j hj => ?_, fun i j c hi hj hij hc1 => ?_, fun j hj => ?_⟩
  · by_cases e : j = k
    · subst e
      rw [upH_same, upLs_same]
      exact h2
    · rw [upH_other _ _ e, upLs_other _ _ e]
      exact h.L j hj
  · by_cases e : i = k
    · subst e
      rw [upLs_same] at hc1
      rw [upLs_other _ _ (Ne.symm hij)]
      exact h.two i j c hi hj hij (hsub c hc1)
    · rw [upLs_other _ _ e] at hc1
      by_cases e2 : j = k
      · subst e2
        rw [upLs_same]
        exact fun h3 => h.two i j c hi hj hij hc1 (hsub c h3)
      · rw [upLs_other _ _ e2]
        exact h.two i j c hi hj hij hc1
  · by_cases e : j = k
    · subst e
      rw [upH_same, tag_mk (by omega) (by omega)]
      omega
    · rw [upH_other _ _ e]
      have := h.tg j hj
      omega
end
end Go.Proofs.YtopnkfbcphbbiaaDoor.F0
namespace Go.Proofs.YtopnkfbcphbbiaaDoor.S1
open Go.RowKit
open H8 (okP packV opA opB opC isH sizeF szT open_pack)
open A9 (Ab ArAt ArMem FrA Ar rawA setRawA swapRawA addRawA useA inR upN upN_same upN_other upI upI_same upI_other Ok9 okB bornS bornA retireS retireA diedS diedA bN zN inS zN_bd bN_bd opC_bd bN_pack zN_pack opB_pack isH_pack isH_parts)
open F0 (upH upH_same upH_other upL upL_same upL_other upLs upLs_same upLs_other upO upO_same upO_other RwL headS linkS Ls Pu Po PuOk PoOk Old tagF codF mkF tag_mk cod_mk cod_bd nxt sumN sumN_up sumN_ge sumN_two Chn Pl5 PlK)

/-- grains of a class -/
def zg (c : Nat) : Nat := 2 ^ c
theorem zg_bd {c : Nat} (h : c < 4) : 1 ≤ zg c ∧ zg c ≤ 8 := by
  rcases (by omega : c = 0 ∨ c = 1 ∨ c = 2 ∨ c = 3) with rfl | rfl | rfl | rfl <;> decide
theorem size_zg {c : Nat} (h : c < 4) : sizeF (c : Int) = 8 * (zg c : Int) := by
  rcases (by omega : c = 0 ∨ c = 1 ∨ c = 2 ∨ c = 3) with rfl | rfl | rfl | rfl <;> decide
/-- the class, the grain of a name -/
def clN (h : Int) : Nat := (opC h).toNat
def grN (h : Int) : Nat := bN h / 8
theorem clN_lt (h : Int) : clN h < 4 := by
  have := opC_bd h
  unfold clN; omega
theorem zN_zg (h : Int) : zN h = 8 * zg (clN h) := by
  have h1 := clN_lt h
  have h2 := opC_bd h
  have h3 := size_zg h1
  unfold zN
  rw [show opC h = ((clN h : Nat) : Int) by unfold clN; omega, h3]
  omega
/-- the name of the slot at a grain -/
def nmV (b : Nat) (g : Int) (c : Nat) : Int := packV (8 * (b : Int)) g c
theorem nm_ok {b c : Nat} {g : Int} (hb : b < 8192) (hg : 1 ≤ g) (hg2 : g ≤ 1073741823) (hc : c < 4) : okP (8 * (b : Int)) g c := ⟨by omega, by omega, hg, hg2, by omega, by omega⟩
section
variable {b c : Nat} {g : Int} (hb : b < 8192) (hg : 1 ≤ g) (hg2 : g ≤ 1073741823) (hc : c < 4)
theorem nm_b : okP (8 * (b : Int)) g c → bN (nmV b g c) = 8 * b := fun h => by
  unfold nmV
  rw [bN_pack h]
  omega
theorem nm_gr : okP (8 * (b : Int)) g c → grN (nmV b g c) = b := fun h => by
  unfold grN
  rw [nm_b h]
  omega
theorem nm_cl : okP (8 * (b : Int)) g c → clN (nmV b g c) = c := fun h => by
  unfold clN nmV
  rw [(open_pack h).2.2]
  omega
theorem nm_g : okP (8 * (b : Int)) g c → opB (nmV b g c) = g := fun h => opB_pack h
theorem nm_is : okP (8 * (b : Int)) g c → isH (nmV b g c) := fun h => isH_pack h
end
/-- all raw words: heads, links, gens, and how many words are carved -/
structure RwS (K M : Nat) (s : Ar) (hd lk gn : Nat → Int) (cv : Int) : Prop extends RwL K M s hd lk where
  fit2 : K + M + M + 1 ≤ s.nr
  big2 : K + M + M + 1 ≤ 65536
  gns : ∀ b, b < M → s.raw (K + M + b) = gn b
  cvr : s.raw (K + M + M) = cv
def genS (K M : Nat) (s : Ar) (b : Nat) (x : Int) : Ar := { useA s with raw := upN s.raw (K + M + b) x }
section
variable {K M : Nat} {s : Ar} {hd lk gn : Nat → Int} {cv : Int} {k b : Nat} {p : Pl5}
theorem RwS.same {s' : Ar} (h : RwS K M s hd lk gn cv) (e1 : s'.raw = s.raw) (e2 : s'.nr = s.nr) : RwS K M s' hd lk gn cv :=
  ⟨⟨by rw [e2]; exact h.fit, h.big, by rw [e1]; exact h.hds, by rw [e1]; exact h.lks⟩, by rw [e2]; exact h.fit2, h.big2, by rw [e1]; exact h.gns, by rw [e1]; exact h.cvr⟩
theorem RwS.use (h : RwS K M s hd lk gn cv) : RwS K M (useA s) hd lk gn cv := h.same rfl rfl
theorem RwS.link (h : RwS K M s hd lk gn cv) (hb : b < M) (x : Int) : RwS K M (linkS K s b x) hd (upL lk b x) gn cv := by
  refine ⟨h.toRwL.link b x, h.fit2, h.big2, fun j hj => ?_, ?_⟩
  · show upN s.raw (K + b) x (K + M + j) = _
    rw [upN_other _ _ (by omega)]
    exact h.gns j hj
  · show upN s.raw (K + b) x (K + M + M) = _
    rw [upN_other _ _ (by omega)]
    exact h.cvr
theorem RwS.head (h : RwS K M s hd lk gn cv) (hk : k < K) (x : Int) : RwS K M (headS s k x) (upH hd k x) lk gn cv := by
  refine ⟨h.toRwL.head hk x, h.fit2, h.big2, fun j hj => ?_, ?_⟩
  · show upN s.raw k x (K + M + j) = _
    rw [upN_other _ _ (by omega)]
    exact h.gns j hj
  · show upN s.raw k x (K + M + M) = _
    rw [upN_other _ _ (by omega)]
    exact h.cvr
theorem RwS.gen (h : RwS K M s hd lk gn cv) (hb : b < M) (x : Int) : RwS K M (genS K M s b x) hd lk (upH gn b x) cv := by
  refine ⟨⟨h.fit, h.big, fun j hj => ?_, fun j hj => ?_⟩, h.fit2, h.big2, fun j hj => ?_, ?_⟩
  · show upN s.raw (K + M + b) x j = _
    rw [upN_other _ _ (by omega)]
    exact h.hds j hj
  · show upN s.raw (K + M + b) x (K + j) = _
    rw [upN_other _ _ (by omega)]
    exact h.lks j hj
  · show upN s.raw (K + M + b) x (K + M + j) = _
    by_cases e : j = b
    · subst e
      rw [upN_same, upH_same]
    · rw [upN_other _ _ (by omega), upH_other _ _ e]
      exact h.gns j hj
  · show upN s.raw (K + M + b) x (K + M + M) = _
    rw [upN_other _ _ (by omega)]
    exact h.cvr
theorem RwS.carve (h : RwS K M s hd lk gn cv) (x : Int) : RwS K M (headS s (K + M + M) x) hd lk gn x := by
  refine ⟨⟨h.fit, h.big, fun j hj => ?_, fun j hj => ?_⟩, h.fit2, h.big2, fun j hj => ?_, ?_⟩
  · show upN s.raw (K + M + M) x j = _
    rw [upN_other _ _ (by omega)]
    exact h.hds j hj
  · show upN s.raw (K + M + M) x (K + j) = _
    rw [upN_other _ _ (by omega)]
    exact h.lks j hj
  · show upN s.raw (K + M + M) x (K + M + j) = _
    rw [upN_other _ _ (by omega)]
    exact h.gns j hj
  · show upN s.raw (K + M + M) x (K + M + M) = _
    exact upN_same _ _ _
theorem rawA_cv (h : RwS K M s hd lk gn cv) : rawA s ((K + M + M : Nat) : Int) = (useA s, cv) := by
  have hf := h.fit2
  have hi : inR s ((K + M + M : Nat) : Int) := ⟨by omega, by omega⟩
  unfold rawA
  rw [if_pos hi, Int.toNat_natCast, h.cvr]
theorem swap_cv (h : RwS K M s hd lk gn cv) (old now : Int) : swapRawA s ((K + M + M : Nat) : Int) old now = if cv = old then (headS s (K + M + M) now, true) else (useA s, false) := by
  have hf := h.fit2
  have hi : inR s ((K + M + M : Nat) : Int) := ⟨by omega, by omega⟩
  unfold swapRawA headS
  rw [if_pos hi, Int.toNat_natCast, h.cvr]
theorem addRaw_gen (h : RwS K M s hd lk gn cv) (hb : b < M) (y : Int) : addRawA s ((K + M + b : Nat) : Int) y = (genS K M s b (wrap64 (gn b + y)), gn b) := by
  have hf := h.fit2
  have hi : inR s ((K + M + b : Nat) : Int) := ⟨by omega, by omega⟩
  unfold addRawA genS
  rw [if_pos hi, Int.toNat_natCast, h.gns b hb]
end
end Go.Proofs.YtopnkfbcphbbiaaDoor.S1
