/-
  Helpers: FrH, FrI, FrL, FrJ, FrM, FrN.
-/
import Derived.Test.YtfljoedjnigfjaaBun9fb7cfba299a
import Derived.Test.YtfljoedjnigfjaaBuna1b37bebfd83
import Derived.Test.YtfljoedjnigfjaaBuna2b681052f07
namespace Go.Proofs.Ytfljoedjnigfjaa
open Go.RowKit
open A9 (Ab ArAt ArMem FrA Ar rawA setRawA swapRawA Left9 ptrA)
open H8 (HTab below_then)

section
variable {q : Nat} {w : World} {p : Pl5} {b : Int} {t : Tn} {B : Ab} {s : Ar}
def NewPuPost (w : World) (p : Pl5) (b word : Int) (e : Ending) (w' : World) : Prop := ∃ q, e = .returned (.pointer (some ⟨q, 0, none⟩)) ∧ PuAt q w' p b ⟨word, 0, 0, 0⟩ ∧ Below w.heap.size w w' ∧ w.heap.size ≤ q
def NewPoPost (w : World) (p : Pl5) (word : Int) (e : Ending) (w' : World) : Prop := ∃ q, e = .returned (.pointer (some ⟨q, 0, none⟩)) ∧ PoAt q w' p ⟨word, 0, 0, 0⟩ ∧ Below w.heap.size w w' ∧ w.heap.size ≤ q
def plBox (p : Pl5) : Obj := .cells #[.int .i64 p.wk, .int .i64 p.hd, .int .i64 p.ln, .int .i64 p.gn, .int .i64 p.cv] 24 (0, 0)
def plS (g : Nat) (p : Pl5) (w : World) : Prop := w.cell? ⟨g, 0, none⟩ = some (.int .i64 p.wk) ∧ w.cell? ⟨g, 1, none⟩ = some (.int .i64 p.hd) ∧ w.cell? ⟨g, 2, none⟩ = some (.int .i64 p.ln) ∧ w.cell? ⟨g, 3, none⟩ = some (.int .i64 p.gn) ∧ w.cell? ⟨g, 4, none⟩ = some (.int .i64 p.cv)
theorem plS_of {g : Nat} {p : Pl5} {w : World} (h : w.heap[g]? = some (plBox p)) : plS g p w := ⟨cell_of_row _ _ _ _ _ _ h, cell_of_row _ _ _ _ _ _ h, cell_of_row _ _ _ _ _ _ h, cell_of_row _ _ _ _ _ _ h, cell_of_row _ _ _ _ _ _ h⟩
theorem plS.alloc {g : Nat} {p : Pl5} {w : World} (h : plS g p w) (o : Obj) : plS g p (w.alloc o) := by
  have hl := block_lt_of_cell h.1
  have e : ∀ f, (w.alloc o).cell? ⟨g, f, none⟩ = w.cell? ⟨g, f, none⟩ := fun f => World.cell?_of_block (w := w) (Below.heap_alloc _ _ _ hl)
  exact ⟨(e 0).trans h.1, (e 1).trans h.2.1, (e 2).trans h.2.2.1, (e 3).trans h.2.2.2.1, (e 4).trans h.2.2.2.2⟩
theorem below_next {n : Nat} {a b c : World} (h : Below n a b) (hn : n ≤ b.heap.size) (k : Below b.heap.size b c) : Below n a c := ⟨k.os.trans h.os, k.tape.trans h.tape, k.output.trans h.output, Nat.le_trans h.size k.size, fun i hi => (k.block i (by omega)).trans (h.block i hi)⟩
theorem newPuEnd (p : Pl5) (m H : Int) {g : Nat} {w X : World} (HG : Hid (g = w.heap.size)) (hb : Below g w X) : NewPuPost w p m H (.returned (.pointer (some ⟨X.heap.size, 0, none⟩))) (X.alloc (.cells (puB p m ⟨H, 0, 0, 0⟩) 67 (0, 0))) := by
  obtain rfl : g = w.heap.size := HG.out
  exact ⟨_, rfl, (Go.MapKept.heap_alloc X _).1, hb.alloc hb.size _, hb.size⟩
theorem newPoEnd (p : Pl5) (H : Int) {g : Nat} {w X : World} (HG : Hid (g = w.heap.size)) (hb : Below g w X) : NewPoPost w p H (.returned (.pointer (some ⟨X.heap.size, 0, none⟩))) (X.alloc (.cells (poB p ⟨H, 0, 0, 0⟩) 69 (0, 0))) := by
  obtain rfl : g = w.heap.size := HG.out
  exact ⟨_, rfl, (Go.MapKept.heap_alloc X _).1, hb.alloc hb.size _, hb.size⟩
theorem NewPush_any (p : Pl5) (k c b : Int) (h0 : 0 ≤ b) (h1 : b ≤ 1000000) (w : World) : Calls Try.prog 12 #[p.v, .int .i64 k, .int .i64 c, .int .i64 b] w (NewPuPost w p (b / 8 + 1) (headF p k c)) := by
  have hh := fun wx => head_any p k c wx
  have hm := fun wx => mark_any b h0 h1 wx
  have hB0 : (w.alloc (plBox p)).heap[w.heap.size]? = some (plBox p) := (Go.MapKept.heap_alloc w _).1
  have hb0 : Below w.heap.size w (w.alloc (plBox p)) := (Below.refl _ _).alloc (Nat.le_refl _) _
  have hlt := lt_of_block hB0
  have ha : w.alloc (.cells #[.int .i64 p.wk, .int .i64 p.hd, .int .i64 p.ln, .int .i64 p.gn, .int .i64 p.cv] 24 (0, 0)) = w.alloc (plBox p) := rfl
  unfold Pl5.v at hh ⊢
  generalize headF p k c = H at *
  generalize b / 8 + 1 = m at *
  go_enter Try.func12, Try.ntmps12
  go_wp2_with fail
  generalize w.alloc (plBox p) = W at *
  obtain ⟨g, HG⟩ : ∃ g, Hid (g = w.heap.size) := ⟨_, rfl⟩
  rw [← (HG.out : g = w.heap.size)] at hB0 hb0 hlt ⊢
  clear ha
  have c0 : plS g p W := plS_of hB0
  go_region_held3 (fun w' => w'.cell? ⟨g, 0, none⟩ = some (.int .i64 p.wk) ∧ w'.cell? ⟨g, 1, none⟩ = some (.int .i64 p.hd) ∧ w'.cell? ⟨g, 2, none⟩ = some (.int .i64 p.ln) ∧ w'.cell? ⟨g, 3, none⟩ = some (.int .i64 p.gn) ∧ w'.cell? ⟨g, 4, none⟩ = some (.int .i64 p.cv)) (first | exact c0 | exact c1 | exact plS.alloc c1 _) (first
    | (go_at_call 23; refine (hh _).mono ?_; rintro e w1 ⟨rfl, hb1⟩; have hb2 : Below W.heap.size W w1 := (by first | exact hb1 | exact below_then (Below.refl _ _).drew hb1); have c1 : plS g p w1 := plS_of ((hb2.block g hlt).trans hB0))
    | (go_at_call 24; refine (hm _).mono ?_; rintro e w2 ⟨rfl, rfl⟩))
  all_goals
    have HE := newPuEnd p m H HG (below_next hb0 (Nat.le_of_lt hlt) hb2)
    go_wp2_with fail
    go_ret
    exact HE
theorem NewPop_any (p : Pl5) (k c : Int) (w : World) : Calls Try.prog 13 #[p.v, .int .i64 k, .int .i64 c] w (NewPoPost w p (headF p k c)) := by
  have hh := fun wx => head_any p k c wx
  have hB0 : (w.alloc (plBox p)).heap[w.heap.size]? = some (plBox p) := (Go.MapKept.heap_alloc w _).1
  have hb0 : Below w.heap.size w (w.alloc (plBox p)) := (Below.refl _ _).alloc (Nat.le_refl _) _
  have hlt := lt_of_block hB0
  have ha : w.alloc (.cells #[.int .i64 p.wk, .int .i64 p.hd, .int .i64 p.ln, .int .i64 p.gn, .int .i64 p.cv] 24 (0, 0)) = w.alloc (plBox p) := rfl
  unfold Pl5.v at hh ⊢
  generalize headF p k c = H at *
  go_enter Try.func13, Try.ntmps13
  go_wp2_with fail
  generalize w.alloc (plBox p) = W at *
  obtain ⟨g, HG⟩ : ∃ g, Hid (g = w.heap.size) := ⟨_, rfl⟩
  rw [← (HG.out : g = w.heap.size)] at hB0 hb0 hlt ⊢
  clear ha
  have c0 : plS g p W := plS_of hB0
  go_region_held3 (fun w' => w'.cell? ⟨g, 0, none⟩ = some (.int .i64 p.wk) ∧ w'.cell? ⟨g, 1, none⟩ = some (.int .i64 p.hd) ∧ w'.cell? ⟨g, 2, none⟩ = some (.int .i64 p.ln) ∧ w'.cell? ⟨g, 3, none⟩ = some (.int .i64 p.gn) ∧ w'.cell? ⟨g, 4, none⟩ = some (.int .i64 p.cv)) (first | exact c0 | exact c1 | exact plS.alloc c1 _) (first
    | (go_at_call 23; refine (hh _).mono ?_; rintro e w1 ⟨rfl, hb1⟩; have hb2 : Below W.heap.size W w1 := (by first | exact hb1 | exact below_then (Below.refl _ _).drew hb1); have c1 : plS g p w1 := plS_of ((hb2.block g hlt).trans hB0)))
  all_goals
    have HE := newPoEnd p H HG (below_next hb0 (Nat.le_of_lt hlt) hb2)
    go_wp2_with fail
    go_ret
    exact HE
/-- what was popped -/
def baseF (t : Tn) : Int × Bool := if t.ph = 3 ∧ codF t.h ≠ 0 then (unmF (codF t.h), true) else (0, false)
theorem Base_any (hP : PoAt q w p t) : Calls Try.prog 14 #[.pointer (some ⟨q, 0, none⟩)] w fun e w' => e = .returned (.tuple #[.int .i64 (baseF t).1, .bool (baseF t).2]) ∧ w' = w := by
  have c1 : w.cell? ⟨q, 1, none⟩ = some (.int .i64 t.ph) := hP.cell 1
  have c2 : w.cell? ⟨q, 2, none⟩ = some (.int .i64 t.h) := hP.cell 2
  have hf := fun wx => firstOf_any t.h wx
  have hi := fun wx => poIdle_any (w := wx) ⟨q, 0, none⟩ (codF t.h)
  have hu := fun wx => unmark_any (codF t.h) wx
  unfold baseF
  generalize unmF (codF t.h) = U at *
  generalize codF t.h = c at *
  clear hP
  by_cases h3 : t.ph = 3
  · have d3 : (t.ph != 3) = false := by simp [h3]
    by_cases hc : c = 0
    · rw [if_neg (by simp [hc])]
      have dc : (c == 0) = true := by simp [hc]
      clear h3 hc
      go_enter Try.func14, Try.ntmps14
      go_wp2_with (first | (go_at_call 25; refine (hf _).mono ?_; rintro e w1 ⟨rfl, rfl⟩) | (go_at_call 26; refine (hi _).mono ?_; rintro e w1 ⟨rfl, rfl⟩))
      go_ret2
      exact ⟨rfl, rfl⟩
    · rw [if_pos ⟨h3, hc⟩]
      have dc : (c == 0) = false := by simpa using hc
      clear h3 hc
      go_enter Try.func14, Try.ntmps14
      go_wp2_with (first | (go_at_call 25; refine (hf _).mono ?_; rintro e w1 ⟨rfl, rfl⟩) | (go_at_call 26; refine (hi _).mono ?_; rintro e w1 ⟨rfl, rfl⟩) | (go_at_call 27; refine (hu _).mono ?_; rintro e w1 ⟨rfl, rfl⟩))
      go_ret2
      exact ⟨rfl, rfl⟩
  · rw [if_neg (by simp [h3])]
    have d3 : (t.ph != 3) = true := by simpa using h3
    clear h3
    go_enter Try.func14, Try.ntmps14
    go_wp2_with (first | (go_at_call 25; refine (hf _).mono ?_; rintro e w1 ⟨rfl, rfl⟩) | (go_at_call 26; refine (hi _).mono ?_; rintro e w1 ⟨rfl, rfl⟩))
    go_ret2
    exact ⟨rfl, rfl⟩
/-- where raw words stand, of so many words -/
def plF (k n : Int) : Pl5 := ⟨max k 0, 0, 4 * max k 0, 4 * max k 0 + (max n 0 + 7) / 8, 4 * max k 0 + (max n 0 + 7) / 8 + (max n 0 + 7) / 8⟩
theorem Raw_any (k n : Int) (hk : k ≤ 1000000) (hn : n ≤ 1000000) (w : World) : Calls Try.prog 8 #[.int .i64 k, .int .i64 n] w fun e w' => e = .returned (.tuple #[(plF k n).v, .int .i64 ((plF k n).cv + 1)]) ∧ Below w.heap.size w w' := by
  unfold Pl5.v plF
  obtain ⟨K, h1⟩ : ∃ K, Hid (K = max k 0) := ⟨_, rfl⟩
  obtain ⟨K4, h2⟩ : ∃ K, Hid (K = 4 * max k 0) := ⟨_, rfl⟩
  obtain ⟨KG, h3⟩ : ∃ K, Hid (K = 4 * max k 0 + (max n 0 + 7) / 8) := ⟨_, rfl⟩
  obtain ⟨KC, h4⟩ : ∃ K, Hid (K = 4 * max k 0 + (max n 0 + 7) / 8 + (max n 0 + 7) / 8) := ⟨_, rfl⟩
  obtain ⟨K1, h5⟩ : ∃ K, Hid (K = 4 * max k 0 + (max n 0 + 7) / 8 + (max n 0 + 7) / 8 + 1) := ⟨_, rfl⟩
  show Calls _ _ _ _ (fun e w' => e = .returned (.tuple #[.agg #[.int .i64 (max k 0), .int .i64 0, .int .i64 (4 * max k 0), .int .i64 (4 * max k 0 + (max n 0 + 7) / 8), .int .i64 (4 * max k 0 + (max n 0 + 7) / 8 + (max n 0 + 7) / 8)], .int .i64 (4 * max k 0 + (max n 0 + 7) / 8 + (max n 0 + 7) / 8 + 1)]) ∧ Below w.heap.size w w')
  rw [← h5.out, ← h4.out, ← h3.out, ← h2.out, ← h1.out]
  go_enter Try.func8, Try.ntmps8
  go_wp2_with fail
  all_goals
    go_region
    all_goals
      go_wp2_with fail
      refine bodyPost_ret (v := .tuple #[.agg #[.int .i64 K, .int .i64 0, .int .i64 K4, .int .i64 KG, .int .i64 KC], .int .i64 K1]) ?_ rfl ⟨rfl, ?_⟩
      · simp [results, Try.results8, go_sem]
        simp only [Hid] at h1 h2 h3 h4 h5
        omega
      · repeat (first | exact Below.refl _ _ | refine Below.drew ?_ | refine Below.alloc ?_ (by simp; try omega) _ | refine Below.setCell ?_ (by simp; try omega) _)
end
end Go.Proofs.Ytfljoedjnigfjaa
namespace Go.Proofs.Ytfljoedjnigfjaa
open Go.RowKit
open A9 (Ab ArAt ArMem FrA Ar rawA setRawA swapRawA useA inR upN upN_same upN_other)

def upH (f : Nat → Int) (k : Nat) (v : Int) : Nat → Int := fun j => if j = k then v else f j
theorem upH_same (f : Nat → Int) (k : Nat) (v : Int) : upH f k v k = v := if_pos rfl
theorem upH_other (f : Nat → Int) {k j : Nat} (v : Int) (h : j ≠ k) : upH f k v j = f j := if_neg h
structure RwL (K M : Nat) (s : Ar) (hd lk : Nat → Int) : Prop where
  fit : K + M ≤ s.nr
  big : K + M ≤ 65536
  hds : ∀ k, k < K → s.raw k = hd k
  lks : ∀ b, b < M → s.raw (K + b) = lk b
/-- heads from 0 on, links behind them -/
def PlK (K : Nat) (p : Pl5) : Prop := p.hd = 0 ∧ p.ln = K
theorem headF_eq {K : Nat} {p : Pl5} (hp : PlK K p) {a c : Int} (h1 : 0 ≤ a) (h2 : a ≤ 65536) (h3 : 0 ≤ c) (h4 : c < 4) : headF p a c = 4 * a + c := by
  unfold headF wrap64
  rw [hp.1]
  omega
theorem linkF_eq {K : Nat} {p : Pl5} (hp : PlK K p) (hK : K ≤ 65536) {m : Int} (h1 : 0 ≤ m) (h2 : m ≤ 131072) : linkF p m = K + m - 1 := by
  unfold linkF wrap64
  rw [hp.2]
  omega
theorem unmF_eq {m : Int} (h1 : 0 ≤ m) (h2 : m ≤ 131072) : unmF m = 8 * (m - 1) := by
  unfold unmF wrap64
  omega
theorem trnF_eq {h m : Int} (h1 : 0 ≤ tagF h) (h2 : tagF h ≤ 1000000000) (h3 : 0 ≤ m) (h4 : m < 131072) : trnF h m = mkF (tagF h + 1) m := by
  unfold tagF at h1 h2
  unfold trnF mkF tagF codF wrap64
  omega
def linkS (K : Nat) (s : Ar) (b : Nat) (x : Int) : Ar := { useA s with raw := upN s.raw (K + b) x }
def headS (s : Ar) (k : Nat) (x : Int) : Ar := { useA s with raw := upN s.raw k x }
section
variable {K M : Nat} {s : Ar} {hd lk : Nat → Int} {p : Pl5} {k b : Nat}
theorem RwL.use (h : RwL K M s hd lk) : RwL K M (useA s) hd lk := ⟨h.fit, h.big, h.hds, h.lks⟩
theorem RwL.link (h : RwL K M s hd lk) (b : Nat) (x : Int) : RwL K M (linkS K s b x) hd (upL lk b x) := by
  refine ⟨h.fit, h.big, fun k hk => ?_, fun j hj => ?_⟩
  · show upN s.raw (K + b) x k = _
    rw [upN_other _ _ (by omega)]
    exact h.hds k hk
  · show upN s.raw (K + b) x (K + j) = _
    by_cases e : j = b
    · subst e
      rw [upN_same, upL_same]
    · rw [upN_other _ _ (by omega), upL_other _ _ e]
      exact h.lks j hj
theorem RwL.head (h : RwL K M s hd lk) (hk : k < K) (x : Int) : RwL K M (headS s k x) (upH hd k x) lk := by
  refine ⟨h.fit, h.big, fun j hj => ?_, fun j hj => ?_⟩
  · show upN s.raw k x j = _
    by_cases e : j = k
    · subst e
      rw [upN_same, upH_same]
    · rw [upN_other _ _ e, upH_other _ _ e]
      exact h.hds j hj
  · show upN s.raw k x (K + j) = _
    rw [upN_other _ _ (by omega)]
    exact h.lks j hj
theorem rawA_head (h : RwL K M s hd lk) (hk : k < K) : rawA s (k : Int) = (useA s, hd k) := by
  have hi : inR s (k : Int) := ⟨by omega, by have := h.fit; omega⟩
  unfold rawA
  rw [if_pos hi, Int.toNat_natCast, h.hds k hk]
theorem rawA_link (h : RwL K M s hd lk) (hp : PlK K p) (hb : b < M) : rawA s (linkF p ((b : Int) + 1)) = (useA s, lk b) := by
  have hf := h.fit
  have hg := h.big
  rw [linkF_eq hp (by omega) (by omega) (by omega), show (K : Int) + ((b : Int) + 1) - 1 = ((K + b : Nat) : Int) by omega]
  have hi : inR s ((K + b : Nat) : Int) := ⟨by omega, by omega⟩
  unfold rawA
  rw [if_pos hi, Int.toNat_natCast, h.lks b hb]
theorem setRaw_link (h : RwL K M s hd lk) (hp : PlK K p) (hb : b < M) (x : Int) : setRawA s (linkF p ((b : Int) + 1)) x = linkS K s b x := by
  have hf := h.fit
  have hg := h.big
  rw [linkF_eq hp (by omega) (by omega) (by omega), show (K : Int) + ((b : Int) + 1) - 1 = ((K + b : Nat) : Int) by omega]
  have hi : inR s ((K + b : Nat) : Int) := ⟨by omega, by omega⟩
  unfold setRawA linkS
  rw [if_pos hi, Int.toNat_natCast]
theorem swap_head (h : RwL K M s hd lk) (hk : k < K) (old now : Int) : swapRawA s (k : Int) old now = if hd k = old then (headS s k now, true) else (useA s, false) := by
  have hi : inR s (k : Int) := ⟨by omega, by have := h.fit; omega⟩
  unfold swapRawA headS
  rw [if_pos hi, Int.toNat_natCast, h.hds k hk]
/-- a push's steps -/
theorem pu_read (h : RwL K M s hd lk) (hk : k < K) (m x : Int) (bb : Int) : puStep p bb s ⟨k, 0, x, m⟩ = (useA s, ⟨k, 1, hd k, m⟩, false) := by
  unfold puStep
  rw [if_neg (by intro e; cases e), if_neg (by intro e; cases e), if_neg (by intro e; cases e), rawA_head h hk]
theorem pu_link (h : RwL K M s hd lk) (hp : PlK K p) (hb : b < M) (m x : Int) : puStep p ((b : Int) + 1) s ⟨k, 1, x, m⟩ = (linkS K s b (codF x), ⟨k, 2, x, (b : Int) + 1⟩, false) := by
  unfold puStep
  rw [if_pos rfl, setRaw_link h hp hb]
theorem swapT_eq (h : RwL K M s hd lk) (hk : k < K) (m x : Int) : swapT s ⟨k, 2, x, m⟩ = if hd k = x then (headS s k (trnF x m), ⟨k, 3, x, m⟩, true) else (useA s, ⟨k, 0, x, m⟩, false) := by
  unfold swapT
  simp only [swap_head h hk]
  by_cases e : hd k = x
  · rw [if_pos e, if_pos e]
  · rw [if_neg e, if_neg e]
theorem pu_swap (h : RwL K M s hd lk) (hk : k < K) (m x bb : Int) : puStep p bb s ⟨k, 2, x, m⟩ = if hd k = x then (headS s k (trnF x m), ⟨k, 3, x, m⟩, true) else (useA s, ⟨k, 0, x, m⟩, false) := by
  unfold puStep
  rw [if_neg (by intro e; cases e), if_pos rfl]
  exact swapT_eq h hk m x
theorem pu_end (t : Tn) (ht : t.ph = 3) (bb : Int) : puStep p bb s t = (s, t, true) := by
  unfold puStep
  rw [if_neg (by omega), if_neg (by omega), if_pos ht]
/-- a pop's steps -/
theorem po_read (h : RwL K M s hd lk) (hk : k < K) (m x : Int) : poStep p s ⟨k, 0, x, m⟩ = if codF (hd k) = 0 then (useA s, ⟨k, 3, hd k, m⟩, true) else (useA s, ⟨k, 1, hd k, m⟩, false) := by
  unfold poStep
  rw [if_neg (by intro e; cases e), if_neg (by intro e; cases e), if_neg (by intro e; cases e), rawA_head h hk]
theorem po_link (h : RwL K M s hd lk) (hp : PlK K p) (hb : b < M) (m x : Int) (hx : codF x = (b : Int) + 1) : poStep p s ⟨k, 1, x, m⟩ = (useA s, ⟨k, 2, x, lk b⟩, false) := by
  unfold poStep
  rw [if_pos rfl, hx, rawA_link h hp hb]
theorem po_swap (h : RwL K M s hd lk) (hk : k < K) (m x : Int) : poStep p s ⟨k, 2, x, m⟩ = if hd k = x then (headS s k (trnF x m), ⟨k, 3, x, m⟩, true) else (useA s, ⟨k, 0, x, m⟩, false) := by
  unfold poStep
  rw [if_neg (by intro e; cases e), if_pos rfl]
  exact swapT_eq h hk m x
theorem po_end (t : Tn) (ht : t.ph = 3) : poStep p s t = (s, t, true) := by
  unfold poStep
  rw [if_neg (by omega), if_neg (by omega), if_pos ht]
end
/-! ### many lists -/
structure Lst (K M : Nat) (s : Ar) (hd lk : Nat → Int) (ls : Nat → List Nat) (T : Nat) : Prop extends RwL K M s hd lk where
  L : ∀ k, k < K → Ls M (hd k) lk (ls k)
  two : ∀ j k b, j < K → k < K → j ≠ k → b ∈ ls j → b ∉ ls k
  tg : ∀ k, k < K → tagF (hd k) ≤ T
def upLs (f : Nat → List Nat) (k : Nat) (v : List Nat) : Nat → List Nat := fun j => if j = k then v else f j
theorem upLs_same (f : Nat → List Nat) (k : Nat) (v : List Nat) : upLs f k v k = v := if_pos rfl
theorem upLs_other (f : Nat → List Nat) {k j : Nat} (v : List Nat) (h : j ≠ k) : upLs f k v j = f j := if_neg h
section
variable {K M T : Nat} {s : Ar} {hd lk : Nat → Int} {ls : Nat → List Nat} {p : Pl5} {k b : Nat}
theorem Lst.use (h : Lst K M s hd lk ls T) : Lst K M (useA s) hd lk ls T := ⟨h.toRwL.use, h.L, h.two, h.tg⟩
theorem Lst.wide (h : Lst K M s hd lk ls T) {T' : Nat} (hT : T ≤ T') : Lst K M s hd lk ls T' := ⟨h.toRwL, h.L, h.two, fun k hk => by have := h.tg k hk; omega⟩
/-- a push by itself: three steps -/
def pushS (K : Nat) (s : Ar) (hd : Nat → Int) (k b : Nat) : Ar := headS (linkS K (useA s) b (codF (hd k))) k (trnF (hd k) ((b : Int) + 1))
theorem push3 (h : Lst K M s hd lk ls T) (hp : PlK K p) (hk : k < K) (hb : b < M) (m x : Int) :
    puStep p ((b : Int) + 1) s ⟨k, 0, x, m⟩ = (useA s, ⟨k, 1, hd k, m⟩, false) ∧
    puStep p ((b : Int) + 1) (useA s) ⟨k, 1, hd k, m⟩ = (linkS K (useA s) b (codF (hd k)), ⟨k, 2, hd k, (b : Int) + 1⟩, false) ∧
    puStep p ((b : Int) + 1) (linkS K (useA s) b (codF (hd k))) ⟨k, 2, hd k, (b : Int) + 1⟩ = (pushS K s hd k b, ⟨k, 3, hd k, (b : Int) + 1⟩, true) := by
  refine ⟨pu_read h.toRwL hk m x _, pu_link h.use.toRwL hp hb m _, ?_⟩
  rw [pu_swap (h.use.toRwL.link b _) hk _ _ _, if_pos rfl]
  rfl
theorem Lst.push (h : Lst K M s hd lk ls T) (hT : T ≤ 1000000) (hk : k < K) (hb : b < M) (hno : ∀ j, j < K → b ∉ ls j) :
    Lst K M (pushS K s hd k b) (upH hd k (mkF (tagF (hd k) + 1) ((b : Int) + 1))) (upL lk b (codF (hd k))) (upLs ls k (b :: ls k)) (T + 1) := by
  have hL := h.L k hk
  have ht0 := hL.tag
  have ht1 := h.tg k hk
  have hbig := h.big
  have hc : codF (hd k) ≤ M := hL.cod
  have hcb := cod_bd (hd k)
  have hM : M < 131072 := by omega
  have et : trnF (hd k) ((b : Int) + 1) = mkF (tagF (hd k) + 1) ((b : Int) + 1) := trnF_eq ht0 (by omega) (by omega) (by omega)
  have hR : RwL K M (pushS K s hd k b) (upH hd k (mkF (tagF (hd k) + 1) ((b : Int) + 1))) (upL lk b (codF (hd k))) := by
    unfold pushS
    rw [et]
    exact (h.use.toRwL.link b _).head hk _
  refine ⟨hR, fun j hj => ?_, fun i j c hi hj hij hc1 => ?_, fun j hj => ?_⟩
  · by_cases e : j = k
    · subst e
      rw [upH_same, upLs_same]
      have hl := hL.link (hno j hj) (x := codF (hd j)) ⟨hcb.1, hc⟩
      have hpu : PuOk M (hd j) (upL lk b (codF (hd j))) ⟨b, 2, hd j⟩ := ⟨hb, fun _ => ⟨Old.now _, hc⟩, fun _ => upL_same _ _ _, Nat.le_refl _⟩
      exact hl.push hM hpu rfl rfl (hno j hj)
    · rw [upH_other _ _ e, upLs_other _ _ e]
      exact (h.L j hj).link (hno j hj) ⟨hcb.1, hc⟩
  · by_cases e : i = k
    · subst e
      rw [upLs_same] at hc1
      rw [upLs_other _ _ (Ne.symm hij)]
      rcases List.mem_cons.1 hc1 with rfl | h2
      · exact hno j hj
      · exact h.two i j c hi hj hij h2
    · rw [upLs_other _ _ e] at hc1
      by_cases e2 : j = k
      · subst e2
        rw [upLs_same]
        intro h3
        rcases List.mem_cons.1 h3 with rfl | h4
        · exact hno i hi hc1
        · exact h.two i j c hi hj hij hc1 h4
      · rw [upLs_other _ _ e2]
        exact h.two i j c hi hj hij hc1
  · by_cases e : j = k
    · subst e
      rw [upH_same, tag_mk (by omega) (by omega)]
      omega
    · rw [upH_other _ _ e]
      have := h.tg j hj
      omega
/-- a pop by itself, of an empty list: a step; of another: three -/
theorem pop1 (h : Lst K M s hd lk ls T) (hk : k < K) (hl : ls k = []) (m x : Int) : poStep p s ⟨k, 0, x, m⟩ = (useA s, ⟨k, 3, hd k, m⟩, true) ∧ baseF ⟨k, 3, hd k, m⟩ = (0, false) := by
  have e : codF (hd k) = 0 := by rw [(h.L k hk).head, hl]; rfl
  refine ⟨by rw [po_read h.toRwL hk, if_pos e], ?_⟩
  unfold baseF
  rw [if_neg (by simp [e])]
def popS (s : Ar) (hd lk : Nat → Int) (k b : Nat) : Ar := headS (useA (useA s)) k (trnF (hd k) (lk b))
theorem pop3 (h : Lst K M s hd lk ls T) (hp : PlK K p) (hk : k < K) {r : List Nat} (hl : ls k = b :: r) (m x : Int) :
    poStep p s ⟨k, 0, x, m⟩ = (useA s, ⟨k, 1, hd k, m⟩, false) ∧
    poStep p (useA s) ⟨k, 1, hd k, m⟩ = (useA (useA s), ⟨k, 2, hd k, lk b⟩, false) ∧
    poStep p (useA (useA s)) ⟨k, 2, hd k, lk b⟩ = (popS s hd lk k b, ⟨k, 3, hd k, lk b⟩, true) ∧ baseF ⟨k, 3, hd k, lk b⟩ = (8 * (b : Int), true) := by
  have e : codF (hd k) = (b : Int) + 1 := by rw [(h.L k hk).head, hl]; rfl
  have hb : b < M := (h.L k hk).lt b (by rw [hl]; simp)
  have hg := h.big
  refine ⟨by rw [po_read h.toRwL hk, if_neg (by omega)], po_link h.use.toRwL hp hb m _ e, ?_, ?_⟩
  · rw [po_swap h.use.use.toRwL hk _ _, if_pos rfl]
    rfl
  · unfold baseF
    rw [if_pos ⟨rfl, by simp only; omega⟩]
    simp only [e]
    rw [unmF_eq (by omega) (by omega), show 8 * ((b : Int) + 1 - 1) = 8 * (b : Int) by omega]
theorem Lst.pop (h : Lst K M s hd lk ls T) (hT : T ≤ 1000000) (hk : k < K) {r : List Nat} (hl : ls k = b :: r) :
    Lst K M (popS s hd lk k b) (upH hd k (mkF (tagF (hd k) + 1) (lk b))) lk (upLs ls k r) (T + 1) := by
  have hL := h.L k hk
  have ht0 := hL.tag
  have ht1 := h.tg k hk
  have hbig := h.big
  have hcb := cod_bd (hd k)
  have hc : codF (hd k) = (b : Int) + 1 := by rw [hL.head, hl]; rfl
  have hb : b < M := hL.lt b (by rw [hl]; simp)
  have hlb := hL.lb b hb
  have hpo : PoOk M (hd k) lk ⟨2, hd k, lk b⟩ := ⟨fun _ => ⟨Old.now _, by simp only; omega, hL.cod⟩, fun _ => ⟨fun _ => by simp only; rw [show (codF (hd k) - 1).toNat = b by omega], hlb⟩, Nat.le_refl _⟩
  obtain ⟨b', r', e1, e2, h2⟩ := hL.pop (by omega) hpo rfl rfl
  have e3 : b' = b ∧ r' = r := by rw [hl] at e1; simpa using e1.symm
  obtain ⟨rfl, rfl⟩ := e3
  have et : trnF (hd k) (lk b') = mkF (tagF (hd k) + 1) (lk b') := trnF_eq ht0 (by omega) (by omega) (by omega)
  have hR : RwL K M (popS s hd lk k b') (upH hd k (mkF (tagF (hd k) + 1) (lk b'))) lk := by
    unfold popS
    rw [et]
    exact h.use.use.toRwL.head hk _
  have hsub : ∀ c, c ∈ r' → c ∈ ls k := fun c hc => by rw [hl]; exact List.mem_cons_of_mem _ hc
  refine ⟨hR, fun j hj => ?_, fun i j c hi hj hij hc1 => ?_, fun j hj => ?_⟩
  · by_cases e : j = k
    · subst e
      rw [upH_same, upLs_same]
      exact h2
    · rw [upH_other _ _ e, upLs_other _ _ e]
      exact h.L j hj
  · by_cases e : i = k
    · subst e
      rw [upLs_same] at hc1
      rw [upLs_other _ _ (Ne.symm hij)]
      exact h.two i j c hi hj hij (hsub c hc1)
    · rw [upLs_other _ _ e] at hc1
      by_cases e2 : j = k
      · subst e2
        rw [upLs_same]
        exact fun h3 => h.two i j c hi hj hij hc1 (hsub c h3)
      · rw [upLs_other _ _ e2]
        exact h.two i j c hi hj hij hc1
  · by_cases e : j = k
    · subst e
      rw [upH_same, tag_mk (by omega) (by omega)]
      omega
    · rw [upH_other _ _ e]
      have := h.tg j hj
      omega
end
end Go.Proofs.Ytfljoedjnigfjaa
namespace Go.Proofs.Ytfljoedjnigfjaa
open Go.RowKit
open A9 (Ab ArAt ArMem FrA Ar rawA useA ptrA intsV SrcN own_kept own_base infoInt intsV_one src_one isTab tab_lt htab_keep)
open H8 (HTab below_then)

/-- a row of the call's own, beside an arena -/
structure LsW (B : Ab) (w wr : World) (s : Ar) (v : Value) (xs : List Int) : Prop where
  row : wr.ownsRow w.heap.size 3 1 v xs.length (intsV xs)
  fr : FrA B w wr
  ar : ArAt B wr s
section
variable {B : Ab} {w wr : World} {s : Ar} {v : Value} {xs : List Int}
theorem LsW.nil (hA : ArAt B w s) : LsW B w w s (.slice none 0 0) [] := ⟨World.ownsRow_nil _ _ _ _, FrA.refl _ _, hA⟩
theorem LsW.notB (h : LsW B w wr s v xs) (hB : ∀ k, B.has k → k < w.heap.size) {g : Nat} (hg : v.ownBlock = some g) : ¬ B.has g := fun hb => by
  have := (h.row.lt g hg).1
  have := hB g hb
  omega
theorem LsW.step {w2 : World} {s2 : Ar} (h : LsW B w wr s v xs) (hB : ∀ k, B.has k → k < w.heap.size) (hA : ArAt B w2 s2) (hF : FrA B wr w2) : LsW B w w2 s2 v xs :=
  ⟨own_kept h.row fun g hg => hF.block g (h.row.lt g hg).2 (h.notB hB hg), h.fr.trans hF, hA⟩
theorem LsW.alloc (h : LsW B w wr s v xs) (hB : ∀ k, B.has k → k < w.heap.size) (o : Obj) : LsW B w (wr.alloc o) s v xs := h.step hB (h.ar.alloc o) (.of_below ((Below.refl _ _).alloc (Nat.le_refl _) o))
theorem LsW.app (ty : TypeId) (h : LsW B w wr s v xs) (hB : ∀ k, B.has k → k < w.heap.size) (hT : ∀ k, isTab k → k < w.heap.size) {ad : Option Addr} {len cap : Nat} {ys : List Int} (hs : SrcN wr ad len ys) (hn : xs.length + ys.length ≤ 20000) :
    ∃ v' w', (Builtin.append_ #[22, 22] ty #[v, .slice ad len cap]).run Try.prog wr = .ok v' w' ∧ LsW B w w' s v' (xs ++ ys) := by
  obtain ⟨i, hi, hz, hz1, hz2⟩ := infoInt
  obtain ⟨hl, a, rfl, hc⟩ := hs
  subst hl
  obtain ⟨v', w', hr, h2, h3, -, h5⟩ := run_append_own_at (P := Try.prog) wr w.heap.size 22 ty 3 i (.int .i64 0) 1 8 Try.underlying22 hi hz hz1 hz2 rfl (by decide) v xs.length (intsV xs) h.row a ys.length cap (intsV ys) (by simp [intsV]) hc intsV_one (by unfold maxLen; omega) (by omega) h.fr.size
  have hbk : ∀ k, k < wr.heap.size → v.ownBlock ≠ some k → w'.heap[k]? = wr.heap[k]? := fun k hk hne => h3.block k hk fun e => hne e.symm
  have hlo : ∀ k, k < w.heap.size → w'.heap[k]? = wr.heap[k]? := fun k hk => hbk k (Nat.lt_of_lt_of_le hk h.fr.size) fun e => by have := (h.row.lt k e).1; omega
  refine ⟨v', w', hr, ?_, ?_, ⟨h.ar.toArMem.same (fun k hk => hlo k (hB k hk)) (htab_keep h.ar.tab fun k hk => hlo k (hT k hk)), h.ar.ok⟩⟩
  · rw [List.length_append, show intsV (xs ++ ys) = intsV xs ++ intsV ys by simp [intsV]]
    exact h2
  · exact ⟨h3.os.trans h.fr.os, h3.tape.trans h.fr.tape, h3.output.trans h.fr.output, Nat.le_trans h.fr.size h3.size, fun k hk hn => (hlo k hk).trans (h.fr.block k hk hn)⟩
theorem list_appL {ops : Array Oper} {rest : List Oper} {o : Oper} {a : Act} {Q : Exit → Act → World → Prop} (hgd : o.guard = none) (x y : Operand)
    (ho : o.op = .call { callee := .builtin .append, args := #[x, y], argTypes := #[22, 22] }) (h : LsW B w wr s v xs) (hB : ∀ k, B.has k → k < w.heap.size) (hT : ∀ k, isTab k → k < w.heap.size) {ad : Option Addr} {len cap : Nat} {ys : List Int} (hx : a.eval x = v) (hy : a.eval y = .slice ad len cap) (hs : SrcN wr ad len ys) (hn : xs.length + ys.length ≤ 20000)
    (hK : ∀ v' w', LsW B w w' s v' (xs ++ ys) → wpList Try.prog ops Q rest (a.put o.dst v') w') : wpList Try.prog ops Q (o :: rest) a wr := by
  refine wpList_plain hgd fun K' hK' => ?_
  obtain ⟨v', w', hr, h2⟩ := h.app o.type hB hT (cap := cap) hs hn
  unfold Oper.wp execOp
  simp only [ho, resolve, invoke, builtin, Sem.run_bind, Sem.run_pure, Result.andThen_ok, List.map_toArray, List.map_cons, List.map_nil, hx, hy, hr]
  exact hK' _ _ (hK v' w' h2)
end
/-- the arena after some uses -/
def usedA (s : Ar) (u : Int) : Ar := { s with uses := u }
def basesF (l : List Nat) : List Int := l.map fun b : Nat => 8 * (b : Int)
/-- what List leaves -/
def ListPost (B : Ab) (w : World) (s : Ar) (l : List Nat) (e : Ending) (w' : World) : Prop := ∃ v u, e = .returned v ∧ LsW B w w' (usedA s u) v (basesF l)
def sliceLen : Value → Nat
  | .slice _ n _ => n
  | _ => 0
theorem basesF_len (l : List Nat) : (basesF l).length = l.length := by simp [basesF]
/-- all that holds at a round's head -/
structure LiR (B : Ab) (W : World) (s : Ar) (l : List Nat) (bv : Value) (done rest : List Nat) (wr : World) : Prop where
  sp : l = done ++ rest
  ls : ∃ u, LsW B W wr (usedA s u) bv (basesF done)
theorem chn_tail {lk : Nat → Int} : ∀ {a b : List Nat}, Chn lk (a ++ b) → Chn lk b
  | [], _, h => h
  | _ :: _, _, h => chn_tail h.2
theorem nodup_le : ∀ (M : Nat) (l : List Nat), l.Nodup → (∀ b ∈ l, b < M) → l.length ≤ M
  | 0, l, _, h => by
    cases l with
    | nil => exact Nat.le_refl _
    | cons a r => exact absurd (h a (by simp)) (by omega)
  | M + 1, l, hn, h => by
    by_cases hm : M ∈ l
    · have h1 := nodup_le M (l.erase M) (hn.erase M) fun b hb => by
        rw [hn.mem_erase_iff] at hb
        have := h b hb.2
        omega
      rw [List.length_erase_of_mem hm] at h1
      omega
    · have := nodup_le M l hn fun b hb => by
        have h1 := h b hb
        have h2 : b ≠ M := fun e => hm (e ▸ hb)
        omega
      omega
theorem nxt_cons (b : Nat) (r : List Nat) : nxt (b :: r) = (b : Int) + 1 := rfl
section
variable {K M : Nat} {B : Ab} {w : World} {s : Ar} {hd lk : Nat → Int} {p : Pl5} {k : Nat}
set_option maxHeartbeats 1000000 in
theorem List_any (hA : ArAt B w s) (hR : RwL K M s hd lk) (hp : PlK K p) {a c : Int} (hk : k < K) (hh : headF p a c = k) {l : List Nat} (hL : Ls M (hd k) lk l) (hM : M ≤ 9000) :
    Calls Try.prog 15 #[ptrA B, p.v, .int .i64 a, .int .i64 c] w (ListPost B w s l) := by
  have hh1 := fun wx => head_any p a c wx
  rw [hh] at hh1
  have hf := hR.fit
  have hg := hR.big
  have r0 : ∀ u wx, ArAt B wx (usedA s u) → ∃ u', Calls Try.prog 21 #[ptrA B, .int .i64 (k : Int)] wx (A9.Left9 B wx (.int .i64 (hd k)) (usedA s u')) := fun u wx hx => by
    have h := A9.Raw_any hx (k : Int)
    rw [rawA_head (s := usedA s u) ⟨hR.fit, hR.big, hR.hds, hR.lks⟩ hk] at h
    exact ⟨_, h⟩
  have r1 : ∀ (b : Nat), b < M → ∀ u wx, ArAt B wx (usedA s u) → ∃ u', Calls Try.prog 21 #[ptrA B, .int .i64 (linkF p ((b : Int) + 1))] wx (A9.Left9 B wx (.int .i64 (lk b)) (usedA s u')) := fun b hb u wx hx => by
    have h := A9.Raw_any hx (linkF p ((b : Int) + 1))
    rw [rawA_link (s := usedA s u) ⟨hR.fit, hR.big, hR.hds, hR.lks⟩ hp hb] at h
    exact ⟨_, h⟩
  have l1 := fun (b : Nat) wx => link_any p ((b : Int) + 1) wx
  have f1 := fun wx => firstOf_any (hd k) wx
  rw [hL.head] at f1
  have u1 : ∀ (b : Nat), b < M → ∀ wx, Calls Try.prog 27 #[.int .i64 ((b : Int) + 1)] wx fun e w' => e = .returned (.int .i64 (8 * (b : Int))) ∧ w' = wx := fun b hb wx => by
    have := unmark_any ((b : Int) + 1) wx
    rw [unmF_eq (by omega) (by omega), show 8 * ((b : Int) + 1 - 1) = 8 * (b : Int) by omega] at this
    exact this
  have hlen : l.length ≤ M := nodup_le M l hL.nd hL.lt
  have HA : Hid (ArAt B w (usedA s s.uses)) := hA
  have HB : Hid ((∀ j, B.has j → j < w.heap.size) ∧ (∀ j, isTab j → j < w.heap.size)) := ⟨fun j hj => hA.lt hj, tab_lt hA.tab⟩
  have HL : Hid (Ls M (hd k) lk l) := hL
  unfold Pl5.v at hh1 l1 ⊢
  generalize hd k = h0 at *
  clear hA hL hR hh hp
  go_enter Try.func15, Try.ntmps15
  go_wp2_with fail
  refine (hh1 _).mono ?_
  rintro e w1 ⟨rfl, hb1⟩
  obtain ⟨W, hW⟩ : ∃ W, Hid (W = w1) := ⟨_, rfl⟩
  have hbx : (w.alloc (plBox p)).heap[w.heap.size]? = some (plBox p) := (Go.MapKept.heap_alloc w _).1
  have hb0 : Below w.heap.size w (w.alloc (plBox p)) := (Below.refl _ _).alloc (Nat.le_refl _) _
  have hlt := lt_of_block hbx
  have hb2 : Below (w.alloc (plBox p)).heap.size (w.alloc (plBox p)) w1 := hb1
  have hbx1 : w1.heap[w.heap.size]? = some (plBox p) := (hb2.block _ hlt).trans hbx
  have hb3 : Below w.heap.size w w1 := below_next hb0 (Nat.le_of_lt hlt) hb2
  have hA1 : ArAt B w1 (usedA s s.uses) := HA.out.below hb3
  have HB1 : Hid ((∀ j, B.has j → j < w1.heap.size) ∧ (∀ j, isTab j → j < w1.heap.size)) := ⟨fun j hj => Nat.lt_of_lt_of_le (HB.out.1 j hj) hb3.size, fun j hj => Nat.lt_of_lt_of_le (HB.out.2 j hj) hb3.size⟩
  clear hb1 hb2 hbx hb0 hh1
  obtain ⟨g, HG⟩ : ∃ g, Hid (g = w.heap.size) := ⟨_, rfl⟩
  rw [← (HG.out : g = w.heap.size)] at hbx1 ⊢
  clear hlt
  go_wp2_with fail
  obtain ⟨u0, K0⟩ := r0 _ _ hA1
  refine K0.mono ?_
  rintro e w2 ⟨rfl, hA2, hF2⟩
  have hbx2 : w2.heap[g]? = some (plBox p) := (hF2.block g (lt_of_block hbx1) fun hb => by have := HB.out.1 g hb; have e2 : g = w.heap.size := HG.out; omega).trans hbx1
  have HS : Hid (LiR B w2 s l (.slice none 0 0) [] l w2) := ⟨rfl, ⟨u0, .nil hA2⟩⟩
  have HB2 : Hid ((∀ j, B.has j → j < w2.heap.size) ∧ (∀ j, isTab j → j < w2.heap.size) ∧ g < w2.heap.size ∧ ¬ B.has g ∧ w2.heap[g]? = some (plBox p)) := ⟨fun j hj => Nat.lt_of_lt_of_le (HB1.out.1 j hj) hF2.size, fun j hj => Nat.lt_of_lt_of_le (HB1.out.2 j hj) hF2.size, lt_of_block hbx2, fun hb => by have := HB.out.1 g hb; have e2 : g = w.heap.size := HG.out; omega, hbx2⟩
  have HF2 : Hid (FrA B w w2) := (FrA.of_below hb3).trans hF2
  have HN : Hid (l.length ≤ M ∧ M ≤ 9000) := ⟨hlen, hM⟩
  clear K0 hA1 hA2 hF2 hbx1 hbx2 r0 hlen hM HB1 HB hb3
  go_wp2_with fail
  refine (f1 _).mono ?_
  rintro e w3 ⟨rfl, rfl⟩
  go_wp2_with fail
  go_loopw [9, 10] (fun bv av wr => ∃ done rest, av = .int .i64 (nxt rest) ∧ LiR B w3 s l bv done rest wr) (fun bv _ _ => 10000 - sliceLen bv)
  case atStart => exact ⟨[], l, rfl, HS.out⟩
  case round =>
    obtain ⟨done, rest, rfl, hsp, ⟨u, hls⟩⟩ := hrel
    clear HS
    obtain ⟨wq, rfl⟩ : ∃ W, W = wr := ⟨wr, rfl⟩
    obtain ⟨n, hn⟩ : ∃ n, done.length = n := ⟨_, rfl⟩
    have hrow := hls.row
    rw [basesF_len, hn] at hrow
    obtain ⟨ba, bc, rfl⟩ := A9.own_any hrow
    have hdl : n + rest.length = l.length := by rw [hsp, List.length_append, hn]
    cases rest with
    | nil =>
      rw [show nxt [] = 0 from rfl]
      have hd2 : done = l := by rw [hsp, List.append_nil]
      have HLS : Hid (∃ v u, (Value.slice ba n bc = v) ∧ LsW B w3 wq (usedA s u) v (basesF l)) := ⟨_, u, rfl, by rw [← hd2]; exact hls⟩
      clear r1 l1 u1 f1 hls hrow hsp hd2 hn hdl
      go_wp2_with fail
      go_ret
      obtain ⟨v, u', rfl, h⟩ := HLS.out
      exact ⟨_, u', rfl, own_base h.row HF2.out.size, HF2.out.trans h.fr, h.ar⟩
    | cons b r =>
      rw [nxt_cons]
      have hbM : b < M := HL.out.lt b (by rw [hsp]; simp)
      have hch : lk b = nxt r := by
        have := HL.out.chain
        rw [hsp] at this
        exact (chn_tail this).1
      simp only [List.length_cons] at hdl
      have hne : ((b : Int) + 1 != 0) = true := by simp; omega
      have hlt : (n : Int) < 10000 := by have := HN.out; omega
      have ub := u1 b hbM
      have lb := l1 b
      have HLS : Hid (LsW B w3 wq (usedA s u) (.slice ba n bc) (basesF done)) := hls
      have HLN : Hid ((basesF done).length + [8 * (b : Int)].length ≤ 20000) := by
        show (basesF done).length + [8 * (b : Int)].length ≤ 20000
        have := HN.out
        rw [basesF_len, hn]
        simp
        omega
      have HR1 : Hid (∀ u wx, ArAt B wx (usedA s u) → ∃ u', Calls Try.prog 21 #[ptrA B, .int .i64 (linkF p ((b : Int) + 1))] wx (A9.Left9 B wx (.int .i64 (lk b)) (usedA s u'))) := r1 b hbM
      have HSP : Hid (l = (done ++ [b]) ++ r ∧ done.length = n ∧ n + (r.length + 1) = l.length ∧ lk b = nxt r) := ⟨by rw [hsp]; simp, hn, hdl, hch⟩
      clear hls hrow hsp hdl hn hch r1 u1 l1 f1
      go_wp2_with (first | (go_at_call 27; refine (ub _).mono ?_; rintro e w4 ⟨rfl, rfl⟩) | (refine list_appL rfl _ _ rfl (HLS.out.alloc HB2.out.1 _) HB2.out.1 HB2.out.2.1 rfl rfl (src_one _ _) HLN.out ?_; intro v5 w5 hL5; have hbx5 := (hL5.fr.block g HB2.out.2.2.1 HB2.out.2.2.2.1).trans HB2.out.2.2.2.2; obtain ⟨c0, c1, c2, c3, c4⟩ := plS_of hbx5))
      refine (lb _).mono ?_
      rintro e w6 ⟨rfl, hb6⟩
      have hA6 := hL5.ar.below hb6
      obtain ⟨u6, K6⟩ := HR1.out _ _ hA6
      go_wp2_with fail
      refine K6.mono ?_
      rintro e w7 ⟨rfl, hA7, hF7⟩
      have hL7 := hL5.step HB2.out.1 hA7 ((FrA.of_below hb6).trans hF7)
      have hrow7 := hL7.row
      rw [List.length_append, basesF_len, HSP.out.2.1] at hrow7
      obtain ⟨a7, c7, rfl⟩ := A9.own_any hrow7
      go_wp2_with fail
      go_roundw
      case rel => exact ⟨done ++ [b], r, by rw [HSP.out.2.2.2], HSP.out.1, _, by simpa [basesF] using hL7⟩
      case measure =>
        have := HN.out
        have := HSP.out.2.2.1
        simp [sliceLen]
        omega
end
end Go.Proofs.Ytfljoedjnigfjaa
namespace Go.Proofs.Ytfljoedjnigfjaa
open Go.RowKit
open A9 (Ab ArAt ArMem FrA Ar rawA setRawA swapRawA useA ptrA)

theorem nilPuStep (a : Addr) (w : World) : (nilAhead 201 33 (.pointer (some a)) "Step").run Try.prog w = .ok (some false) w := by kernel_rfl
theorem mthPuStep (a : Addr) (w : World) : (method 201 33 (.pointer (some a)) "Step").run Try.prog w = .ok (19, .pointer (some a)) w := by kernel_rfl
theorem nilPoStep (a : Addr) (w : World) : (nilAhead 201 35 (.pointer (some a)) "Step").run Try.prog w = .ok (some false) w := by kernel_rfl
theorem mthPoStep (a : Addr) (w : World) : (method 201 35 (.pointer (some a)) "Step").run Try.prog w = .ok (20, .pointer (some a)) w := by kernel_rfl
section
variable {q : Nat} {w : World} {p : Pl5} {b : Int} {B : Ab} {s0 s1 s2 s3 : Ar} {t0 t1 t2 t3 : Tn}
def okPh (t : Tn) : Prop := t.ph = 0 ∨ t.ph = 1 ∨ t.ph = 2 ∨ t.ph = 3
theorem runPu3 (hA : ArAt B w s0) (hq : ¬ B.has q) (hn : noT q) (hP : PuAt q w p b t0) (p0 : okPh t0) (p1 : okPh t1) (p2 : okPh t2)
    (e0 : puStep p b s0 t0 = (s1, t1, false)) (e1 : puStep p b s1 t1 = (s2, t2, false)) (e2 : puStep p b s2 t2 = (s3, t3, true)) (u0 : s1.uses = wrap64 (s0.uses + 1)) (u1 : s2.uses = wrap64 (s1.uses + 1)) (u2 : s3.uses = wrap64 (s2.uses + 1)) :
    Calls Try.prog 11 #[ptrA B, ifPu q] w (TuPost B q w p b (s3, t3, true)) := by
  have k0 := PuStep_any hA hq hn hP p0
  have k1 := fun wx (hx : ArAt B wx s1) (hy : PuAt q wx p b t1) => PuStep_any hx hq hn hy p1
  have k2 := fun wx (hx : ArAt B wx s2) (hy : PuAt q wx p b t2) => PuStep_any hx hq hn hy p2
  rw [e0] at k0
  rw [e1] at k1
  rw [e2] at k2
  have v0 := A9.Uses_any hA
  have v1 := fun wx (hx : ArAt B wx s1) => A9.Uses_any hx
  have v2 := fun wx (hx : ArAt B wx s2) => A9.Uses_any hx
  have v3 := fun wx (hx : ArAt B wx s3) => A9.Uses_any hx
  have d0 : decide (wrap64 (s0.uses + 1) < s1.uses) = false := by simp [u0]
  have d1 : decide (wrap64 (s1.uses + 1) < s2.uses) = false := by simp [u1]
  have d2 : decide (wrap64 (s2.uses + 1) < s3.uses) = false := by simp [u2]
  have x1 := nilPuStep ⟨q, 0, none⟩
  have x2 := mthPuStep ⟨q, 0, none⟩
  clear hA hP e0 e1 e2 p0 p1 p2 u0 u1 u2
  generalize s0.uses = c0 at *
  generalize s1.uses = c1 at *
  generalize s2.uses = c2 at *
  generalize s3.uses = c3 at *
  go_enter Try.func11, Try.ntmps11
  go_wp2_with fail
  refine wp_loop_rounds 3 ?_
  rw [rounds_succ]
  go_wp2_with fail
  refine v0.mono ?_
  rintro e w1 ⟨rfl, rfl⟩
  go_wp2_with fail
  refine k0.mono ?_
  rintro e w1 ⟨rfl, hA1, hP1, hF1⟩
  go_wp2_with fail
  refine (v1 _ hA1).mono ?_
  rintro e w2 ⟨rfl, rfl⟩
  go_wp2_with fail
  rw [rounds_succ]
  go_wp2_with fail
  refine (v1 _ hA1).mono ?_
  rintro e w2 ⟨rfl, rfl⟩
  go_wp2_with fail
  refine (k1 _ hA1 hP1).mono ?_
  rintro e w2 ⟨rfl, hA2, hP2, hF2⟩
  replace hF2 := hF1.trans hF2
  clear hA1 hP1 hF1
  go_wp2_with fail
  refine (v2 _ hA2).mono ?_
  rintro e w3 ⟨rfl, rfl⟩
  go_wp2_with fail
  rw [rounds_succ]
  go_wp2_with fail
  refine (v2 _ hA2).mono ?_
  rintro e w3 ⟨rfl, rfl⟩
  go_wp2_with fail
  refine (k2 _ hA2 hP2).mono ?_
  rintro e w3 ⟨rfl, hA3, hP3, hF3⟩
  replace hF3 := hF2.trans hF3
  clear hA2 hP2 hF2
  go_wp2_with fail
  refine (v3 _ hA3).mono ?_
  rintro e w4 ⟨rfl, rfl⟩
  go_wp2_with fail
  go_ret
  exact ⟨rfl, hA3, hP3, hF3⟩
theorem runPo3 (hA : ArAt B w s0) (hq : ¬ B.has q) (hn : noT q) (hP : PoAt q w p t0) (p0 : okPh t0) (p1 : okPh t1) (p2 : okPh t2)
    (e0 : poStep p s0 t0 = (s1, t1, false)) (e1 : poStep p s1 t1 = (s2, t2, false)) (e2 : poStep p s2 t2 = (s3, t3, true)) (u0 : s1.uses = wrap64 (s0.uses + 1)) (u1 : s2.uses = wrap64 (s1.uses + 1)) (u2 : s3.uses = wrap64 (s2.uses + 1)) :
    Calls Try.prog 11 #[ptrA B, ifPo q] w (ToPost B q w p (s3, t3, true)) := by
  have k0 := PoStep_any hA hq hn hP p0
  have k1 := fun wx (hx : ArAt B wx s1) (hy : PoAt q wx p t1) => PoStep_any hx hq hn hy p1
  have k2 := fun wx (hx : ArAt B wx s2) (hy : PoAt q wx p t2) => PoStep_any hx hq hn hy p2
  rw [e0] at k0
  rw [e1] at k1
  rw [e2] at k2
  have v0 := A9.Uses_any hA
  have v1 := fun wx (hx : ArAt B wx s1) => A9.Uses_any hx
  have v2 := fun wx (hx : ArAt B wx s2) => A9.Uses_any hx
  have v3 := fun wx (hx : ArAt B wx s3) => A9.Uses_any hx
  have d0 : decide (wrap64 (s0.uses + 1) < s1.uses) = false := by simp [u0]
  have d1 : decide (wrap64 (s1.uses + 1) < s2.uses) = false := by simp [u1]
  have d2 : decide (wrap64 (s2.uses + 1) < s3.uses) = false := by simp [u2]
  have x1 := nilPoStep ⟨q, 0, none⟩
  have x2 := mthPoStep ⟨q, 0, none⟩
  clear hA hP e0 e1 e2 p0 p1 p2 u0 u1 u2
  generalize s0.uses = c0 at *
  generalize s1.uses = c1 at *
  generalize s2.uses = c2 at *
  generalize s3.uses = c3 at *
  go_enter Try.func11, Try.ntmps11
  go_wp2_with fail
  refine wp_loop_rounds 3 ?_
  rw [rounds_succ]
  go_wp2_with fail
  refine v0.mono ?_
  rintro e w1 ⟨rfl, rfl⟩
  go_wp2_with fail
  refine k0.mono ?_
  rintro e w1 ⟨rfl, hA1, hP1, hF1⟩
  go_wp2_with fail
  refine (v1 _ hA1).mono ?_
  rintro e w2 ⟨rfl, rfl⟩
  go_wp2_with fail
  rw [rounds_succ]
  go_wp2_with fail
  refine (v1 _ hA1).mono ?_
  rintro e w2 ⟨rfl, rfl⟩
  go_wp2_with fail
  refine (k1 _ hA1 hP1).mono ?_
  rintro e w2 ⟨rfl, hA2, hP2, hF2⟩
  replace hF2 := hF1.trans hF2
  clear hA1 hP1 hF1
  go_wp2_with fail
  refine (v2 _ hA2).mono ?_
  rintro e w3 ⟨rfl, rfl⟩
  go_wp2_with fail
  rw [rounds_succ]
  go_wp2_with fail
  refine (v2 _ hA2).mono ?_
  rintro e w3 ⟨rfl, rfl⟩
  go_wp2_with fail
  refine (k2 _ hA2 hP2).mono ?_
  rintro e w3 ⟨rfl, hA3, hP3, hF3⟩
  replace hF3 := hF2.trans hF3
  clear hA2 hP2 hF2
  go_wp2_with fail
  refine (v3 _ hA3).mono ?_
  rintro e w4 ⟨rfl, rfl⟩
  go_wp2_with fail
  go_ret
  exact ⟨rfl, hA3, hP3, hF3⟩
theorem runPo1 (hA : ArAt B w s0) (hq : ¬ B.has q) (hn : noT q) (hP : PoAt q w p t0) (p0 : okPh t0) (e0 : poStep p s0 t0 = (s1, t1, true)) (u0 : s1.uses = wrap64 (s0.uses + 1)) :
    Calls Try.prog 11 #[ptrA B, ifPo q] w (ToPost B q w p (s1, t1, true)) := by
  have k0 := PoStep_any hA hq hn hP p0
  rw [e0] at k0
  have v0 := A9.Uses_any hA
  have v1 := fun wx (hx : ArAt B wx s1) => A9.Uses_any hx
  have d0 : decide (wrap64 (s0.uses + 1) < s1.uses) = false := by simp [u0]
  have x1 := nilPoStep ⟨q, 0, none⟩
  have x2 := mthPoStep ⟨q, 0, none⟩
  clear hA hP e0 p0 u0
  generalize s0.uses = c0 at *
  generalize s1.uses = c1 at *
  go_enter Try.func11, Try.ntmps11
  go_wp2_with fail
  refine wp_loop_rounds 1 ?_
  rw [rounds_succ]
  go_wp2_with fail
  refine v0.mono ?_
  rintro e w1 ⟨rfl, rfl⟩
  go_wp2_with fail
  refine k0.mono ?_
  rintro e w1 ⟨rfl, hA1, hP1, hF1⟩
  go_wp2_with fail
  refine (v1 _ hA1).mono ?_
  rintro e w2 ⟨rfl, rfl⟩
  go_wp2_with fail
  go_ret
  exact ⟨rfl, hA1, hP1, hF1⟩
end
end Go.Proofs.Ytfljoedjnigfjaa
namespace Go.Proofs.Ytfljoedjnigfjaa
open Go.RowKit
open A9 (Ab ArAt ArMem FrA Ar rawA useA ptrA New9 new9)
open H8 (HTab below_then)

theorem noT_new {w : World} (_ : HTab w) {q : Nat} (_ : w.heap.size ≤ q) : noT q := ⟨trivial, trivial⟩
/-- an arena of the call's own, and the box of its places -/
structure Wk (B : Ab) (W w : World) (s : Ar) (g : Nat) (p : Pl5) : Prop where
  ar : ArAt B w s
  low : Below W.heap.size W w
  own : ∀ k, B.has k → W.heap.size ≤ k
  bx : w.heap[g]? = some (plBox p)
  gB : ¬ B.has g
  gW : W.heap.size ≤ g
theorem tab_new {w w1 : World} {o : Obj} (h : HTab w) (hb1 : Below w.heap.size w w1) : HTab (w1.alloc o) := (h.below hb1).alloc o
section
variable {B : Ab} {W w w' : World} {s s' : Ar} {g q : Nat} {p : Pl5} {K M T k b : Nat} {hd lk : Nat → Int} {ls : Nat → List Nat}
theorem Wk.pl (h : Wk B W w s g p) : plS g p w := plS_of h.bx
theorem Wk.glt (h : Wk B W w s g p) : g < w.heap.size := lt_of_block h.bx
theorem Wk.below (h : Wk B W w s g p) (hb : Below w.heap.size w w') : Wk B W w' s g p := ⟨h.ar.below hb, below_then h.low hb, h.own, (hb.block g h.glt).trans h.bx, h.gB, h.gW⟩
theorem Wk.step (h : Wk B W w s g p) (hA : ArAt B w' s') (hF : FrS (fun k => B.has k ∨ k = q) w w') (hq : W.heap.size ≤ q) (hg : g ≠ q) : Wk B W w' s' g p :=
  ⟨hA, h.low.trans (hF.below h.low.size fun k hk => by
    rcases hk with hk | rfl
    · exact h.own k hk
    · exact hq), h.own, (hF.block g h.glt fun hk => by
    rcases hk with hk | hk
    · exact h.gB hk
    · exact hg hk).trans h.bx, h.gB, h.gW⟩
theorem Wk.arena (h : Wk B W w s g p) (hA : ArAt B w' s') (hF : FrA B w w') : Wk B W w' s' g p :=
  ⟨hA, h.low.trans (hF.below h.low.size h.own), h.own, (hF.block g h.glt h.gB).trans h.bx, h.gB, h.gW⟩
theorem Wk.new {w1 : World} (hA : ArAt B w' s) (hb : Below w1.heap.size w1 w') (hl : Below W.heap.size W w1) (hB : ∀ k, B.has k → w1.heap.size ≤ k) (hbx : w1.heap[g]? = some (plBox p)) (hg : W.heap.size ≤ g) : Wk B W w' s g p := by
  have hlt := lt_of_block hbx
  exact ⟨hA, below_then hl hb, fun k hk => Nat.le_trans hl.size (hB k hk), (hb.block g hlt).trans hbx, fun hk => by have := hB g hk; omega, hg⟩
theorem Wk.begin {w1 w2 : World} (hb1 : Below w.heap.size w w1) (hA : ArAt B w2 s) (hb2 : Below (w1.alloc (plBox p)).heap.size (w1.alloc (plBox p)) w2) (hB : ∀ k, B.has k → (w1.alloc (plBox p)).heap.size ≤ k) : Wk B w w2 s w1.heap.size p :=
  .new hA hb2 (hb1.alloc hb1.size _) hB (Go.MapKept.heap_alloc w1 _).1 hb1.size
theorem Lst.new (r n : Int) (fr : Bool) (h : K + M ≤ (new9 r n fr).nr) (hb : K + M ≤ 65536) : Lst K M (new9 r n fr) (fun _ => 0) (fun _ => 0) (fun _ => []) 0 :=
  ⟨⟨h, hb, fun _ _ => rfl, fun _ _ => rfl⟩, fun _ _ => ⟨rfl, trivial, List.nodup_nil, fun _ hb => by simp at hb, fun _ _ => ⟨Int.le_refl _, by show (0 : Int) ≤ M; omega⟩, by decide⟩, fun _ _ _ _ _ _ hb => by simp at hb, fun _ _ => by decide⟩
theorem Lst.used (h : Lst K M s hd lk ls T) (u : Int) : Lst K M (usedA s u) hd lk ls T := ⟨⟨h.fit, h.big, h.hds, h.lks⟩, h.L, h.two, h.tg⟩
/-- a push by itself -/
theorem doPush (hA : ArAt B w s) (hL : Lst K M s hd lk ls T) (hp : PlK K p) (hq : ¬ B.has q) (hn : noT q) (hk : k < K) (hb : b < M) (hP : PuAt q w p ((b : Int) + 1) ⟨k, 0, 0, 0⟩) :
    Calls Try.prog 11 #[ptrA B, ifPu q] w (TuPost B q w p ((b : Int) + 1) (pushS K s hd k b, ⟨k, 3, hd k, (b : Int) + 1⟩, true)) := by
  obtain ⟨e0, e1, e2⟩ := push3 hL hp hk hb 0 0
  exact runPu3 hA hq hn hP (.inl rfl) (.inr (.inl rfl)) (.inr (.inr (.inl rfl))) e0 e1 e2 rfl rfl rfl
theorem doPop (hA : ArAt B w s) (hL : Lst K M s hd lk ls T) (hp : PlK K p) (hq : ¬ B.has q) (hn : noT q) (hk : k < K) {r : List Nat} (hl : ls k = b :: r) (hP : PoAt q w p ⟨k, 0, 0, 0⟩) :
    Calls Try.prog 11 #[ptrA B, ifPo q] w (ToPost B q w p (popS s hd lk k b, ⟨k, 3, hd k, lk b⟩, true)) := by
  obtain ⟨e0, e1, e2, -⟩ := pop3 hL hp hk hl 0 0
  exact runPo3 hA hq hn hP (.inl rfl) (.inr (.inl rfl)) (.inr (.inr (.inl rfl))) e0 e1 e2 rfl rfl rfl
theorem doPop0 (hA : ArAt B w s) (hL : Lst K M s hd lk ls T) (hq : ¬ B.has q) (hn : noT q) (hk : k < K) (hl : ls k = []) (hP : PoAt q w p ⟨k, 0, 0, 0⟩) :
    Calls Try.prog 11 #[ptrA B, ifPo q] w (ToPost B q w p (useA s, ⟨k, 3, hd k, 0⟩, true)) := by
  obtain ⟨e0, -⟩ := pop1 (p := p) hL hk hl 0 0
  exact runPo1 hA hq hn hP (.inl rfl) e0 rfl
/-- .. and where the push came from -/
theorem doPushW (h : Wk B W w s g p) (hL : Lst K M s hd lk ls T) (hp : PlK K p) (hq : ¬ B.has q) (hn : noT q) (hqW : W.heap.size ≤ q) (hqg : g ≠ q) (hk : k < K) (hb : b < M) (hno : ∀ j, j < K → b ∉ ls j) (hT : T ≤ 1000000) (hP : PuAt q w p ((b : Int) + 1) ⟨k, 0, 0, 0⟩) :
    Calls Try.prog 11 #[ptrA B, ifPu q] w fun e w' => e = .returned (.bool true) ∧ ∃ s', s' = pushS K s hd k b ∧ Wk B W w' s' g p ∧ s'.bad = s.bad ∧ Lst K M s' (upH hd k (mkF (tagF (hd k) + 1) ((b : Int) + 1))) (upL lk b (codF (hd k))) (upLs ls k (b :: ls k)) (T + 1) ∧ FrS (fun k => B.has k ∨ k = q) w w' ∧ ∃ t, PuAt q w' p ((b : Int) + 1) t ∧ t.ph = 3 :=
  (doPush h.ar hL hp hq hn hk hb hP).mono fun e w' h2 => by
    obtain ⟨h3, h4, h5, h6⟩ := h2
    exact ⟨h3, _, rfl, h.step h4 h6 hqW hqg, rfl, hL.push hT hk hb hno, h6, _, h5, rfl⟩
theorem doPopW (h : Wk B W w s g p) (hL : Lst K M s hd lk ls T) (hp : PlK K p) (hq : ¬ B.has q) (hn : noT q) (hqW : W.heap.size ≤ q) (hqg : g ≠ q) (hk : k < K) {r : List Nat} (hl : ls k = b :: r) (hT : T ≤ 1000000) (hP : PoAt q w p ⟨k, 0, 0, 0⟩) :
    Calls Try.prog 11 #[ptrA B, ifPo q] w fun e w' => e = .returned (.bool true) ∧ ∃ s' t, s' = popS s hd lk k b ∧ Wk B W w' s' g p ∧ s'.bad = s.bad ∧ Lst K M s' (upH hd k (mkF (tagF (hd k) + 1) (lk b))) lk (upLs ls k r) (T + 1) ∧ FrS (fun k => B.has k ∨ k = q) w w' ∧ PoAt q w' p t ∧ t.ph = 3 ∧ baseF t = (8 * (b : Int), true) :=
  (doPop h.ar hL hp hq hn hk hl hP).mono fun e w' h2 => by
    obtain ⟨h3, h4, h5, h6⟩ := h2
    exact ⟨h3, _, _, rfl, h.step h4 h6 hqW hqg, rfl, hL.pop hT hk hl, h6, h5, rfl, (pop3 hL hp hk hl 0 0).2.2.2⟩
theorem doPop0W (h : Wk B W w s g p) (hL : Lst K M s hd lk ls T) (hq : ¬ B.has q) (hn : noT q) (hqW : W.heap.size ≤ q) (hqg : g ≠ q) (hk : k < K) (hl : ls k = []) (hP : PoAt q w p ⟨k, 0, 0, 0⟩) :
    Calls Try.prog 11 #[ptrA B, ifPo q] w fun e w' => e = .returned (.bool true) ∧ ∃ s' t, s' = useA s ∧ Wk B W w' s' g p ∧ s'.bad = s.bad ∧ Lst K M s' hd lk ls T ∧ FrS (fun k => B.has k ∨ k = q) w w' ∧ PoAt q w' p t ∧ t.ph = 3 ∧ baseF t = (0, false) :=
  (doPop0 h.ar hL hq hn hk hl hP).mono fun e w' h2 => by
    obtain ⟨h3, h4, h5, h6⟩ := h2
    exact ⟨h3, _, _, rfl, h.step h4 h6 hqW hqg, rfl, hL.use, h6, h5, rfl, (pop1 (p := p) hL hk hl 0 0).2⟩
theorem ListW (h : Wk B W w s g p) (hL : Lst K M s hd lk ls T) (hp : PlK K p) {a c : Int} (hk : k < K) (hh : headF p a c = k) (hM : M ≤ 9000) {l : List Nat} (hl : ls k = l) :
    Calls Try.prog 15 #[ptrA B, p.v, .int .i64 a, .int .i64 c] w fun e w' => ∃ v s', e = .returned v ∧ Wk B W w' s' g p ∧ s'.bad = s.bad ∧ Lst K M s' hd lk ls T ∧ LsW B w w' s' v (basesF l) :=
  (List_any h.ar hL.toRwL hp hk hh (hl ▸ hL.L k hk) hM).mono fun e w' h2 => by
    obtain ⟨v, u, h3, h4⟩ := h2
    exact ⟨v, _, h3, h.arena h4.ar h4.fr, rfl, hL.used u, h4⟩
end
end Go.Proofs.Ytfljoedjnigfjaa
namespace Go.Proofs.Ytfljoedjnigfjaa
open Go.RowKit
open A9 (Ab ArAt ArMem FrA Ar rawA useA ptrA New9 new9)
open H8 (HTab below_then)

theorem pushS_bad (K : Nat) (s : Ar) (hd : Nat → Int) (k b : Nat) : (pushS K s hd k b).bad = s.bad := rfl
theorem popS_bad (s : Ar) (hd lk : Nat → Int) (k b : Nat) : (popS s hd lk k b).bad = s.bad := rfl
theorem Raw_at {a n : Int} (p : Pl5) (x : Int) (hp : plF a n = p) (hx : p.cv + 1 = x) (ha : a ≤ 1000000) (hn : n ≤ 1000000) (w : World) : Calls Try.prog 8 #[.int .i64 a, .int .i64 n] w fun e w' => e = .returned (.tuple #[p.v, .int .i64 x]) ∧ Below w.heap.size w w' := by
  have h := Raw_any a n ha hn w
  rw [hp, hx] at h
  exact h
def enP : Pl5 := ⟨1, 0, 4, 68, 132⟩
def awP : Pl5 := ⟨2, 0, 8, 16, 24⟩
set_option maxHeartbeats 4000000 in
theorem awake_any (w : World) (hT : HTab w) : Calls Try.prog 17 #[] w fun e w' => e = .returned (.bool true) ∧ Below w.heap.size w w' := by
  have kR := fun wx => Raw_at (a := 2) (n := 64) awP 25 rfl rfl (by omega) (by omega) wx
  have kN := fun wx (hx : HTab wx) => A9.New_any 25 64 false wx hx
  have h0 : Hid (Lst 8 8 (new9 25 64 false) (fun _ => 0) (fun _ => 0) (fun _ => []) 0) := Lst.new (K := 8) (M := 8) 25 64 false (by decide) (by decide)
  have h0b : Hid ((new9 25 64 false).bad = false) := rfl
  have hh : headF awP 0 0 = 0 := headF_eq (K := 8) (p := awP) ⟨rfl, rfl⟩ (by omega) (by omega) (by omega) (by omega)
  have n8 : ∀ wx, Calls Try.prog 12 #[.agg #[.int .i64 2, .int .i64 0, .int .i64 8, .int .i64 16, .int .i64 24], .int .i64 0, .int .i64 0, .int .i64 8] wx (NewPuPost wx awP 2 0) := fun wx => by
    have h := NewPush_any awP 0 0 8 (by omega) (by omega) wx
    rw [hh] at h
    exact h
  have n16 : ∀ wx, Calls Try.prog 12 #[.agg #[.int .i64 2, .int .i64 0, .int .i64 8, .int .i64 16, .int .i64 24], .int .i64 0, .int .i64 0, .int .i64 16] wx (NewPuPost wx awP 3 0) := fun wx => by
    have h := NewPush_any awP 0 0 16 (by omega) (by omega) wx
    rw [hh] at h
    exact h
  have nz : ∀ wx, Calls Try.prog 13 #[.agg #[.int .i64 2, .int .i64 0, .int .i64 8, .int .i64 16, .int .i64 24], .int .i64 0, .int .i64 0] wx (NewPoPost wx awP 0) := fun wx => by
    have h := NewPop_any awP 0 0 wx
    rw [hh] at h
    exact h
  have HH : Hid (headF awP 0 0 = ((0 : Nat) : Int)) := hh
  clear hh
  have HT : Hid (HTab w) := hT
  generalize new9 25 64 false = s0 at *
  clear hT
  unfold Pl5.v awP at kR
  go_enter Try.func17, Try.ntmps17
  go_wp2_with fail
  refine (kR _).mono ?_
  rintro e w1 ⟨rfl, hb1⟩
  go_wp2_with fail
  refine (kN _ (tab_new HT.out hb1)).mono ?_
  rintro e w2 ⟨B, rfl, hA2, hb2, hlB⟩
  have hW2 : Wk B w w2 s0 w1.heap.size awP := Wk.begin hb1 hA2 hb2 hlB
  clear hA2 hb2 hlB hb1 kR kN
  generalize w1.heap.size = g at *
  have HW2 : Hid (Wk B w w2 s0 g awP) := hW2
  have q2 : plS g awP w2 := hW2.pl
  clear hW2
  have tokA : Hid True := trivial
  go_wp2_with fail
  go_region_held3 (fun w' => w'.cell? ⟨g, 0, none⟩ = some (.int .i64 2) ∧ w'.cell? ⟨g, 1, none⟩ = some (.int .i64 0) ∧ w'.cell? ⟨g, 2, none⟩ = some (.int .i64 8) ∧ w'.cell? ⟨g, 3, none⟩ = some (.int .i64 16) ∧ w'.cell? ⟨g, 4, none⟩ = some (.int .i64 24)) (first | exact q2 | exact hW3.pl | exact hW4.pl | exact hW5.pl) (first
    | (go_at_call 12; have tk := tokA; refine (n8 _).mono ?_; clear tokA tk; rintro e w3 ⟨x, rfl, hX3, hb3, lx3⟩; have hb3' : Below w2.heap.size w2 w3 := (by first | exact hb3 | exact below_then (Below.refl _ _).drew hb3); have lx3' : w2.heap.size ≤ x := lx3; have hW3 := HW2.out.below hb3')
    | (go_at_call 12; refine (n16 _).mono ?_; rintro e w4 ⟨y, rfl, hY4, hb4, ly4⟩; have hW4 := hW3.below hb4; have hX4 := hX3.same (hb4.block x hX3.lt))
    | (go_at_call 13; refine (nz _).mono ?_; rintro e w5 ⟨z, rfl, hZ5, hb5, lz5⟩; have hW5 := hW4.below hb5; have hX5 := hX4.same (hb5.block x hX4.lt); have hY5 := hY4.same (hb5.block y hY4.lt)))
  have hx3 := hX3.lt
  have hy4 := hY4.lt
  have ly4' : w3.heap.size ≤ y := ly4
  have lz5' : w4.heap.size ≤ z := lz5
  have h23 := hb3'.size
  have h34 := hb4.size
  have HV : Hid ((¬ B.has x ∧ ¬ B.has y ∧ ¬ B.has z) ∧ (noT x ∧ noT y ∧ noT z) ∧ (w.heap.size ≤ x ∧ w.heap.size ≤ y ∧ w.heap.size ≤ z) ∧ (g ≠ x ∧ g ≠ y ∧ g ≠ z) ∧ y ≠ x ∧ z ≠ x ∧ z ≠ y) := by
    have hl := HW2.out.low.size
    have hg := HW2.out.glt
    exact ⟨⟨fun hb => by have := HW2.out.ar.lt hb; omega, fun hb => by have := HW2.out.ar.lt hb; omega, fun hb => by have := HW2.out.ar.lt hb; omega⟩, ⟨noT_new HT.out (by omega), noT_new HT.out (by omega), noT_new HT.out (by omega)⟩, ⟨by omega, by omega, by omega⟩, ⟨by omega, by omega, by omega⟩, by omega, by omega, by omega⟩
  have kx := doPushW (K := 8) (M := 8) (k := 0) (b := 1) hW5 h0.out ⟨rfl, rfl⟩ HV.out.1.1 HV.out.2.1.1 HV.out.2.2.1.1 HV.out.2.2.2.1.1 (by omega) (by omega) (fun _ _ h => by simp at h) (by omega) hX5
  have HY5 : Hid (PuAt y w5 awP 3 ⟨0, 0, 0, 0⟩ ∧ PoAt z w5 awP ⟨0, 0, 0, 0⟩) := ⟨hY5, hZ5⟩
  clear hX3 hX4 hX5 hW3 hW4 hb3 hb3' q2 hx3 hy4 ly4 lz5 ly4' lz5' lx3 lx3' h23 h34 hb4 hb5 hY4 hY5 hZ5 hW5 n8 n16 nz
  go_wp2_with fail
  refine kx.mono ?_
  rintro e w6 ⟨rfl, s1, -, hW6, hB6, hL6, hF6, -⟩
  have hY6 : PuAt y w6 awP 3 ⟨0, 0, 0, 0⟩ := HY5.out.1.same (hF6.block y HY5.out.1.lt (fun h => h.elim (fun hb => HV.out.1.2.1 hb) (fun hb => HV.out.2.2.2.2.1 hb)))
  have hZ6 : PoAt z w6 awP ⟨0, 0, 0, 0⟩ := HY5.out.2.same (hF6.block z HY5.out.2.lt (fun h => h.elim (fun hb => HV.out.1.2.2 hb) (fun hb => HV.out.2.2.2.2.2.1 hb)))
  have ky := doPushW (K := 8) (M := 8) (k := 0) (b := 2) hW6 hL6 ⟨rfl, rfl⟩ HV.out.1.2.1 HV.out.2.1.2.1 HV.out.2.2.1.2.1 HV.out.2.2.2.1.2.1 (by omega) (by omega) (fun j _ h => by
    by_cases e : j = 0
    · subst e; rw [upLs_same] at h; simp at h
    · rw [upLs_other _ _ e] at h; simp at h) (by omega) hY6
  have HZ6 : Hid (PoAt z w6 awP ⟨0, 0, 0, 0⟩ ∧ s1.bad = s0.bad) := ⟨hZ6, hB6⟩
  clear hY6 hZ6 hB6 hF6 kx hW6 hL6
  go_wp2_with fail
  refine ky.mono ?_
  rintro e w7 ⟨rfl, s2, -, hW7, hB7, hL7, hF7, -⟩
  have hZ7 : PoAt z w7 awP ⟨0, 0, 0, 0⟩ := HZ6.out.1.same (hF7.block z HZ6.out.1.lt (fun h => h.elim (fun hb => HV.out.1.2.2 hb) (fun hb => HV.out.2.2.2.2.2.2 hb)))
  have kl := ListW (K := 8) (M := 8) (k := 0) (a := 0) (c := 0) (l := [2, 1]) hW7 hL7 ⟨rfl, rfl⟩ (by omega) HH.out (by omega) (by rw [upLs_same, upLs_same])
  obtain ⟨c0, c1, c2, c3, c4⟩ := hW7.pl
  have HZ7 : Hid (PoAt z w7 awP ⟨0, 0, 0, 0⟩ ∧ s2.bad = s0.bad) := ⟨hZ7, hB7.trans HZ6.out.2⟩
  clear hZ7 hB7 hF7 ky hW7 hL7 HZ6
  go_wp2_with fail
  refine kl.mono ?_
  rintro e w8 ⟨v, s3, rfl, hW8, hB8, hL8, hS8⟩
  have hr8 := hS8.row
  obtain ⟨a8, c8, rfl⟩ := A9.own_any hr8
  have hZ8 : PoAt z w8 awP ⟨0, 0, 0, 0⟩ := HZ7.out.1.same (hS8.fr.block z HZ7.out.1.lt HV.out.1.2.2)
  have kz := doPopW (K := 8) (M := 8) (k := 0) (b := 2) (r := [1]) hW8 hL8 ⟨rfl, rfl⟩ HV.out.1.2.2 HV.out.2.1.2.2 HV.out.2.2.1.2.2 HV.out.2.2.2.1.2.2 (by omega) (by rw [upLs_same, upLs_same]) (by omega) hZ8
  have HB8 : Hid (s3.bad = false) := hB8.trans (HZ7.out.2.trans h0b.out)
  clear hZ8 hB8 hr8 hS8 kl hW8 hL8 HZ7 c0 c1 c2 c3 c4
  simp only [basesF_len, List.length_cons, List.length_nil]
  go_wp2_with fail
  refine kz.mono ?_
  rintro e w9 ⟨rfl, s4, t4, -, hW9, hB9, -, -, hZ9, -, hb9⟩
  have kb := Base_any hZ9
  rw [hb9] at kb
  have kf := A9.Fault_any hW9.ar
  rw [hB9, HB8.out] at kf
  have HE : Hid (Below w.heap.size w w9) := hW9.low
  clear hW9 hB9 hZ9 hb9 kz
  go_wp2_with fail
  refine kb.mono ?_
  rintro e w10 ⟨rfl, rfl⟩
  go_wp2_with fail
  refine kf.mono ?_
  rintro e w11 ⟨rfl, rfl⟩
  go_wp2_with fail
  go_ret
  exact ⟨rfl, HE.out⟩
end Go.Proofs.Ytfljoedjnigfjaa
