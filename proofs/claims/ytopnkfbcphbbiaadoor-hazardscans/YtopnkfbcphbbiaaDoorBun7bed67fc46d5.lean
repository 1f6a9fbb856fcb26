/-
  Helpers: F0FrJ, F0FrM, F0FrN.
-/
import Derived.Test.YtopnkfbcphbbiaaDoorBun7c921592253b
import Derived.Test.YtopnkfbcphbbiaaDoorBun2ab08a79ebad
import Derived.Test.YtopnkfbcphbbiaaDoorBunfb80ea69b371
namespace Go.Proofs.YtopnkfbcphbbiaaDoor.F0
open Go.RowKit
open A9 (Ab ArAt ArMem FrA Ar rawA setRawA swapRawA useA ptrA)

theorem nilPuStep (a : Addr) (w : World) : (nilAhead 238 97 (.pointer (some a)) "Step").run Tryd.prog w = .ok (some false) w := by kernel_rfl
theorem mthPuStep (a : Addr) (w : World) : (method 238 97 (.pointer (some a)) "Step").run Tryd.prog w = .ok (65, .pointer (some a)) w := by kernel_rfl
theorem nilPoStep (a : Addr) (w : World) : (nilAhead 238 78 (.pointer (some a)) "Step").run Tryd.prog w = .ok (some false) w := by kernel_rfl
theorem mthPoStep (a : Addr) (w : World) : (method 238 78 (.pointer (some a)) "Step").run Tryd.prog w = .ok (67, .pointer (some a)) w := by kernel_rfl
section
variable {q : Nat} {w : World} {p : Pl5} {b : Int} {B : Ab} {s0 s1 s2 s3 : Ar} {t0 t1 t2 t3 : Tn}
def okPh (t : Tn) : Prop := t.ph = 0 ∨ t.ph = 1 ∨ t.ph = 2 ∨ t.ph = 3
end
end Go.Proofs.YtopnkfbcphbbiaaDoor.F0
namespace Go.Proofs.YtopnkfbcphbbiaaDoor.F0
open Go.RowKit
open A9 (Ab ArAt ArMem FrA Ar rawA useA ptrA New9 new9)
open H8 (HTab below_then)

theorem noT_new {w : World} (h : HTab w) {q : Nat} (hq : w.heap.size ≤ q) : noT q := by
  have := h.pos
  exact ⟨by omega, by omega⟩
/-- an arena of the call's own, and the box of its places -/
structure Wk (B : Ab) (W w : World) (s : Ar) (g : Nat) (p : Pl5) : Prop where
  ar : ArAt B w s
  low : Below W.heap.size W w
  own : ∀ k, B.has k → W.heap.size ≤ k
  bx : w.heap[g]? = some (plBox p)
  gB : ¬ B.has g
  gW : W.heap.size ≤ g
theorem tab_new {w w1 : World} {o : Obj} (h : HTab w) (hb1 : Below w.heap.size w w1) : HTab (w1.alloc o) := (h.below hb1).alloc o
section
variable {B : Ab} {W w w' : World} {s s' : Ar} {g q : Nat} {p : Pl5} {K M T k b : Nat} {hd lk : Nat → Int} {ls : Nat → List Nat}
theorem Wk.pl (h : Wk B W w s g p) : plS g p w := plS_of h.bx
theorem Wk.glt (h : Wk B W w s g p) : g < w.heap.size := lt_of_block h.bx
theorem Wk.below (h : Wk B W w s g p) (hb : Below w.heap.size w w') : Wk B W w' s g p := ⟨h.ar.below hb, below_then h.low hb, h.own, (hb.block g h.glt).trans h.bx, h.gB, h.gW⟩
theorem Wk.step (h : Wk B W w s g p) (hA : ArAt B w' s') (hF : FrS (fun k => B.has k ∨ k = q) w w') (hq : W.heap.size ≤ q) (hg : g ≠ q) : Wk B W w' s' g p :=
  ⟨hA, h.low.trans (hF.below h.low.size fun k hk => by
    rcases hk with hk | rfl
    · exact h.own k hk
    · exact hq), h.own, (hF.block g h.glt fun hk => by
    rcases hk with hk | hk
    · exact h.gB hk
    · exact hg hk).trans h.bx, h.gB, h.gW⟩
theorem Wk.arena (h : Wk B W w s g p) (hA : ArAt B w' s') (hF : FrA B w w') : Wk B W w' s' g p :=
  ⟨hA, h.low.trans (hF.below h.low.size h.own), h.own, (hF.block g h.glt h.gB).trans h.bx, h.gB, h.gW⟩
theorem Wk.new {w1 : World} (hA : ArAt B w' s) (hb : Below w1.heap.size w1 w') (hl : Below W.heap.size W w1) (hB : ∀ k, B.has k → w1.heap.size ≤ k) (hbx : w1.heap[g]? = some (plBox p)) (hg : W.heap.size ≤ g) : Wk B W w' s g p := by
  have hlt := lt_of_block hbx
  exact ⟨hA, below_then hl hb, fun k hk => Nat.le_trans hl.size (hB k hk), (hb.block g hlt).trans hbx, fun hk => by have := hB g hk; omega, hg⟩
theorem Wk.begin {w1 w2 : World} (hb1 : Below w.heap.size w w1) (hA : ArAt B w2 s) (hb2 : Below (w1.alloc (plBox p)).heap.size (w1.alloc (plBox p)) w2) (hB : ∀ k, B.has k → (w1.alloc (plBox p)).heap.size ≤ k) : Wk B w w2 s w1.heap.size p :=
  .new hA hb2 (hb1.alloc hb1.size _) hB (Go.MapKept.heap_alloc w1 _).1 hb1.size
theorem Lst.new (r n : Int) (fr : Bool) (h : K + M ≤ (new9 r n fr).nr) (hb : K + M ≤ 65536) : Lst K M (new9 r n fr) (fun _ => 0) (fun _ => 0) (fun _ => []) 0 :=
  ⟨⟨h, hb, fun _ _ => rfl, fun _ _ => rfl⟩, fun _ _ => ⟨rfl, trivial, List.nodup_nil, fun _ hb => by simp at hb, fun _ _ => ⟨Int.le_refl _, by show (0 : Int) ≤ M; omega⟩, by decide⟩, fun _ _ _ _ _ _ hb => by simp at hb, fun _ _ => by decide⟩
theorem Lst.used (h : Lst K M s hd lk ls T) (u : Int) : Lst K M (usedA s u) hd lk ls T := ⟨⟨h.fit, h.big, h.hds, h.lks⟩, h.L, h.two, h.tg⟩
theorem ListW (h : Wk B W w s g p) (hL : Lst K M s hd lk ls T) (hp : PlK K p) {a c : Int} (hk : k < K) (hh : headF p a c = k) (hM : M ≤ 9000) {l : List Nat} (hl : ls k = l) :
    Calls Tryd.prog 19 #[ptrA B, p.v, .int .i64 a, .int .i64 c] w fun e w' => ∃ v s', e = .returned v ∧ Wk B W w' s' g p ∧ s'.bad = s.bad ∧ Lst K M s' hd lk ls T ∧ LsW B w w' s' v (basesF l) :=
  (List_any h.ar hL.toRwL hp hk hh (hl ▸ hL.L k hk) hM).mono fun e w' h2 => by
    obtain ⟨v, u, h3, h4⟩ := h2
    exact ⟨v, _, h3, h.arena h4.ar h4.fr, rfl, hL.used u, h4⟩
end
end Go.Proofs.YtopnkfbcphbbiaaDoor.F0
namespace Go.Proofs.YtopnkfbcphbbiaaDoor.F0
open Go.RowKit
open A9 (Ab ArAt ArMem FrA Ar rawA useA ptrA New9 new9)
open H8 (HTab below_then)

theorem pushS_bad (K : Nat) (s : Ar) (hd : Nat → Int) (k b : Nat) : (pushS K s hd k b).bad = s.bad := rfl
theorem popS_bad (s : Ar) (hd lk : Nat → Int) (k b : Nat) : (popS s hd lk k b).bad = s.bad := rfl
theorem Raw_at {a n : Int} (p : Pl5) (x : Int) (hp : plF a n = p) (hx : p.cv + 1 = x) (ha : a ≤ 1000000) (hn : n ≤ 1000000) (w : World) : Calls Tryd.prog 21 #[.int .i64 a, .int .i64 n] w fun e w' => e = .returned (.tuple #[p.v, .int .i64 x]) ∧ Below w.heap.size w w' := by
  have h := Raw_any a n ha hn w
  rw [hp, hx] at h
  exact h
def enP : Pl5 := ⟨1, 0, 4, 68, 132⟩
def awP : Pl5 := ⟨2, 0, 8, 16, 24⟩
end Go.Proofs.YtopnkfbcphbbiaaDoor.F0
