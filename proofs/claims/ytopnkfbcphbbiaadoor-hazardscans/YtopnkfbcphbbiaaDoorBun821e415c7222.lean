/-
  Helpers: A9ArX, A9ArS, A9ArC.
-/
import Derived.Test.YtopnkfbcphbbiaaDoorBun631bd1a2be4d
namespace Go.Proofs.YtopnkfbcphbbiaaDoor.A9
open Go.RowKit
open H8 (okP packV packF opA opB opC isH sizeF szT HTab)

section
variable {B : Ab} {w : World} {s : Ar}
theorem frMem {a b : World} (h : FrA B a b) (k : Nat) (v : Value) : FrA B a (b.setCell ⟨B.m, k, none⟩ v) := h.setCell (.inr (.inr (.inl rfl))) _ _
theorem frRaw {a b : World} (h : FrA B a b) (k : Nat) (v : Value) : FrA B a (b.setCell ⟨B.r, k, none⟩ v) := h.setCell (.inr (.inl rfl)) _ _

theorem Store_any (h : ArAt B w s) (k off v : Int) : Calls Tryd.prog 27 #[ptrA B, .int .i64 k, .int .i64 off, .int .i64 v] w (Left9 B w (.tuple #[]) (storeA s k off v)) := by
  unfold storeA
  by_cases hi : inW s k off
  · rw [if_pos hi]
    have hu := useOf_in h.toArMem k off hi
    have h2 := h.setUse
    have hc := h2.memCell (k := k) (off := off) hi
    have hf := h2.mem.frozen (atW k off)
    have HF : Hid (ArAt B ((wUse B s w).setCell ⟨B.m, atW k off, none⟩ (.int .i64 (v))) _ ∧ FrA B w ((wUse B s w).setCell ⟨B.m, atW k off, none⟩ (.int .i64 (v)))) := ⟨h2.setMem (atW k off) (v), frMem frUse _ _⟩
    clear h2
    show Calls _ _ _ _ (Left9 B w (.tuple #[]) ({ useA s with mem := upN s.mem (atW k off) v }))
    clear h hi
    go_enter Tryd.func27, Tryd.ntmps27
    go_wp2_with fail
    refine hu.mono ?_
    rintro e w1 ⟨rfl, rfl⟩
    go_wp2_with fail
    refine (store_at _ _ _ hc hf).mono ?_
    rintro e w1 ⟨rfl, rfl⟩
    go_wp2_with fail
    exact bodyPost_end (v := .tuple #[]) (by simp [results, Tryd.results27, go_sem]) rfl ⟨rfl, HF.out⟩
  · rw [if_neg hi]
    have hu := useOf_out h.toArMem k off hi
    have HF : Hid (ArAt B (wBad B s w) (badA s) ∧ FrA B w (wBad B s w)) := ⟨h.setBad, frBad⟩
    show Calls _ _ _ _ (Left9 B w (.tuple #[]) (badA s))
    clear h hi
    go_enter Tryd.func27, Tryd.ntmps27
    go_wp2_with fail
    refine hu.mono ?_
    rintro e w1 ⟨rfl, rfl⟩
    go_wp2_with fail
    refine (store_nil _).mono ?_
    rintro e w1 ⟨rfl, rfl⟩
    go_wp2_with fail
    exact bodyPost_end (v := .tuple #[]) (by simp [results, Tryd.results27, go_sem]) rfl ⟨rfl, HF.out⟩
theorem Raw_any (h : ArAt B w s) (i : Int) : Calls Tryd.prog 28 #[ptrA B, .int .i64 i] w (Left9 B w (.int .i64 (rawA s i).2) (rawA s i).1) := by
  unfold rawA
  by_cases hi : inR s i
  · rw [if_pos hi]
    have hu := use_in h.toArMem B.r 0 s.nr s.nr i hi.1 hi.2
    rw [Nat.zero_add] at hu
    have h2 := h.setUse
    have hc := h2.rawCell (i := i) hi
    have hf := h2.raw.frozen i.toNat
    have HF : Hid (ArAt B (wUse B s w) (useA s) ∧ FrA B w (wUse B s w)) := ⟨h2, frUse⟩
    clear h2
    show Calls _ _ _ _ (Left9 B w (.int .i64 (s.raw i.toNat)) (useA s))
    have c0 := h.cell 0
    simp [boxA] at c0
    clear h hi
    go_enter Tryd.func28, Tryd.ntmps28
    go_wp2_with fail
    refine hu.mono ?_
    rintro e w1 ⟨rfl, rfl⟩
    go_wp2_with fail
    refine (load_at _ _ hc).mono ?_
    rintro e w1 ⟨rfl, rfl⟩
    go_wp2_with fail
    go_ret
    exact ⟨rfl, HF.out⟩
  · rw [if_neg hi]
    have hu := use_out h.toArMem (some ⟨B.r, 0, none⟩) s.nr s.nr i hi
    have HF : Hid (ArAt B (wBad B s w) (badA s) ∧ FrA B w (wBad B s w)) := ⟨h.setBad, frBad⟩
    show Calls _ _ _ _ (Left9 B w (.int .i64 0) (badA s))
    have c0 := h.cell 0
    simp [boxA] at c0
    clear h hi
    go_enter Tryd.func28, Tryd.ntmps28
    go_wp2_with fail
    refine hu.mono ?_
    rintro e w1 ⟨rfl, rfl⟩
    go_wp2_with fail
    refine load_nil.mono ?_
    rintro e w1 ⟨rfl, rfl⟩
    go_wp2_with fail
    go_ret
    exact ⟨rfl, HF.out⟩
theorem SetRaw_any (h : ArAt B w s) (i v : Int) : Calls Tryd.prog 11 #[ptrA B, .int .i64 i, .int .i64 v] w (Left9 B w (.tuple #[]) (setRawA s i v)) := by
  unfold setRawA
  by_cases hi : inR s i
  · rw [if_pos hi]
    have hu := use_in h.toArMem B.r 0 s.nr s.nr i hi.1 hi.2
    rw [Nat.zero_add] at hu
    have h2 := h.setUse
    have hc := h2.rawCell (i := i) hi
    have hf := h2.raw.frozen i.toNat
    have HF : Hid (ArAt B ((wUse B s w).setCell ⟨B.r, i.toNat, none⟩ (.int .i64 (v))) _ ∧ FrA B w ((wUse B s w).setCell ⟨B.r, i.toNat, none⟩ (.int .i64 (v)))) := ⟨h2.setRaw i.toNat (v), frRaw frUse _ _⟩
    clear h2
    show Calls _ _ _ _ (Left9 B w (.tuple #[]) ({ useA s with raw := upN s.raw i.toNat v }))
    have c0 := h.cell 0
    simp [boxA] at c0
    clear h hi
    go_enter Tryd.func11, Tryd.ntmps11
    go_wp2_with fail
    refine hu.mono ?_
    rintro e w1 ⟨rfl, rfl⟩
    go_wp2_with fail
    refine (store_at _ _ _ hc hf).mono ?_
    rintro e w1 ⟨rfl, rfl⟩
    go_wp2_with fail
    exact bodyPost_end (v := .tuple #[]) (by simp [results, Tryd.results11, go_sem]) rfl ⟨rfl, HF.out⟩
  · rw [if_neg hi]
    have hu := use_out h.toArMem (some ⟨B.r, 0, none⟩) s.nr s.nr i hi
    have HF : Hid (ArAt B (wBad B s w) (badA s) ∧ FrA B w (wBad B s w)) := ⟨h.setBad, frBad⟩
    show Calls _ _ _ _ (Left9 B w (.tuple #[]) (badA s))
    have c0 := h.cell 0
    simp [boxA] at c0
    clear h hi
    go_enter Tryd.func11, Tryd.ntmps11
    go_wp2_with fail
    refine hu.mono ?_
    rintro e w1 ⟨rfl, rfl⟩
    go_wp2_with fail
    refine (store_nil _).mono ?_
    rintro e w1 ⟨rfl, rfl⟩
    go_wp2_with fail
    exact bodyPost_end (v := .tuple #[]) (by simp [results, Tryd.results11, go_sem]) rfl ⟨rfl, HF.out⟩
theorem SwapRaw_any (h : ArAt B w s) (i old now : Int) : Calls Tryd.prog 59 #[ptrA B, .int .i64 i, .int .i64 old, .int .i64 now] w (Left9 B w (.bool (swapRawA s i old now).2) (swapRawA s i old now).1) := by
  unfold swapRawA
  by_cases hi : inR s i
  · rw [if_pos hi]
    have hu := use_in h.toArMem B.r 0 s.nr s.nr i hi.1 hi.2
    rw [Nat.zero_add] at hu
    have h2 := h.setUse
    have hc := h2.rawCell (i := i) hi
    have hf := h2.raw.frozen i.toNat
    by_cases ho : s.raw i.toNat = old
    · rw [if_pos ho]
      subst ho
      have HF : Hid (ArAt B ((wUse B s w).setCell ⟨B.r, i.toNat, none⟩ (.int .i64 (now))) _ ∧ FrA B w ((wUse B s w).setCell ⟨B.r, i.toNat, none⟩ (.int .i64 (now)))) := ⟨h2.setRaw i.toNat (now), frRaw frUse _ _⟩
      clear h2
      show Calls _ _ _ _ (Left9 B w (.bool true) ({ useA s with raw := upN s.raw i.toNat now }))
      have c0 := h.cell 0
      simp [boxA] at c0
      clear h hi
      go_enter Tryd.func59, Tryd.ntmps59
      go_wp2_with fail
      refine hu.mono ?_
      rintro e w1 ⟨rfl, rfl⟩
      go_wp2_with fail
      refine (swap_yes _ _ _ hc hf).mono ?_
      rintro e w1 ⟨rfl, rfl⟩
      go_wp2_with fail
      go_ret
      exact ⟨rfl, HF.out⟩
    · rw [if_neg ho]
      have hsw := fun v => swap_no _ _ old v hc ho
      have HF : Hid (ArAt B (wUse B s w) (useA s) ∧ FrA B w (wUse B s w)) := ⟨h2, frUse⟩
      clear h2 ho hf
      show Calls _ _ _ _ (Left9 B w (.bool false) (useA s))
      have c0 := h.cell 0
      simp [boxA] at c0
      clear h hi
      go_enter Tryd.func59, Tryd.ntmps59
      go_wp2_with fail
      refine hu.mono ?_
      rintro e w1 ⟨rfl, rfl⟩
      go_wp2_with fail
      refine (hsw _).mono ?_
      rintro e w1 ⟨rfl, rfl⟩
      go_wp2_with fail
      go_ret
      exact ⟨rfl, HF.out⟩
  · rw [if_neg hi]
    have hu := use_out h.toArMem (some ⟨B.r, 0, none⟩) s.nr s.nr i hi
    have HF : Hid (ArAt B (wBad B s w) (badA s) ∧ FrA B w (wBad B s w)) := ⟨h.setBad, frBad⟩
    show Calls _ _ _ _ (Left9 B w (.bool false) (badA s))
    have c0 := h.cell 0
    simp [boxA] at c0
    clear h hi
    go_enter Tryd.func59, Tryd.ntmps59
    go_wp2_with fail
    refine hu.mono ?_
    rintro e w1 ⟨rfl, rfl⟩
    go_wp2_with fail
    refine (swap_nil _ _).mono ?_
    rintro e w1 ⟨rfl, rfl⟩
    go_wp2_with fail
    go_ret
    exact ⟨rfl, HF.out⟩
theorem AddRaw_any (h : ArAt B w s) (i v : Int) : Calls Tryd.prog 60 #[ptrA B, .int .i64 i, .int .i64 v] w (Left9 B w (.int .i64 (addRawA s i v).2) (addRawA s i v).1) := by
  unfold addRawA
  by_cases hi : inR s i
  · rw [if_pos hi]
    have hu := use_in h.toArMem B.r 0 s.nr s.nr i hi.1 hi.2
    rw [Nat.zero_add] at hu
    have h2 := h.setUse
    have hc := h2.rawCell (i := i) hi
    have hf := h2.raw.frozen i.toNat
    have HF : Hid (ArAt B ((wUse B s w).setCell ⟨B.r, i.toNat, none⟩ (.int .i64 (wrap64 (s.raw i.toNat + v)))) _ ∧ FrA B w ((wUse B s w).setCell ⟨B.r, i.toNat, none⟩ (.int .i64 (wrap64 (s.raw i.toNat + v))))) := ⟨h2.setRaw i.toNat (wrap64 (s.raw i.toNat + v)), frRaw frUse _ _⟩
    clear h2
    show Calls _ _ _ _ (Left9 B w (.int .i64 (s.raw i.toNat)) ({ useA s with raw := upN s.raw i.toNat (wrap64 (s.raw i.toNat + v)) }))
    have c0 := h.cell 0
    simp [boxA] at c0
    clear h hi
    go_enter Tryd.func60, Tryd.ntmps60
    go_wp2_with fail
    refine hu.mono ?_
    rintro e w1 ⟨rfl, rfl⟩
    go_wp2_with fail
    refine (add_at _ _ _ hc hf).mono ?_
    rintro e w1 ⟨rfl, rfl⟩
    go_wp2_with fail
    go_ret
    exact ⟨rfl, HF.out⟩
  · rw [if_neg hi]
    have hu := use_out h.toArMem (some ⟨B.r, 0, none⟩) s.nr s.nr i hi
    have HF : Hid (ArAt B (wBad B s w) (badA s) ∧ FrA B w (wBad B s w)) := ⟨h.setBad, frBad⟩
    show Calls _ _ _ _ (Left9 B w (.int .i64 0) (badA s))
    have c0 := h.cell 0
    simp [boxA] at c0
    clear h hi
    go_enter Tryd.func60, Tryd.ntmps60
    go_wp2_with fail
    refine hu.mono ?_
    rintro e w1 ⟨rfl, rfl⟩
    go_wp2_with fail
    refine (add_nil _).mono ?_
    rintro e w1 ⟨rfl, rfl⟩
    go_wp2_with fail
    go_ret
    exact ⟨rfl, HF.out⟩
end
end Go.Proofs.YtopnkfbcphbbiaaDoor.A9
namespace Go.Proofs.YtopnkfbcphbbiaaDoor.A9
open Go.RowKit
open H8 (okP packV packF opA opB opC isH sizeF szT HTab)

section
variable {B : Ab} {w : World} {s : Ar}
theorem State_any (h : ArAt B w s) (k : Int) : Calls Tryd.prog 18 #[ptrA B, .int .i64 k] w fun e w' => e = .returned (.int .i64 (s.st k)) ∧ w' = w := by
  have c4 := h.cell 4
  simp [boxA] at c4
  by_cases h1 : s.st k = 0
  · have hl := h.noSlot k h1
    have hx := field0 0 none 0 0
    rw [h1]
    clear h h1
    go_enter Tryd.func18, Tryd.ntmps18
    go_wp2_with fail
    go_ret
    exact ⟨rfl, rfl⟩
  · have hl := h.slot k h1
    have hx := field0 (s.st k) (some ⟨B.m, bN k, none⟩) (zN k) (zN k)
    unfold slotV at hl
    clear h h1
    go_enter Tryd.func18, Tryd.ntmps18
    go_wp2_with fail
    go_ret
    exact ⟨rfl, rfl⟩
theorem Fault_any (h : ArAt B w s) : Calls Tryd.prog 20 #[ptrA B] w fun e w' => e = .returned (.bool s.bad) ∧ w' = w := by
  have c := h.cell 11
  simp [boxA] at c
  clear h
  go_enter Tryd.func20, Tryd.ntmps20
  go_wp2_with fail
  go_ret
  exact ⟨rfl, rfl⟩
theorem Uses_any (h : ArAt B w s) : Calls Tryd.prog 14 #[ptrA B] w fun e w' => e = .returned (.int .i64 s.uses) ∧ w' = w := by
  have c := h.cell 12
  simp [boxA] at c
  clear h
  go_enter Tryd.func14, Tryd.ntmps14
  go_wp2_with fail
  go_ret
  exact ⟨rfl, rfl⟩
def cntV (s : Ar) : Value := .agg #[.int .i64 s.cC, .int .i64 s.cL, .int .i64 s.cR, .int .i64 (wrap64 (wrap64 (s.cC - s.cL) - s.cR))]
theorem Count_any (h : ArAt B w s) : Calls Tryd.prog 31 #[ptrA B] w fun e w' => e = .returned (cntV s) ∧ Below w.heap.size w w' := by
  have hA := h.alloc (.cells #[.int .i64 0, .int .i64 0, .int .i64 0, .int .i64 0] 58 (0, 0))
  have c6 := hA.cell 6
  have c7 := hA.cell 7
  have c8 := hA.cell 8
  have c9 := hA.cell 9
  simp [boxA] at c6 c7 c8 c9
  clear h hA
  unfold cntV
  go_enter Tryd.func31, Tryd.ntmps31
  go_wp2_with fail
  exact bodyPost_ret (v := .agg #[.int .i64 s.cC, .int .i64 s.cL, .int .i64 s.cR, .int .i64 (wrap64 (wrap64 (s.cC - s.cL) - s.cR))]) (by simp [results, Tryd.results31, go_sem]) rfl ⟨rfl, ((Below.refl _ _).alloc (Nat.le_refl _) _).alloc (by simp) _⟩
end
end Go.Proofs.YtopnkfbcphbbiaaDoor.A9
namespace Go.Proofs.YtopnkfbcphbbiaaDoor.A9
open Go.RowKit
open H8 (okP packV packF opA opB opC isH sizeF szT HTab)

/-- one of n marks from k on is set -/
def anyT (f : Nat → Bool) (k : Nat) : Nat → Bool
  | 0 => false
  | n + 1 => anyT f k n || f (k + n)
theorem anyT_no {f : Nat → Bool} {k : Nat} : ∀ {n : Nat}, anyT f k n = false ↔ ∀ j, j < n → f (k + j) = false
  | 0 => ⟨fun _ j hj => by omega, fun _ => rfl⟩
  | n + 1 => by
    simp only [anyT, Bool.or_eq_false_iff]
    rw [anyT_no (n := n)]
    refine ⟨fun ⟨h1, h2⟩ j hj => ?_, fun h => ⟨fun j hj => h j (by omega), h n (by omega)⟩⟩
    by_cases e : j = n
    · rw [e]; exact h2
    · exact h1 j (by omega)
def IndexPost (b : Bool) (w : World) (e : Ending) (w' : World) : Prop := ∃ r : Int, e = .returned (.int .i64 r) ∧ decide (0 ≤ r) = b ∧ w' = w
section
variable {B : Ab} {w : World} {s : Ar}
theorem Index_any (g k n c : Nat) (f : Nat → Bool) (hn : n ≤ 65536) (hc : ∀ j, j < n → w.cell? ⟨g, k + j, none⟩ = some (.bool (f (k + j)))) : Calls Tryd.prog 76 #[.slice (some ⟨g, k, none⟩) n c, .bool true] w (IndexPost (anyT f k n) w) := by
  go_enter Tryd.func76, Tryd.ntmps76
  go_wp2_with fail
  go_loop [8] (fun i => ∃ j : Nat, j ≤ n ∧ i = .int .i64 j ∧ anyT f k j = false) (fun i => n - (intOf i).toNat)
  case atStart => exact ⟨0, by omega, rfl, rfl⟩
  case round =>
    obtain ⟨j, hj, rfl, hno⟩ := hrel
    by_cases hlt : j < n
    · have hcj := hc j hlt
      have hlt2 : (j : Int) < (n : Int) := by omega
      by_cases hf : f (k + j) = true
      · have hy : anyT f k n = true := by
          cases h : anyT f k n with
          | true => rfl
          | false => rw [anyT_no.1 h j hlt] at hf; cases hf
        have HY : Hid (anyT f k n = true) := hy
        rw [hf] at hcj
        clear hc hno hy hf
        go_wp2_with fail
        go_ret
        exact ⟨_, rfl, by rw [HY.out]; simp, rfl⟩
      · have hff : f (k + j) = false := by simpa using hf
        rw [hff] at hcj
        have hnext : anyT f k (j + 1) = false := by simp [anyT, hno, hff]
        have HN : Hid (anyT f k (j + 1) = false) := hnext
        clear hc hno hf hff hnext
        go_wp2_with fail
        go_round
        case rel => exact ⟨j + 1, by omega, by go_num, HN.out⟩
        case measure => simp [intOf]; omega
    · have hjn : j = n := by omega
      subst hjn
      have HN : Hid (anyT f k j = false) := hno
      clear hc hno
      go_wp2_with fail
      go_ret
      exact ⟨_, rfl, by rw [HN.out]; simp, rfl⟩
theorem Contains_any (g k n c : Nat) (f : Nat → Bool) (hn : n ≤ 65536) (hc : ∀ j, j < n → w.cell? ⟨g, k + j, none⟩ = some (.bool (f (k + j)))) : Calls Tryd.prog 72 #[.slice (some ⟨g, k, none⟩) n c, .bool true] w fun e w' => e = .returned (.bool (anyT f k n)) ∧ w' = w := by
  have hi := Index_any g k n c f hn hc
  generalize anyT f k n = b at *
  clear hc
  go_enter Tryd.func72, Tryd.ntmps72
  go_wp2_with fail
  refine hi.mono ?_
  rintro e w1 ⟨r, rfl, hr, rfl⟩
  go_wp2_with fail
  go_ret
  exact ⟨rfl, rfl⟩
/-- k places from a on are marked -/
def carveS (s : Ar) (a k : Nat) : Ar := { s with was := fun j => if a ≤ j ∧ j < a + k then true else s.was j, tak := fun j => if a ≤ j ∧ j < a + k then true else s.tak j, cC := wrap64 (s.cC + newC s.was a k) }
def CarvePost (B : Ab) (w : World) (s : Ar) (e : Ending) (w' : World) : Prop := e = .returned (.tuple #[]) ∧ ArMem B w' s ∧ FrA B w w'
theorem carve_next (s : Ar) (a k : Nat) (hw : (carveS s a k).was (a + k) = true) : carveS s a (k + 1) = { carveS s a k with tak := fun j => if j = a + k then true else (carveS s a k).tak j } := by
  have hs : s.was (a + k) = true := by
    simp only [carveS] at hw
    rw [if_neg (by omega)] at hw
    exact hw
  have e1 : ∀ (f : Nat → Bool), (fun j => if a ≤ j ∧ j < a + (k + 1) then true else f j) = fun j => if j = a + k then true else if a ≤ j ∧ j < a + k then true else f j := fun f => by
    funext j
    by_cases h1 : j = a + k
    · rw [if_pos (by omega), if_pos h1]
    · rw [if_neg h1]
      by_cases h2 : a ≤ j ∧ j < a + k
      · rw [if_pos (by omega), if_pos h2]
      · rw [if_neg (by omega), if_neg h2]
  have e2 : (fun j => if a ≤ j ∧ j < a + (k + 1) then true else s.was j) = fun j => if a ≤ j ∧ j < a + k then true else s.was j := by
    rw [e1]
    funext j
    by_cases h1 : j = a + k
    · rw [if_pos h1, if_neg (by omega), h1, hs]
    · rw [if_neg h1]
  have e3 : newC s.was a (k + 1) = newC s.was a k := by simp [newC, hs]
  simp only [carveS, e2, e3, e1 s.tak]
theorem carve_next' (s : Ar) (a k : Nat) (hw : (carveS s a k).was (a + k) = false) : carveS s a (k + 1) = { carveS s a k with tak := fun j => if j = a + k then true else (carveS s a k).tak j, was := fun j => if j = a + k then true else (carveS s a k).was j, cC := wrap64 ((carveS s a k).cC + 1) } := by
  have hs : s.was (a + k) = false := by
    simp only [carveS] at hw
    rw [if_neg (by omega)] at hw
    exact hw
  have e1 : ∀ (f : Nat → Bool), (fun j => if a ≤ j ∧ j < a + (k + 1) then true else f j) = fun j => if j = a + k then true else if a ≤ j ∧ j < a + k then true else f j := fun f => by
    funext j
    by_cases h1 : j = a + k
    · rw [if_pos (by omega), if_pos h1]
    · rw [if_neg h1]
      by_cases h2 : a ≤ j ∧ j < a + k
      · rw [if_pos (by omega), if_pos h2]
      · rw [if_neg (by omega), if_neg h2]
  have e3 : newC s.was a (k + 1) = newC s.was a k + 1 := by simp [newC, hs]
  simp only [carveS, e3, e1 s.tak, e1 s.was, wr64_add]
  rw [show s.cC + ((newC s.was a k + 1 : Nat) : Int) = s.cC + newC s.was a k + 1 by omega]
theorem carve_any (h : ArMem B w s) (a n : Nat) (ha : a + n ≤ s.nw) (hm : s.nw ≤ 65536) (hwr : wrap64 s.cC = s.cC) : Calls Tryd.prog 73 #[ptrA B, .int .i64 (a : Int), .int .i64 ((a : Int) + n)] w (CarvePost B w (carveS s a n)) := by
  have h0 : carveS s a 0 = s := by
    have e : ∀ (f : Nat → Bool), (fun j => if a ≤ j ∧ j < a + 0 then true else f j) = f := fun f => by
      funext j
      rw [if_neg (by omega)]
    simp only [carveS, newC, e]
    rw [show s.cC + ((0 : Nat) : Int) = s.cC by omega, hwr]
  clear hwr
  go_enter Tryd.func73, Tryd.ntmps73
  go_wp2_with fail
  go_loopw [6] (fun i wr => ∃ k : Nat, k ≤ n ∧ i = .int .i64 ((a : Int) + k) ∧ ArMem B wr (carveS s a k) ∧ FrA B w wr) (fun i _ => a + n - (intOf i).toNat)
  case atStart => exact ⟨0, by omega, by go_num, by rw [h0]; exact h, FrA.refl _ _⟩
  case round =>
    obtain ⟨k, hk, rfl, hM, hF⟩ := hrel
    have HM : Hid (ArMem B wr (carveS s a k)) := hM
    by_cases hlt : k < n
    · have hlt2 : (a : Int) + k < (a : Int) + n := by omega
      have c3 := hM.cell 3
      have c2 := hM.cell 2
      have c6 := hM.cell 6
      simp [boxA] at c3 c2 c6
      have ct : wr.cell? ⟨B.t, a + k, none⟩ = some (.bool ((carveS s a k).tak (a + k))) := hM.tak.cell (show a + k < s.nw by omega)
      have ft : wr.frozen? ⟨B.t, a + k, none⟩ = false := hM.tak.frozen _
      have hM1 := hM.setTak (a + k) true
      have d2 := hM1.cell 2
      have d6 := hM1.cell 6
      simp [boxA] at d2 d6
      have cw : (wr.setCell ⟨B.t, a + k, none⟩ (.bool true)).cell? ⟨B.c, a + k, none⟩ = some (.bool ((carveS s a k).was (a + k))) := hM1.was.cell (show a + k < s.nw by omega)
      have fw : (wr.setCell ⟨B.t, a + k, none⟩ (.bool true)).frozen? ⟨B.c, a + k, none⟩ = false := hM1.was.frozen _
      have hF1 : FrA B w (wr.setCell ⟨B.t, a + k, none⟩ (.bool true)) := hF.setCell (.inr (.inr (.inr (.inr (.inl rfl))))) _ _
      have z1 : (a : Int) + k < (s.nw : Int) := by omega
      have z2 : ((a : Int) + k).toNat = a + k := by omega
      have z3 : (s.nw : Int) ≤ 65536 := by omega
      have e1 : (carveS s a k).nw = s.nw := rfl
      rw [e1] at c3 c2 d2
      by_cases hw : (carveS s a k).was (a + k) = true
      · rw [hw] at cw
        have HN : Hid (ArMem B (wr.setCell ⟨B.t, a + k, none⟩ (.bool true)) (carveS s a (k + 1)) ∧ FrA B w (wr.setCell ⟨B.t, a + k, none⟩ (.bool true))) := ⟨by rw [carve_next s a k hw]; exact hM1, hF1⟩
        clear hM hM1 hF hF1 hw e1 h0 h c6 d6
        go_wp2_with fail
        go_roundw
        case rel => exact ⟨k + 1, by omega, by go_num, HN.out.1, HN.out.2⟩
        case measure => simp [intOf]; omega
      · have hwf : (carveS s a k).was (a + k) = false := by simpa using hw
        rw [hwf] at cw
        have hM2 := hM1.setWas (a + k) true
        have hM3 := hM2.setC (wrap64 ((carveS s a k).cC + 1))
        have d6' := hM2.cell 6
        have f6' := hM2.frozen 6
        simp [boxA] at d6'
        have HN : Hid (ArMem B (((wr.setCell ⟨B.t, a + k, none⟩ (.bool true)).setCell ⟨B.c, a + k, none⟩ (.bool true)).setCell ⟨B.b, 6, none⟩ (.int .i64 (wrap64 ((carveS s a k).cC + 1)))) (carveS s a (k + 1)) ∧ FrA B w (((wr.setCell ⟨B.t, a + k, none⟩ (.bool true)).setCell ⟨B.c, a + k, none⟩ (.bool true)).setCell ⟨B.b, 6, none⟩ (.int .i64 (wrap64 ((carveS s a k).cC + 1))))) :=
          ⟨by rw [carve_next' s a k hwf]; exact hM3, (hF1.setCell (.inr (.inr (.inr (.inl rfl)))) _ _).setCell (.inl rfl) _ _⟩
        clear hM hM1 hM2 hM3 hF hF1 hw hwf e1 h0 h c6 d6
        generalize (carveS s a k).cC = cc at *
        go_wp2_with fail
        go_roundw
        case rel => exact ⟨k + 1, by omega, by go_num, HN.out.1, HN.out.2⟩
        case measure => simp [intOf]; omega
    · have hkn : k = n := by omega
      subst hkn
      clear h0 h
      go_wp2_with fail
      exact bodyPost_end (v := .tuple #[]) (by simp [results, Tryd.results73, go_sem]) rfl ⟨rfl, HM.out, hF⟩
end
end Go.Proofs.YtopnkfbcphbbiaaDoor.A9
