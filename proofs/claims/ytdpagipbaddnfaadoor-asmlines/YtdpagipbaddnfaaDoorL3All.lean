/-
  What lex's All answers at every text.
-/
import Derived.Test.YtdpagipbaddnfaaDoorL3Take3
import Derived.LoopTactic
namespace Go.Proofs.YtdpagipbaddnfaaDoor.L3
open Go.RowKit

structure TkAt (w : World) (g f : Nat) (t : Tk) : Prop where
  k : w.cell? ⟨g, f, none⟩ = some (.int .i64 t.k)
  s : w.cell? ⟨g, f + 1, none⟩ = some (.string (strB t.s))
  n : w.cell? ⟨g, f + 2, none⟩ = some (.int .i64 t.n)
  l : w.cell? ⟨g, f + 3, none⟩ = some (.int .i64 t.l)
/-- a slice of tokens -/
def SlT (w : World) (v : Value) (T : List Tk) : Prop := ∃ a c, v = .slice a T.length c ∧ ∀ k (h : k < T.length), ∃ g f, a = some ⟨g, f, none⟩ ∧ TkAt w g (f + k * 4) T[k]
theorem SlT.kept {w w' : World} {v : Value} {T : List Tk} (h : SlT w v T) (hb : Below w.heap.size w w') : SlT w' v T := by
  obtain ⟨a, c, e, hk⟩ := h
  have st : ∀ {x : Addr} {u : Value}, w.cell? x = some u → w'.cell? x = some u := fun {x} {u} hx => by
    rw [World.cell?_of_block (hb.block _ (World.block_lt_of_cell? w x hx))]
    exact hx
  refine ⟨a, c, e, fun k h => ?_⟩
  obtain ⟨g, f, e2, ht⟩ := hk k h
  exact ⟨g, f, e2, ⟨st ht.k, st ht.s, st ht.n, st ht.l⟩⟩
theorem own_slT {w : World} {B : Nat} {v : Value} {T : List Tk} (h : w.ownsRow B 100 4 v T.length (cellsT T)) : SlT w v T := by
  rcases h.2 with ⟨rfl, h0⟩ | ⟨g, cap, cur, rfl, _⟩
  · exact ⟨none, 0, by rw [h0], fun k hk => by omega⟩
  · refine ⟨some ⟨g, 0, none⟩, cap, rfl, fun k hk => ⟨g, 0, rfl, ?_⟩⟩
    have hj : ∀ j, j < 4 → w.cell? ⟨g, 0 + k * 4 + j, none⟩ = (tkC T[k])[j]? := fun j hj => by
      rw [Nat.zero_add, h.cellAt _ (by omega), cellsT_at hk j hj]
    exact ⟨by simpa [tkC] using hj 0 (by omega), by simpa [tkC] using hj 1 (by omega), by simpa [tkC] using hj 2 (by omega), by simpa [tkC] using hj 3 (by omega)⟩
theorem SlT.nil (w : World) : SlT w (.slice none 0 0) [] := ⟨none, 0, rfl, fun k hk => by simp at hk⟩
def CapOk (v : Value) : Prop := ∀ a n c, v = .slice a n c → n ≤ c ∧ c ≤ maxLen
theorem capOk_nil : CapOk (.slice none 0 0) := fun a n c h => by
  simp at h
  unfold maxLen
  omega
theorem own_cap {w : World} {B e size n : Nat} {v : Value} {xs : List Value} (h : w.ownsRow B e size v n xs) : CapOk v := fun a m c hv => by
  rcases h.2 with ⟨rfl, _⟩ | ⟨g, cap, cur, rfl, _, _, hc, hm, _⟩
  · exact capOk_nil a m c hv
  · simp at hv
    obtain ⟨_, rfl, rfl⟩ := hv
    exact ⟨hc, hm⟩
def AllPost (s : ByteArray) (w : World) (e : Ending) (w' : World) : Prop :=
  ∃ tv, e = .returned (.tuple #[tv, .int .i64 (lexF s.data.toList).2.1, .int .i64 (lexF s.data.toList).2.2]) ∧ SlT w' tv (lexF s.data.toList).1 ∧ Below w.heap.size w w' ∧ CapOk tv
theorem AllPost.told {s : ByteArray} {w w' : World} {x : Int} (h8 : s.size ≤ 8192) (h : lexGo st0 (s.data.toList ++ [10]) = .inl x) (hb : Below w.heap.size w w') : AllPost s w (.returned (.tuple #[.slice none 0 0, .int .i64 x, .int .i64 3])) w' := by
  have e : lexF s.data.toList = ([], x, 3) := by
    unfold lexF
    rw [if_neg (by simpa using h8), h]
  unfold AllPost
  rw [e]
  exact ⟨_, rfl, SlT.nil _, hb, capOk_nil⟩
theorem AllPost.done {s : ByteArray} {w w' : World} {st : St} {tv : Value} (h8 : s.size ≤ 8192) (h : lexGo st0 (s.data.toList ++ [10]) = .inr st) (hs : SlT w' tv st.T) (hb : Below w.heap.size w w') (hc : CapOk tv) : AllPost s w (.returned (.tuple #[tv, .int .i64 0, .int .i64 0])) w' := by
  have e : lexF s.data.toList = (st.T, 0, 0) := by
    unfold lexF
    rw [if_neg (by simpa using h8), h]
  unfold AllPost
  rw [e]
  exact ⟨_, rfl, hs, hb, hc⟩
theorem AllPost.big {s : ByteArray} {w : World} (h8 : ¬ s.size ≤ 8192) : AllPost s w (.returned (.tuple #[.slice none 0 0, .int .i64 0, .int .i64 2])) w := by
  have e : lexF s.data.toList = ([], 0, 2) := by
    unfold lexF
    rw [if_pos (by simpa using h8)]
  unfold AllPost
  rw [e]
  exact ⟨_, rfl, SlT.nil _, Below.refl _ _, capOk_nil⟩
/-- a reader while the text is walked -/
structure LexAt (s : ByteArray) (w wr : World) (pos : Nat) (st : St) : Prop where
  rd : ∃ tv wv, Rd wr w.heap.size (w.heap.size + 2) tv wv st
  it : wr.heap[w.heap.size + 1]? = some (.stringIter s pos)
  low : Below w.heap.size w wr
  le : pos ≤ s.size
  go : lexGo st0 (s.data.toList.take pos) = .inr st
theorem Rd.iter {w : World} {r B k pos' : Nat} {tv wv : Value} {st : St} {s : ByteArray} (h : Rd w r B tv wv st) (hr : r < k) (hk : k < B) : Rd (w.iterAt k s pos') r B tv wv st :=
  h.boxed (by rw [Lib.iterAt_size]; exact h.sz) ((Lib.iterAt_other w k r s pos' (by omega)).trans h.box) (fun i hi _ => Lib.iterAt_other w k i s pos' (by omega)) rfl rfl
set_option maxHeartbeats 1000000 in
theorem All_any (s : ByteArray) (w : World) : Calls Tryd.prog 20 #[.string s] w fun e w' => AllPost s w e w' := by
  by_cases h8 : s.size ≤ 8192
  · have hd8 : decide ((s.size : Int) > 8192) = false := by simp; omega
    have hR0 : Rd ((w.alloc (.cells #[.slice none 0 0, .int .i64 1, .int .i64 0, .slice none 0 0, .int .i64 0, .int .i64 0] 95)).alloc (.stringIter s 0)) w.heap.size (w.heap.size + 2) (.slice none 0 0) (.slice none 0 0) st0 :=
      ⟨by omega, by simp, heap_alloc2_old w _ _, World.ownsRow_nil _ _ _ _, World.ownsRow_nil _ _ _ _⟩
    go_enter Tryd.func20, Tryd.ntmps20
    go_wp2_with fail
    have hL0 : LexAt s w ((w.alloc (.cells #[.slice none 0 0, .int .i64 1, .int .i64 0, .slice none 0 0, .int .i64 0, .int .i64 0] 95)).alloc (.stringIter s 0)) 0 st0 :=
      ⟨⟨_, _, hR0⟩, by simpa using heap_alloc_new (w.alloc (.cells #[.slice none 0 0, .int .i64 1, .int .i64 0, .slice none 0 0, .int .i64 0, .int .i64 0] 95)) (.stringIter s 0), ((Below.refl _ _).alloc (Nat.le_refl _) _).alloc (by simp) _, by omega, rfl⟩
    clear hR0 hd8
    go_loopw [7] (fun _ wr => ∃ (pos : Nat) (st : St), LexAt s w wr pos st) (fun _ wr => s.size - wr.iterPos (w.heap.size + 1))
    case atStart => exact ⟨0, st0, hL0⟩
    case round =>
      obtain ⟨pos, st, hL⟩ := hrel
      have hbd := lexGo_bd _ st0_bd hL.go
      have hle := hL.le
      have hlow := hL.low
      obtain ⟨tv, wv, hR⟩ := hL.rd
      by_cases hpos : pos < s.size
      · have hnx := fun ty => Lib.run_next_any_at (P := Tryd.prog) wr (w.heap.size + 1) s pos ty hL.it hpos
        have hst := lex_step s pos st hpos hL.go
        have hcl : ((Utf8.decode s pos).1 : Int) ≤ 2147483647 := by have := decode_le s pos; omega
        obtain ⟨cw, hcw⟩ : ∃ cw : Nat × Nat, Utf8.decode s pos = cw := ⟨_, rfl⟩
        rw [hcw] at hst hcl hnx
        have hm0 : wr.iterPos (w.heap.size + 1) = pos := by simp [World.iterPos, hL.it]
        obtain ⟨c, wd⟩ := cw
        simp only at hst hcl hnx
        have HST : Hid ((takeF st (c : Int) = none → lexGo st0 (s.data.toList ++ [10]) = .inl st.ln) ∧ (∀ st', takeF st (c : Int) = some st' → lexGo st0 (s.data.toList.take (pos + wd)) = .inr st' ∧ pos < pos + wd ∧ pos + wd ≤ s.size)) := hst
        have hR1 : Rd (wr.iterAt (w.heap.size + 1) s (pos + wd)) w.heap.size (w.heap.size + 2) tv wv st := hR.iter (by omega) (by omega)
        have hit1 := Lib.iterAt_heap wr (w.heap.size + 1) s pos (pos + wd) hL.it
        have hlow1 := Lib.below_iterAt hlow (k := w.heap.size + 1) (by omega) s (pos + wd)
        have HBD : Hid (Bd st (0 + (s.data.toList.take pos).length)) := hbd
        have hmm : 0 + (s.data.toList.take pos).length ≤ 20000 := by simp; omega
        clear hst hL hbd hcw
        go_wp2_with fail
        refine (take_any _ _ _ _ st c _ _ hR1 HBD.out hmm (by omega) hcl).mono ?_
        rintro e w2 ⟨rfl, tv2, wv2, st2, hR2, hF2, hs2, hn2⟩
        cases htk : takeF st (c : Int) with
        | none =>
          have hln := hn2 htk
          have hgo := HST.out.1 htk
          have HP : Hid (Below w.heap.size w w2) := hlow1.trans hF2.low
          have HP2 := AllPost.told h8 hgo (hlow1.trans hF2.low).drew
          obtain ⟨-, d1, -⟩ := hR2.cells
          rw [hln] at d1
          have HP3 : Hid (AllPost s w _ _) := HP2
          clear hs2 hn2 htk HST HP2
          go_wp2_with fail
          go_region
          go_wp2_with fail
          exact bodyPost_ret (v := .tuple #[.slice none 0 0, .int .i64 st.ln, .int .i64 3]) (by simp [results, Tryd.results20, go_sem]) rfl HP3.out
        | some st' =>
          obtain rfl := hs2 _ htk
          obtain ⟨h1, h2, h3⟩ := HST.out.2 _ htk
          have hit2 : w2.heap[w.heap.size + 1]? = some (.stringIter s (pos + wd)) := (hF2.mid _ (by omega) (by omega)).trans hit1
          have hm1 : w2.iterPos (w.heap.size + 1) = pos + wd := by simp [World.iterPos, hit2]
          have HL2 : Hid (LexAt s w w2 (pos + wd) st2) := ⟨⟨_, _, hR2⟩, hit2, hlow1.trans hF2.low, h3, h1⟩
          clear hs2 hn2 htk HST h1
          go_wp2_with fail
          go_roundw
          case rel => exact ⟨_, _, HL2.out⟩
          case measure => rw [hm0, hm1]; omega
      · have hnx := fun ty => Lib.run_next_end_at (P := Tryd.prog) wr (w.heap.size + 1) s pos ty hL.it hpos
        have hgo := hL.go
        rw [List.take_of_length_le (by simp; omega)] at hgo hbd
        have hend : lexGo st0 (s.data.toList ++ [10]) = match takeF st 10 with | none => .inl st.ln | some st' => .inr st' := by
          rw [lexGo_append, hgo]
          show (match takeF st 10 with | none => Sum.inl st.ln | some st' => lexGo st' []) = _
          cases takeF st 10 <;> rfl
        have HEND : Hid (lexGo st0 (s.data.toList ++ [10]) = match takeF st 10 with | none => .inl st.ln | some st' => .inr st') := hend
        have HBD : Hid (Bd st (0 + s.data.toList.length)) := hbd
        have hmm : 0 + s.data.toList.length ≤ 20000 := by simp; omega
        clear hend hgo hbd hL
        go_wp2_with fail
        refine (take_any _ _ _ _ st 10 _ _ hR HBD.out hmm (by omega) (by omega)).mono ?_
        rintro e w2 ⟨rfl, tv2, wv2, st2, hR2, hF2, hs2, hn2⟩
        have hb2 := hlow.trans hF2.low
        cases htk : takeF st 10 with
        | none =>
          have hln := hn2 htk
          have hgo := HEND.out
          rw [htk] at hgo
          have HP2 := AllPost.told h8 hgo hb2.drew
          obtain ⟨-, d1, -⟩ := hR2.cells
          rw [hln] at d1
          have HP3 : Hid (AllPost s w _ _) := HP2
          clear hs2 hn2 htk HEND HP2 hgo
          go_wp2_with fail
          go_region
          go_wp2_with fail
          exact bodyPost_ret (v := .tuple #[.slice none 0 0, .int .i64 st.ln, .int .i64 3]) (by simp [results, Tryd.results20, go_sem]) rfl HP3.out
        | some st' =>
          obtain rfl := hs2 _ htk
          have hgo := HEND.out
          rw [htk] at hgo
          have HP2 := AllPost.done h8 hgo (own_slT hR2.tok) hb2 (own_cap hR2.tok)
          obtain ⟨d0, -⟩ := hR2.cells
          have HP3 : Hid (AllPost s w _ _) := HP2
          clear hs2 hn2 htk HEND HP2 hgo
          go_wp2_with fail
          exact bodyPost_ret (v := .tuple #[tv2, .int .i64 0, .int .i64 0]) (by simp [results, Tryd.results20, go_sem]) rfl HP3.out
  · have hd8 : decide ((s.size : Int) > 8192) = true := by simp; omega
    have HP : Hid (AllPost s w (.returned (.tuple #[.slice none 0 0, .int .i64 0, .int .i64 2])) w) := .big h8
    clear h8
    go_enter Tryd.func20, Tryd.ntmps20
    go_wp2_with fail
    exact bodyPost_ret (v := .tuple #[.slice none 0 0, .int .i64 0, .int .i64 2]) (by simp [results, Tryd.results20, go_sem]) rfl HP.out
end Go.Proofs.YtdpagipbaddnfaaDoor.L3