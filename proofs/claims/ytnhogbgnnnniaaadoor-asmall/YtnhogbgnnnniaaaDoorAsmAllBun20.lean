/-
  Helpers: L3All, L3Awake, L3Shift, L3Lines.
-/
import Derived.Test.YtnhogbgnnnniaaaDoorAsmAllBun17
import Derived.LoopTactic
namespace Go.Proofs.YtnhogbgnnnniaaaDoor.L3
open Go.RowKit

structure TkAt (w : World) (g f : Nat) (t : Tk) : Prop where
  k : w.cell? ⟨g, f, none⟩ = some (.int .i64 t.k)
  s : w.cell? ⟨g, f + 1, none⟩ = some (.string (strB t.s))
  n : w.cell? ⟨g, f + 2, none⟩ = some (.int .i64 t.n)
  l : w.cell? ⟨g, f + 3, none⟩ = some (.int .i64 t.l)
/-- a slice of tokens -/
def SlT (w : World) (v : Value) (T : List Tk) : Prop := ∃ a c, v = .slice a T.length c ∧ ∀ k (h : k < T.length), ∃ g f, a = some ⟨g, f, none⟩ ∧ TkAt w g (f + k * 4) T[k]
theorem SlT.kept {w w' : World} {v : Value} {T : List Tk} (h : SlT w v T) (hb : Below w.heap.size w w') : SlT w' v T := by
  obtain ⟨a, c, e, hk⟩ := h
  have st : ∀ {x : Addr} {u : Value}, w.cell? x = some u → w'.cell? x = some u := fun {x} {u} hx => by
    rw [World.cell?_of_block (hb.block _ (World.block_lt_of_cell? w x hx))]
    exact hx
  refine ⟨a, c, e, fun k h => ?_⟩
  obtain ⟨g, f, e2, ht⟩ := hk k h
  exact ⟨g, f, e2, ⟨st ht.k, st ht.s, st ht.n, st ht.l⟩⟩
theorem own_slT {w : World} {B : Nat} {v : Value} {T : List Tk} (h : w.ownsRow B 104 4 v T.length (cellsT T)) : SlT w v T := by
  rcases h.2 with ⟨rfl, h0⟩ | ⟨g, cap, cur, rfl, _⟩
  · exact ⟨none, 0, by rw [h0], fun k hk => by omega⟩
  · refine ⟨some ⟨g, 0, none⟩, cap, rfl, fun k hk => ⟨g, 0, rfl, ?_⟩⟩
    have hj : ∀ j, j < 4 → w.cell? ⟨g, 0 + k * 4 + j, none⟩ = (tkC T[k])[j]? := fun j hj => by
      rw [Nat.zero_add, h.cellAt _ (by omega), cellsT_at hk j hj]
    exact ⟨by simpa [tkC] using hj 0 (by omega), by simpa [tkC] using hj 1 (by omega), by simpa [tkC] using hj 2 (by omega), by simpa [tkC] using hj 3 (by omega)⟩
theorem SlT.nil (w : World) : SlT w (.slice none 0 0) [] := ⟨none, 0, rfl, fun k hk => by simp at hk⟩
def CapOk (v : Value) : Prop := ∀ a n c, v = .slice a n c → n ≤ c ∧ c ≤ maxLen
theorem capOk_nil : CapOk (.slice none 0 0) := fun a n c h => by
  simp at h
  unfold maxLen
  omega
theorem own_cap {w : World} {B e size n : Nat} {v : Value} {xs : List Value} (h : w.ownsRow B e size v n xs) : CapOk v := fun a m c hv => by
  rcases h.2 with ⟨rfl, _⟩ | ⟨g, cap, cur, rfl, _, _, hc, hm, _⟩
  · exact capOk_nil a m c hv
  · simp at hv
    obtain ⟨_, rfl, rfl⟩ := hv
    exact ⟨hc, hm⟩
def AllPost (s : ByteArray) (w : World) (e : Ending) (w' : World) : Prop :=
  ∃ tv, e = .returned (.tuple #[tv, .int .i64 (lexF s.data.toList).2.1, .int .i64 (lexF s.data.toList).2.2]) ∧ SlT w' tv (lexF s.data.toList).1 ∧ Below w.heap.size w w' ∧ CapOk tv
theorem AllPost.told {s : ByteArray} {w w' : World} {x : Int} (h8 : s.size ≤ 8192) (h : lexGo st0 (s.data.toList ++ [10]) = .inl x) (hb : Below w.heap.size w w') : AllPost s w (.returned (.tuple #[.slice none 0 0, .int .i64 x, .int .i64 3])) w' := by
  have e : lexF s.data.toList = ([], x, 3) := by
    unfold lexF
    rw [if_neg (by simpa using h8), h]
  unfold AllPost
  rw [e]
  exact ⟨_, rfl, SlT.nil _, hb, capOk_nil⟩
theorem AllPost.done {s : ByteArray} {w w' : World} {st : St} {tv : Value} (h8 : s.size ≤ 8192) (h : lexGo st0 (s.data.toList ++ [10]) = .inr st) (hs : SlT w' tv st.T) (hb : Below w.heap.size w w') (hc : CapOk tv) : AllPost s w (.returned (.tuple #[tv, .int .i64 0, .int .i64 0])) w' := by
  have e : lexF s.data.toList = (st.T, 0, 0) := by
    unfold lexF
    rw [if_neg (by simpa using h8), h]
  unfold AllPost
  rw [e]
  exact ⟨_, rfl, hs, hb, hc⟩
theorem AllPost.big {s : ByteArray} {w : World} (h8 : ¬ s.size ≤ 8192) : AllPost s w (.returned (.tuple #[.slice none 0 0, .int .i64 0, .int .i64 2])) w := by
  have e : lexF s.data.toList = ([], 0, 2) := by
    unfold lexF
    rw [if_pos (by simpa using h8)]
  unfold AllPost
  rw [e]
  exact ⟨_, rfl, SlT.nil _, Below.refl _ _, capOk_nil⟩
/-- a reader while the text is walked -/
structure LexAt (s : ByteArray) (w wr : World) (pos : Nat) (st : St) : Prop where
  rd : ∃ tv wv, Rd wr w.heap.size (w.heap.size + 2) tv wv st
  it : wr.heap[w.heap.size + 1]? = some (.stringIter s pos)
  low : Below w.heap.size w wr
  le : pos ≤ s.size
  go : lexGo st0 (s.data.toList.take pos) = .inr st
theorem Rd.iter {w : World} {r B k pos' : Nat} {tv wv : Value} {st : St} {s : ByteArray} (h : Rd w r B tv wv st) (hr : r < k) (hk : k < B) : Rd (w.iterAt k s pos') r B tv wv st :=
  h.boxed (by rw [Lib.iterAt_size]; exact h.sz) ((Lib.iterAt_other w k r s pos' (by omega)).trans h.box) (fun i hi _ => Lib.iterAt_other w k i s pos' (by omega)) rfl rfl
set_option maxHeartbeats 1000000 in
theorem All_any (s : ByteArray) (w : World) : Calls Tryd.prog 25 #[.string s] w fun e w' => AllPost s w e w' := by
  by_cases h8 : s.size ≤ 8192
  · have hd8 : decide ((s.size : Int) > 8192) = false := by simp; omega
    have hR0 : Rd ((w.alloc (.cells #[.slice none 0 0, .int .i64 1, .int .i64 0, .slice none 0 0, .int .i64 0, .int .i64 0] 99)).alloc (.stringIter s 0)) w.heap.size (w.heap.size + 2) (.slice none 0 0) (.slice none 0 0) st0 :=
      ⟨by omega, by simp, heap_alloc2_old w _ _, World.ownsRow_nil _ _ _ _, World.ownsRow_nil _ _ _ _⟩
    go_enter Tryd.func25, Tryd.ntmps25
    go_wp2_with fail
    have hL0 : LexAt s w ((w.alloc (.cells #[.slice none 0 0, .int .i64 1, .int .i64 0, .slice none 0 0, .int .i64 0, .int .i64 0] 99)).alloc (.stringIter s 0)) 0 st0 :=
      ⟨⟨_, _, hR0⟩, by simpa using heap_alloc_new (w.alloc (.cells #[.slice none 0 0, .int .i64 1, .int .i64 0, .slice none 0 0, .int .i64 0, .int .i64 0] 99)) (.stringIter s 0), ((Below.refl _ _).alloc (Nat.le_refl _) _).alloc (by simp) _, by omega, rfl⟩
    clear hR0 hd8
    go_loopw [7] (fun _ wr => ∃ (pos : Nat) (st : St), LexAt s w wr pos st) (fun _ wr => s.size - wr.iterPos (w.heap.size + 1))
    case atStart => exact ⟨0, st0, hL0⟩
    case round =>
      obtain ⟨pos, st, hL⟩ := hrel
      have hbd := lexGo_bd _ st0_bd hL.go
      have hle := hL.le
      have hlow := hL.low
      obtain ⟨tv, wv, hR⟩ := hL.rd
      by_cases hpos : pos < s.size
      · have hnx := fun ty => Lib.run_next_any_at (P := Tryd.prog) wr (w.heap.size + 1) s pos ty hL.it hpos
        have hst := lex_step s pos st hpos hL.go
        have hcl : ((Utf8.decode s pos).1 : Int) ≤ 2147483647 := by have := decode_le s pos; omega
        obtain ⟨cw, hcw⟩ : ∃ cw : Nat × Nat, Utf8.decode s pos = cw := ⟨_, rfl⟩
        rw [hcw] at hst hcl hnx
        have hm0 : wr.iterPos (w.heap.size + 1) = pos := by simp [World.iterPos, hL.it]
        obtain ⟨c, wd⟩ := cw
        simp only at hst hcl hnx
        have HST : Hid ((takeF st (c : Int) = none → lexGo st0 (s.data.toList ++ [10]) = .inl st.ln) ∧ (∀ st', takeF st (c : Int) = some st' → lexGo st0 (s.data.toList.take (pos + wd)) = .inr st' ∧ pos < pos + wd ∧ pos + wd ≤ s.size)) := hst
        have hR1 : Rd (wr.iterAt (w.heap.size + 1) s (pos + wd)) w.heap.size (w.heap.size + 2) tv wv st := hR.iter (by omega) (by omega)
        have hit1 := Lib.iterAt_heap wr (w.heap.size + 1) s pos (pos + wd) hL.it
        have hlow1 := Lib.below_iterAt hlow (k := w.heap.size + 1) (by omega) s (pos + wd)
        have HBD : Hid (Bd st (0 + (s.data.toList.take pos).length)) := hbd
        have hmm : 0 + (s.data.toList.take pos).length ≤ 20000 := by simp; omega
        clear hst hL hbd hcw
        go_wp2_with fail
        refine (take_any _ _ _ _ st c _ _ hR1 HBD.out hmm (by omega) hcl).mono ?_
        rintro e w2 ⟨rfl, tv2, wv2, st2, hR2, hF2, hs2, hn2⟩
        cases htk : takeF st (c : Int) with
        | none =>
          have hln := hn2 htk
          have hgo := HST.out.1 htk
          have HP : Hid (Below w.heap.size w w2) := hlow1.trans hF2.low
          have HP2 := AllPost.told h8 hgo (hlow1.trans hF2.low).drew
          obtain ⟨-, d1, -⟩ := hR2.cells
          rw [hln] at d1
          have HP3 : Hid (AllPost s w _ _) := HP2
          clear hs2 hn2 htk HST HP2
          go_wp2_with fail
          go_region
          go_wp2_with fail
          exact bodyPost_ret (v := .tuple #[.slice none 0 0, .int .i64 st.ln, .int .i64 3]) (by simp [results, Tryd.results25, go_sem]) rfl HP3.out
        | some st' =>
          obtain rfl := hs2 _ htk
          obtain ⟨h1, h2, h3⟩ := HST.out.2 _ htk
          have hit2 : w2.heap[w.heap.size + 1]? = some (.stringIter s (pos + wd)) := (hF2.mid _ (by omega) (by omega)).trans hit1
          have hm1 : w2.iterPos (w.heap.size + 1) = pos + wd := by simp [World.iterPos, hit2]
          have HL2 : Hid (LexAt s w w2 (pos + wd) st2) := ⟨⟨_, _, hR2⟩, hit2, hlow1.trans hF2.low, h3, h1⟩
          clear hs2 hn2 htk HST h1
          go_wp2_with fail
          go_roundw
          case rel => exact ⟨_, _, HL2.out⟩
          case measure => rw [hm0, hm1]; omega
      · have hnx := fun ty => Lib.run_next_end_at (P := Tryd.prog) wr (w.heap.size + 1) s pos ty hL.it hpos
        have hgo := hL.go
        rw [List.take_of_length_le (by simp; omega)] at hgo hbd
        have hend : lexGo st0 (s.data.toList ++ [10]) = match takeF st 10 with | none => .inl st.ln | some st' => .inr st' := by
          rw [lexGo_append, hgo]
          show (match takeF st 10 with | none => Sum.inl st.ln | some st' => lexGo st' []) = _
          cases takeF st 10 <;> rfl
        have HEND : Hid (lexGo st0 (s.data.toList ++ [10]) = match takeF st 10 with | none => .inl st.ln | some st' => .inr st') := hend
        have HBD : Hid (Bd st (0 + s.data.toList.length)) := hbd
        have hmm : 0 + s.data.toList.length ≤ 20000 := by simp; omega
        clear hend hgo hbd hL
        go_wp2_with fail
        refine (take_any _ _ _ _ st 10 _ _ hR HBD.out hmm (by omega) (by omega)).mono ?_
        rintro e w2 ⟨rfl, tv2, wv2, st2, hR2, hF2, hs2, hn2⟩
        have hb2 := hlow.trans hF2.low
        cases htk : takeF st 10 with
        | none =>
          have hln := hn2 htk
          have hgo := HEND.out
          rw [htk] at hgo
          have HP2 := AllPost.told h8 hgo hb2.drew
          obtain ⟨-, d1, -⟩ := hR2.cells
          rw [hln] at d1
          have HP3 : Hid (AllPost s w _ _) := HP2
          clear hs2 hn2 htk HEND HP2 hgo
          go_wp2_with fail
          go_region
          go_wp2_with fail
          exact bodyPost_ret (v := .tuple #[.slice none 0 0, .int .i64 st.ln, .int .i64 3]) (by simp [results, Tryd.results25, go_sem]) rfl HP3.out
        | some st' =>
          obtain rfl := hs2 _ htk
          have hgo := HEND.out
          rw [htk] at hgo
          have HP2 := AllPost.done h8 hgo (own_slT hR2.tok) hb2 (own_cap hR2.tok)
          obtain ⟨d0, -⟩ := hR2.cells
          have HP3 : Hid (AllPost s w _ _) := HP2
          clear hs2 hn2 htk HEND HP2 hgo
          go_wp2_with fail
          exact bodyPost_ret (v := .tuple #[tv2, .int .i64 0, .int .i64 0]) (by simp [results, Tryd.results25, go_sem]) rfl HP3.out
  · have hd8 : decide ((s.size : Int) > 8192) = true := by simp; omega
    have HP : Hid (AllPost s w (.returned (.tuple #[.slice none 0 0, .int .i64 0, .int .i64 2])) w) := .big h8
    clear h8
    go_enter Tryd.func25, Tryd.ntmps25
    go_wp2_with fail
    exact bodyPost_ret (v := .tuple #[.slice none 0 0, .int .i64 0, .int .i64 2]) (by simp [results, Tryd.results25, go_sem]) rfl HP.out
end Go.Proofs.YtnhogbgnnnniaaaDoor.L3
namespace Go.Proofs.YtnhogbgnnnniaaaDoor.L3
open Go.RowKit

/-- what All answers at the bytes l -/
def LexPost (l : List UInt8) (w : World) (e : Ending) (w' : World) : Prop :=
  ∃ ta tc, e = .returned (.tuple #[.slice ta (lexF l).1.length tc, .int .i64 (lexF l).2.1, .int .i64 (lexF l).2.2]) ∧ SlT w' (.slice ta (lexF l).1.length tc) (lexF l).1 ∧ Below w.heap.size w w'
theorem All_l {l : List UInt8} {s : ByteArray} (hs : s = strB l) (w : World) : Calls Tryd.prog 25 #[.string s] w fun e w' => LexPost l w e w' := by
  subst hs
  refine (All_any (strB l) w).mono ?_
  rintro e w' ⟨tv, he, hS, hb, _⟩
  rw [strB_data] at he hS
  have hS' := hS
  obtain ⟨ta, tc, rfl, -⟩ := hS'
  exact ⟨ta, tc, he, hS, hb⟩
/-- as LexPost, and the slice's room -/
def LexPostC (l : List UInt8) (w : World) (e : Ending) (w' : World) : Prop :=
  ∃ ta tc, e = .returned (.tuple #[.slice ta (lexF l).1.length tc, .int .i64 (lexF l).2.1, .int .i64 (lexF l).2.2]) ∧ SlT w' (.slice ta (lexF l).1.length tc) (lexF l).1 ∧ Below w.heap.size w w' ∧ (lexF l).1.length ≤ tc ∧ tc ≤ maxLen
theorem All_c {l : List UInt8} {s : ByteArray} (hs : s = strB l) (w : World) : Calls Tryd.prog 25 #[.string s] w fun e w' => LexPostC l w e w' := by
  subst hs
  refine (All_any (strB l) w).mono ?_
  rintro e w' ⟨tv, he, hS, hb, hc⟩
  rw [strB_data] at he hS
  have hS' := hS
  obtain ⟨ta, tc, rfl, -⟩ := hS'
  exact ⟨ta, tc, he, hS, hb, hc _ _ _ rfl⟩
theorem below_then {w w1 w2 : World} (h : Below w.heap.size w w1) (h2 : Below w1.heap.size w1 w2) : Below w.heap.size w w2 := h.trans (h2.mono h.size)
theorem below_alloc {w w1 : World} (h : Below w.heap.size w w1) (o : Obj) : Below w.heap.size w (w1.alloc o) := h.alloc h.size _
theorem lex_a5 : lexF [97, 32, 53] = ([⟨1, [97], 0, 1⟩, ⟨2, [], 5, 1⟩, ⟨4, [], 0, 1⟩], 0, 0) := by rfl
end Go.Proofs.YtnhogbgnnnniaaaDoor.L3
namespace Go.Proofs.YtnhogbgnnnniaaaDoor.L3
open Go.RowKit

theorem goY {st st' : St} {b : UInt8} {z : Int} {r : List UInt8} (hz : (b.toNat : Int) = z) (h : takeF st z = some st') : lexGo st (b :: r) = lexGo st' r := by
  rw [← hz] at h
  simp only [lexGo, h]
theorem goN {st : St} {b : UInt8} {z : Int} {r : List UInt8} (hz : (b.toNat : Int) = z) (h : takeF st z = none) : lexGo st (b :: r) = .inl st.ln := by
  rw [← hz] at h
  simp only [lexGo, h]
theorem open_snoc (T : List Tk) (t : Tk) : openT (T ++ [t]) = (t.k != 4) := by simp [openT]
def Tk.on (off : Int) (t : Tk) : Tk := ⟨t.k, t.s, t.n, t.l + off⟩
theorem openT_on {a b X : List Tk} {off : Int} (ha : openT a = false) (hb : openT b = false) : openT (a ++ X.map (Tk.on off)) = openT (b ++ X) := by
  rcases List.eq_nil_or_concat X with rfl | ⟨Y, t, rfl⟩
  · simp [ha, hb]
  · rw [List.concat_eq_append, List.map_append, ← List.append_assoc, ← List.append_assoc, List.map_cons, List.map_nil, open_snoc, open_snoc]
    rfl
/-- two readers alike but for what lies ahead of their tokens, and their lines -/
structure Sh (a b : List Tk) (off : Int) (st st' : St) : Prop where
  toks : ∃ X, st.T = b ++ X ∧ st'.T = a ++ X.map (Tk.on off)
  ln : st'.ln = st.ln + off
  ins : st'.ins = st.ins
  ws : st'.ws = st.ws
  num : st'.num = st.num
  sg : ¬ (st.ins = 0 ∨ st.ins = 1 ∨ st.ins = 2) → st'.sg = st.sg
section
variable {a b : List Tk} {off : Int} {st st' : St}
theorem Sh.push (h : Sh a b off st st') (t : Tk) : ∃ X, st.T ++ [t] = b ++ X ∧ st'.T ++ [Tk.on off t] = a ++ X.map (Tk.on off) := by
  obtain ⟨X, h1, h2⟩ := h.toks
  exact ⟨X ++ [t], by rw [h1, List.append_assoc], by rw [h2, List.append_assoc, List.map_append]; rfl⟩
theorem Sh.fin (h : Sh a b off st st') : (finF st = none ∧ finF st' = none) ∨ ∃ s s', finF st = some s ∧ finF st' = some s' ∧ Sh a b off s s' ∧ s.ins = 0 := by
  unfold finF
  rw [h.ins]
  by_cases h3 : st.ins = 3
  · exact .inl ⟨if_pos h3, if_pos h3⟩
  · rw [if_neg h3, if_neg h3]
    by_cases h2 : st.ins = 2
    · rw [if_pos h2, if_pos h2]
      have := h.push ⟨1, st.ws, 0, st.ln⟩
      exact .inr ⟨_, _, rfl, rfl, ⟨by rw [h.ws, h.ln]; exact this, h.ln, rfl, rfl, h.num, fun hx => by simp at hx⟩, rfl⟩
    · rw [if_neg h2, if_neg h2]
      by_cases h4 : st.ins = 4
      · rw [if_pos h4, if_pos h4]
        have := h.push ⟨2, [], st.num, st.ln⟩
        exact .inr ⟨_, _, rfl, rfl, ⟨by rw [h.num, h.ln]; exact this, h.ln, rfl, h.ws, rfl, fun hx => by simp at hx⟩, rfl⟩
      · rw [if_neg h4, if_neg h4]
        exact .inr ⟨_, _, rfl, rfl, ⟨h.toks, h.ln, rfl, h.ws, h.num, fun hx => by simp at hx⟩, rfl⟩
theorem Sh.oth (ha : openT a = false) (hb : openT b = false) (h : Sh a b off st st') (c : Int) : (othF st c = none ∧ othF st' c = none) ∨ ∃ s s', othF st c = some s ∧ othF st' c = some s' ∧ Sh a b off s s' := by
  unfold othF
  by_cases hbl : c = 32 ∨ c = 9 ∨ c = 13
  · rw [if_pos hbl, if_pos hbl]
    exact .inr ⟨_, _, rfl, rfl, h⟩
  · rw [if_neg hbl, if_neg hbl]
    by_cases h10 : c = 10
    · rw [if_pos h10, if_pos h10]
      refine .inr ⟨_, _, rfl, rfl, ⟨?_, ?_, h.ins, h.ws, h.num, h.sg⟩⟩
      · obtain ⟨X, h1, h2⟩ := h.toks
        simp only [St.endL]
        rw [h1, h2, openT_on ha hb]
        split
        · exact ⟨X ++ [⟨4, [], 0, st.ln⟩], by rw [List.append_assoc], by rw [List.append_assoc, List.map_append, h.ln]; rfl⟩
        · exact ⟨X, rfl, rfl⟩
      · simp only [St.endL, h.ln]
        omega
    · rw [if_neg h10, if_neg h10]
      by_cases h35 : c = 35
      · rw [if_pos h35, if_pos h35]
        exact .inr ⟨_, _, rfl, rfl, ⟨h.toks, h.ln, rfl, h.ws, h.num, fun hx => by simp at hx⟩⟩
      · rw [if_neg h35, if_neg h35]
        by_cases h45 : c = 45
        · rw [if_pos h45, if_pos h45]
          exact .inr ⟨_, _, rfl, rfl, ⟨h.toks, h.ln, rfl, h.ws, h.num, fun _ => rfl⟩⟩
        · rw [if_neg h45, if_neg h45]
          by_cases hs : c = 58 ∨ c = 44
          · rw [if_pos hs, if_pos hs]
            have := h.push ⟨3, [byteOf c], 0, st.ln⟩
            exact .inr ⟨_, _, rfl, rfl, ⟨by rw [h.ln]; exact this, h.ln, h.ins, h.ws, h.num, h.sg⟩⟩
          · rw [if_neg hs, if_neg hs]
            exact .inl ⟨rfl, rfl⟩
theorem Sh.take (ha : openT a = false) (hb : openT b = false) (h : Sh a b off st st') (c : Int) : (takeF st c = none ∧ takeF st' c = none) ∨ ∃ s s', takeF st c = some s ∧ takeF st' c = some s' ∧ Sh a b off s s' := by
  unfold takeF
  rw [h.ins]
  by_cases h1 : st.ins = 1 ∧ c ≠ 10
  · rw [if_pos h1, if_pos h1]
    exact .inr ⟨_, _, rfl, rfl, h⟩
  · rw [if_neg h1, if_neg h1]
    by_cases hl : 97 ≤ c ∧ c ≤ 122
    · rw [if_pos hl, if_pos hl]
      unfold letF
      rw [h.ins]
      by_cases h3 : st.ins = 3 ∨ st.ins = 4
      · rw [if_pos h3, if_pos h3]
        exact .inl ⟨rfl, rfl⟩
      · rw [if_neg h3, if_neg h3]
        exact .inr ⟨_, _, rfl, rfl, ⟨h.toks, h.ln, rfl, by rw [h.ws], h.num, fun hx => by simp at hx⟩⟩
    · rw [if_neg hl, if_neg hl]
      by_cases hd : 48 ≤ c ∧ c ≤ 57
      · rw [if_pos hd, if_pos hd]
        unfold digF
        rw [h.ins]
        by_cases h2 : st.ins = 2
        · rw [if_pos h2, if_pos h2]
          exact .inl ⟨rfl, rfl⟩
        · rw [if_neg h2, if_neg h2, h.num]
          by_cases h01 : st.ins = 1
          · exact absurd ⟨h01, by omega⟩ h1
          · have hsg : sgF st' = sgF st := by
              unfold sgF
              rw [h.ins]
              split
              · rfl
              · exact h.sg (by omega)
            rw [hsg]
            split
            · exact .inr ⟨_, _, rfl, rfl, ⟨h.toks, h.ln, rfl, h.ws, rfl, fun _ => rfl⟩⟩
            · exact .inl ⟨rfl, rfl⟩
      · rw [if_neg hd, if_neg hd]
        rcases h.fin with ⟨e1, e2⟩ | ⟨s, s', e1, e2, hs, -⟩
        · rw [e1, e2]
          exact .inl ⟨rfl, rfl⟩
        · rw [e1, e2]
          exact hs.oth ha hb c
theorem Sh.go (ha : openT a = false) (hb : openT b = false) : ∀ (l : List UInt8) (st st' : St), Sh a b off st st' →
    (∃ x, lexGo st l = .inl x ∧ lexGo st' l = .inl (x + off)) ∨ ∃ s s', lexGo st l = .inr s ∧ lexGo st' l = .inr s' ∧ Sh a b off s s'
  | [], st, st', h => .inr ⟨st, st', rfl, rfl, h⟩
  | c :: r, st, st', h => by
    rcases h.take ha hb c.toNat with ⟨e1, e2⟩ | ⟨s, s', e1, e2, hs⟩
    · exact .inl ⟨st.ln, goN rfl e1, by rw [goN rfl e2, h.ln]⟩
    · rw [goY rfl e1, goY rfl e2]
      exact Sh.go ha hb r s s' hs
end
/-- what a reader holds between tokens -/
structure Cl (st : St) : Prop where
  ws : st.ins ≠ 2 → st.ws = []
  num : st.ins ≠ 4 → st.num = 0
theorem cl0 : Cl st0 := ⟨fun _ => rfl, fun _ => rfl⟩
theorem Cl.fin {st s : St} (h : Cl st) (hf : finF st = some s) : s.ins = 0 ∧ s.ws = [] ∧ s.num = 0 ∧ s.ln = st.ln := by
  unfold finF at hf
  split at hf
  · cases hf
  · split at hf
    · rename_i h2
      obtain rfl := Option.some.inj hf
      exact ⟨rfl, rfl, h.num (by omega), rfl⟩
    · split at hf
      · rename_i h4
        obtain rfl := Option.some.inj hf
        exact ⟨rfl, h.ws (by omega), rfl, rfl⟩
      · rename_i h2 h4
        obtain rfl := Option.some.inj hf
        exact ⟨rfl, h.ws h2, h.num h4, rfl⟩
/-- lines a byte makes -/
def tenI (c : Int) : Int := if c = 10 then 1 else 0
theorem Cl.take {st s : St} {c : Int} (h : Cl st) (hf : takeF st c = some s) : Cl s ∧ s.ln = st.ln + tenI c := by
  unfold takeF at hf
  split at hf
  · rename_i hc
    obtain rfl := Option.some.inj hf
    exact ⟨h, by rw [tenI, if_neg hc.2]; omega⟩
  · split at hf
    · rename_i h1 hc
      unfold letF at hf
      split at hf
      · cases hf
      · rename_i h34
        obtain rfl := Option.some.inj hf
        exact ⟨⟨fun hx => absurd rfl hx, fun _ => h.num (by omega)⟩, by rw [tenI, if_neg (by omega)]; simp⟩
    · split at hf
      · rename_i h1 h2 hc
        unfold digF at hf
        split at hf
        · cases hf
        · rename_i hi
          split at hf
          · obtain rfl := Option.some.inj hf
            exact ⟨⟨fun _ => h.ws hi, fun hx => absurd rfl hx⟩, by rw [tenI, if_neg (by omega)]; simp⟩
          · cases hf
      · cases hs : finF st with
        | none => rw [hs] at hf; cases hf
        | some s1 =>
          rw [hs] at hf
          obtain ⟨q0, q1, q2, q3⟩ := h.fin hs
          have hf2 : othF s1 c = some s := hf
          unfold othF at hf2
          rw [← q3]
          split at hf2
          · rename_i hb
            obtain rfl := Option.some.inj hf2
            exact ⟨⟨fun _ => q1, fun _ => q2⟩, by rw [tenI, if_neg (by omega)]; simp⟩
          · split at hf2
            · rename_i h10
              obtain rfl := Option.some.inj hf2
              exact ⟨⟨fun _ => q1, fun _ => q2⟩, by rw [tenI, if_pos h10]; rfl⟩
            · rename_i h10
              split at hf2
              · obtain rfl := Option.some.inj hf2
                exact ⟨⟨fun _ => q1, fun _ => q2⟩, by rw [tenI, if_neg h10]; simp⟩
              · split at hf2
                · obtain rfl := Option.some.inj hf2
                  exact ⟨⟨fun _ => q1, fun _ => q2⟩, by rw [tenI, if_neg h10]; simp⟩
                · split at hf2
                  · obtain rfl := Option.some.inj hf2
                    exact ⟨⟨fun _ => q1, fun _ => q2⟩, by rw [tenI, if_neg h10]; simp⟩
                  · cases hf2
def tens : List UInt8 → Nat
  | [] => 0
  | c :: r => (if c = 10 then 1 else 0) + tens r
theorem ten_byte (c : UInt8) : tenI c.toNat = ((if c = 10 then 1 else 0 : Nat) : Int) := by
  unfold tenI
  by_cases h : c = 10
  · subst h; rfl
  · have : ¬ ((c.toNat : Int) = 10) := fun e => h (by apply UInt8.toNat.inj; simpa using (by omega : c.toNat = 10))
    rw [if_neg this, if_neg h]
    rfl
theorem Cl.go : ∀ (l : List UInt8) (st s : St), Cl st → lexGo st l = .inr s → Cl s ∧ s.ln = st.ln + (tens l : Int)
  | [], st, s, h, hl => by
    cases hl
    exact ⟨h, by simp [tens]⟩
  | c :: r, st, s, h, hl => by
    cases ht : takeF st (c.toNat : Int) with
    | none => rw [goN rfl ht] at hl; cases hl
    | some s1 =>
      rw [goY rfl ht] at hl
      obtain ⟨h1, e1⟩ := h.take ht
      obtain ⟨h2, e2⟩ := Cl.go r s1 s h1 hl
      refine ⟨h2, ?_⟩
      rw [e2, e1, ten_byte, tens]
      omega
/-- a line's end: what is left -/
theorem line_end {st s : St} (h : Cl st) (hf : takeF st 10 = some s) : s.ins = 0 ∧ s.ws = [] ∧ s.num = 0 ∧ openT s.T = false ∧ s.ln = st.ln + 1 := by
  rw [takeF_rest (fun h => h.2 rfl) (by omega) (by omega)] at hf
  cases hs : finF st with
  | none => rw [hs] at hf; cases hf
  | some s1 =>
    rw [hs] at hf
    obtain ⟨q0, q1, q2, q3⟩ := h.fin hs
    have hf2 : some s1.endL = some s := hf
    obtain rfl := Option.some.inj hf2
    refine ⟨q0, q1, q2, ?_, by rw [← q3]; rfl⟩
    simp only [St.endL]
    cases ho : openT s1.T with
    | true => rw [if_pos rfl, open_snoc]; rfl
    | false => simp [ho]
/-- two texts, a line's end between -/
theorem lex_parts (s t : List UInt8) (hs : s.length ≤ 1500) (ht : t.length ≤ 1500) :
    ((lexF s).2.2 ≠ 0 → (lexF (s ++ [10] ++ t)).2.2 = 3 ∧ (lexF (s ++ [10] ++ t)).1 = []) ∧
    ((lexF s).2.2 = 0 → (lexF t).2.2 ≠ 0 → (lexF (s ++ [10] ++ t)).2.2 = (lexF t).2.2 ∧ (lexF (s ++ [10] ++ t)).2.1 = (lexF t).2.1 + ((tens s : Int) + 1)) ∧
    ((lexF s).2.2 = 0 → (lexF t).2.2 = 0 → (lexF (s ++ [10] ++ t)).2.2 = 0 ∧ (lexF (s ++ [10] ++ t)).1 = (lexF s).1 ++ (lexF t).1.map (Tk.on ((tens s : Int) + 1))) := by
  have l1 : ¬ 8192 < s.length := by omega
  have l2 : ¬ 8192 < t.length := by omega
  have l3 : ¬ 8192 < (s ++ [10] ++ t).length := by simp; omega
  have e : lexGo st0 (s ++ [10] ++ t ++ [10]) = match lexGo st0 (s ++ [10]) with | .inl x => .inl x | .inr st' => lexGo st' (t ++ [10]) := by
    rw [List.append_assoc, lexGo_append]
    cases lexGo st0 (s ++ [10]) <;> rfl
  unfold lexF
  rw [if_neg l1, if_neg l2, if_neg l3, e]
  cases h1 : lexGo st0 (s ++ [10]) with
  | inl x =>
    exact ⟨fun _ => ⟨rfl, rfl⟩, fun h => absurd h (by simp), fun h => absurd h (by simp)⟩
  | inr s1 =>
    refine ⟨fun h => absurd rfl h, ?_⟩
    have hsplit := lexGo_append st0 s [10]
    rw [h1] at hsplit
    have hcl : s1.ins = 0 ∧ s1.ws = [] ∧ s1.num = 0 ∧ openT s1.T = false ∧ s1.ln = 1 + (tens s : Int) + 1 := by
      cases h0 : lexGo st0 s with
      | inl x => rw [h0] at hsplit; cases hsplit
      | inr s0 =>
        rw [h0] at hsplit
        obtain ⟨c0, n0⟩ := Cl.go s st0 s0 cl0 h0
        have hsplit2 : Sum.inr s1 = lexGo s0 [10] := hsplit
        cases h2 : takeF s0 10 with
        | none => rw [goN rfl h2] at hsplit2; cases hsplit2
        | some s2 =>
          rw [goY rfl h2] at hsplit2
          cases hsplit2
          obtain ⟨r1, r2, r3, r4, r5⟩ := line_end c0 h2
          exact ⟨r1, r2, r3, r4, by rw [r5, n0]; rfl⟩
    obtain ⟨r1, r2, r3, r4, r5⟩ := hcl
    have hSh : Sh s1.T [] ((tens s : Int) + 1) st0 s1 := ⟨⟨[], rfl, by simp⟩, by rw [r5]; simp only [st0]; omega, r1, r2, r3, fun hx => absurd (.inl rfl) hx⟩
    rcases Sh.go r4 rfl (t ++ [10]) st0 s1 hSh with ⟨x, e1, e2⟩ | ⟨u, u', e1, e2, hu⟩
    · simp only [e1, e2]
      exact ⟨fun _ _ => ⟨trivial, trivial⟩, fun _ h => absurd h (by simp)⟩
    · simp only [e1, e2]
      refine ⟨fun _ h => absurd rfl h, fun _ _ => ⟨trivial, ?_⟩⟩
      obtain ⟨X, x1, x2⟩ := hu.toks
      rw [x2, x1]
      rfl
end Go.Proofs.YtnhogbgnnnniaaaDoor.L3
namespace Go.Proofs.YtnhogbgnnnniaaaDoor.L3
open Go.RowKit

structure Ln (st : St) : Prop where
  one : 1 ≤ st.ln
  all : ∀ t ∈ st.T, 1 ≤ t.l ∧ t.l ≤ st.ln
theorem Ln.add {T : List Tk} {ln : Int} (h1 : 1 ≤ ln) (h : ∀ t ∈ T, 1 ≤ t.l ∧ t.l ≤ ln) (k n : Int) (s : List UInt8) : ∀ t ∈ T ++ [⟨k, s, n, ln⟩], 1 ≤ t.l ∧ t.l ≤ ln := fun t ht => by
  simp at ht
  rcases ht with ht | rfl
  · exact h t ht
  · exact ⟨h1, Int.le_refl _⟩
theorem Ln.fin {st s : St} (h : Ln st) (hf : finF st = some s) : Ln s := by
  unfold finF at hf
  split at hf
  · cases hf
  · split at hf
    · obtain rfl := Option.some.inj hf
      exact ⟨h.one, Ln.add h.one h.all _ _ _⟩
    · split at hf
      · obtain rfl := Option.some.inj hf
        exact ⟨h.one, Ln.add h.one h.all _ _ _⟩
      · obtain rfl := Option.some.inj hf
        exact ⟨h.one, h.all⟩
theorem Ln.oth {st s : St} {c : Int} (h : Ln st) (hf : othF st c = some s) : Ln s := by
  unfold othF at hf
  split at hf
  · obtain rfl := Option.some.inj hf
    exact h
  · split at hf
    · obtain rfl := Option.some.inj hf
      refine ⟨by have := h.one; simp only [St.endL]; omega, fun t ht => ?_⟩
      simp only [St.endL] at ht ⊢
      have : 1 ≤ t.l ∧ t.l ≤ st.ln := by
        split at ht
        · exact Ln.add h.one h.all _ _ _ t ht
        · exact h.all t ht
      omega
    · split at hf
      · obtain rfl := Option.some.inj hf
        exact ⟨h.one, h.all⟩
      · split at hf
        · obtain rfl := Option.some.inj hf
          exact ⟨h.one, h.all⟩
        · split at hf
          · obtain rfl := Option.some.inj hf
            exact ⟨h.one, Ln.add h.one h.all _ _ _⟩
          · cases hf
theorem Ln.take {st s : St} {c : Int} (h : Ln st) (hf : takeF st c = some s) : Ln s := by
  unfold takeF at hf
  split at hf
  · obtain rfl := Option.some.inj hf
    exact h
  · split at hf
    · unfold letF at hf
      split at hf
      · cases hf
      · obtain rfl := Option.some.inj hf
        exact ⟨h.one, h.all⟩
    · split at hf
      · unfold digF at hf
        split at hf
        · cases hf
        · split at hf
          · obtain rfl := Option.some.inj hf
            exact ⟨h.one, h.all⟩
          · cases hf
      · cases hs : finF st with
        | none => rw [hs] at hf; cases hf
        | some s1 =>
          rw [hs] at hf
          exact (h.fin hs).oth hf
theorem Ln.go : ∀ (l : List UInt8) (st s : St), Ln st → lexGo st l = .inr s → Ln s
  | [], st, s, h, hl => by cases hl; exact h
  | c :: r, st, s, h, hl => by
    cases ht : takeF st (c.toNat : Int) with
    | none => rw [goN rfl ht] at hl; cases hl
    | some s1 =>
      rw [goY rfl ht] at hl
      exact Ln.go r s1 s (h.take ht) hl
theorem told_line : ∀ (l : List UInt8) (st : St) (m : Nat) (x : Int), Bd st m → lexGo st l = .inl x → 1 ≤ x ∧ x ≤ m + l.length + 1
  | [], st, m, x, _, hl => by cases hl
  | c :: r, st, m, x, h, hl => by
    cases ht : takeF st (c.toNat : Int) with
    | none =>
      rw [goN rfl ht] at hl
      cases hl
      have h1 := h.ln1
      have h2 := h.ln2
      simp only [List.length_cons]
      omega
    | some s1 =>
      rw [goY rfl ht] at hl
      have := told_line r s1 (m + 1) x (takeF_bd h ht) hl
      simp only [List.length_cons]
      omega
theorem lexF_lines (l : List UInt8) : ∀ t ∈ (lexF l).1, 1 ≤ t.l ∧ t.l ≤ 9000 := by
  intro t ht
  unfold lexF at ht
  split at ht
  · simp at ht
  · rename_i hl
    cases hg : lexGo st0 (l ++ [10]) with
    | inl x => rw [hg] at ht; simp at ht
    | inr s =>
      rw [hg] at ht
      have h1 := (Ln.go _ _ _ ⟨by simp [st0], by simp [st0]⟩ hg).all t ht
      have h2 := (lexGo_bd _ st0_bd hg).ln2
      simp at h2
      omega
theorem lexF_line (l : List UInt8) : 0 ≤ (lexF l).2.1 ∧ (lexF l).2.1 ≤ 9000 := by
  unfold lexF
  split
  · simp
  · rename_i hl
    cases hg : lexGo st0 (l ++ [10]) with
    | inl x =>
      have := told_line _ _ _ _ st0_bd hg
      simp at this
      simp only
      omega
    | inr s => simp
theorem lexF_length (l : List UInt8) : (lexF l).1.length ≤ 20000 := by
  unfold lexF
  split
  · simp
  · rename_i hl
    cases hg : lexGo st0 (l ++ [10]) with
    | inl x => simp
    | inr s =>
      have := (lexGo_bd _ st0_bd hg).toks
      simp at this
      simp only
      omega
/-- a token of a slice, as its cells tell it, also behind one more block -/
theorem SlT.at {w : World} {ga : Option Addr} {gc : Nat} {T : List Tk} (h : SlT w (.slice ga T.length gc) T) {k : Nat} (hk : k < T.length) : ∃ g f, ga = some ⟨g, f, none⟩ ∧ TkAt w g (f + k * 4) T[k] := by
  obtain ⟨a, c, e, hx⟩ := h
  obtain ⟨rfl, rfl⟩ : ga = a ∧ gc = c := by simp at e; exact ⟨e.1, e.2⟩
  exact hx k hk
theorem TkAt.alloc {w : World} {g f : Nat} {t : Tk} (h : TkAt w g f t) (o : Obj) : TkAt (w.alloc o) g f t := by
  have st : ∀ {x : Addr} {u : Value}, w.cell? x = some u → (w.alloc o).cell? x = some u := fun {x} {u} hx => by
    rw [World.cell?_of_block (Below.heap_alloc _ _ _ (World.block_lt_of_cell? w x hx))]
    exact hx
  exact ⟨st h.k, st h.s, st h.n, st h.l⟩
end Go.Proofs.YtnhogbgnnnniaaaDoor.L3
