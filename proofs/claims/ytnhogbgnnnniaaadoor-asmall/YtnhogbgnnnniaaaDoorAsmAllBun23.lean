/-
  Helpers: L3Wrong.
-/
import Derived.Test.YtnhogbgnnnniaaaDoorAsmAllBun20
import Derived.Test.YtnhogbgnnnniaaaDoorAsmAllBun1
import Derived.Laws.BytesString
import Derived.Laws.MakeOwn
import Derived.Laws.OwnMore
namespace Go.Proofs.YtnhogbgnnnniaaaDoor.L3
open Go.RowKit

theorem push_fold : ∀ (ns : List UInt8) (s : ByteArray), (ns.map fun x => (x.toNat : Int)).foldl (fun r n => r.push (UInt8.ofNat n.toNat)) s = ⟨s.data ++ ns.toArray⟩
  | [], s => by simp
  | x :: ns, s => by
    simp only [List.map_cons, List.foldl_cons]
    rw [push_fold ns]
    have e : UInt8.ofNat (x.toNat : Int).toNat = x := by simp
    rw [e]
    congr 1
    simp [ByteArray.push]
theorem bytes_string {w : World} {g cap : Nat} {cur : Array Value} {fr : Nat × Nat} {l : List UInt8} (hg : w.heap[g]? = some (.cells cur 5 fr)) (hc : cur.toList.take l.length = l.map fun x => .int .u8 (x.toNat : Int)) :
    (convert 70 9 (.slice (some ⟨g, 0, none⟩) l.length cap)).run Tryd.prog w = .ok (.string (strB l)) w := by
  rw [run_convert_bytes_string w 70 9 5 _ _ _ Tryd.underlying70 Tryd.underlying5 Tryd.underlying9]
  have hl : (loadCells ⟨g, 0, none⟩ l.length).run Tryd.prog w = .ok ((l.map fun x => (x.toNat : Int)).map (Value.int .u8)).toArray w := by
    have h := run_loadCells_list (P := Tryd.prog) (w := w) ⟨g, 0, none⟩ (l.map fun x => .int .u8 (x.toNat : Int)) (fun j v hv => by
      rw [Go.WideShapes.add_plain, Nat.zero_add, cell_of_row w g j cur _ _ hg]
      rw [← hc] at hv
      have := (List.getElem?_eq_some_iff.1 hv).1
      rw [List.getElem?_take_of_lt (by simp at this; omega)] at hv
      simpa using hv)
    simpa [Function.comp_def] using h
  rw [run_bytesToString w ⟨g, 0, none⟩ l.length cap _ hl, push_fold]
  show Result.ok (Value.string ⟨#[] ++ l.toArray⟩) w = _
  simp [strB]
theorem go_yes {st st' : St} {b : UInt8} {z : Int} {r : List UInt8} (hz : (b.toNat : Int) = z) (h : takeF st z = some st') : lexGo st (b :: r) = lexGo st' r := by
  rw [← hz] at h
  simp only [lexGo, h]
theorem go_no {st : St} {b : UInt8} {z : Int} {r : List UInt8} (hz : (b.toNat : Int) = z) (h : takeF st z = none) : lexGo st (b :: r) = .inl st.ln := by
  rw [← hz] at h
  simp only [lexGo, h]
theorem fin_some {st : St} (h : st.ins ≠ 3) : ∃ s1, finF st = some s1 := by
  unfold finF
  rw [if_neg h]
  split
  · exact ⟨_, rfl⟩
  · split <;> exact ⟨_, rfl⟩
theorem take_ten {st : St} (h : st.ins ≠ 3) : ∃ s1, takeF st 10 = some s1 := by
  obtain ⟨s1, h1⟩ := fin_some h
  rw [takeF_rest (fun h => h.2 rfl) (by omega) (by omega), h1]
  exact ⟨s1.endL, rfl⟩
/-- a reader at a line's begin -/
structure Fresh (st : St) (n : Nat) : Prop where
  ln : st.ln = n + 1
  ins : st.ins = 0
  ws : st.ws = []
  num : st.num = 0
  cl : openT st.T = false
theorem fresh0 : Fresh st0 0 := ⟨rfl, rfl, rfl, rfl, rfl⟩
theorem openT_snoc (T : List Tk) (t : Tk) : openT (T ++ [t]) = (t.k != 4) := by simp [openT]
theorem fresh_line {st : St} {n : Nat} (h : Fresh st n) : ∃ st', lexGo st [97, 32, 49, 10] = .inr st' ∧ Fresh st' (n + 1) := by
  obtain ⟨T, ln, ins, ws, num, sg⟩ := st
  obtain ⟨h1, h2, h3, h4, h5⟩ := h
  simp only at h1 h2 h3 h4 h5
  subst h1 h2 h3 h4
  have e1 : takeF ⟨T, (n : Int) + 1, 0, [], 0, sg⟩ 97 = some ⟨T, n + 1, 2, [97], 0, sg⟩ := by simp [takeF, letF, byteOf]
  have e2 : takeF ⟨T, (n : Int) + 1, 2, [97], 0, sg⟩ 32 = some ⟨T ++ [⟨1, [97], 0, n + 1⟩], n + 1, 0, [], 0, sg⟩ := by simp [takeF, finF, othF]
  have e3 : takeF ⟨T ++ [⟨1, [97], 0, (n : Int) + 1⟩], n + 1, 0, [], 0, sg⟩ 49 = some ⟨T ++ [⟨1, [97], 0, n + 1⟩], n + 1, 4, [], 1, 1⟩ := by simp [takeF, digF, sgF]
  have e4 : takeF ⟨T ++ [⟨1, [97], 0, (n : Int) + 1⟩], n + 1, 4, [], 1, 1⟩ 10 = some ⟨(T ++ [⟨1, [97], 0, n + 1⟩] ++ [⟨2, [], 1, n + 1⟩]) ++ [⟨4, [], 0, n + 1⟩], n + 1 + 1, 0, [], 0, 1⟩ := by
    simp [takeF, finF, othF, St.endL, openT]
  exact ⟨_, (go_yes rfl e1).trans ((go_yes rfl e2).trans ((go_yes rfl e3).trans ((go_yes rfl e4).trans rfl))), ⟨by simp, rfl, rfl, rfl, by rw [openT_snoc]; rfl⟩⟩
def linesA (n : Nat) : List UInt8 := (List.replicate n [97, 32, 49, 10]).flatten
theorem linesA_succ (n : Nat) : linesA (n + 1) = linesA n ++ [97, 32, 49, 10] := by simp [linesA, List.replicate_succ']
theorem linesA_length : ∀ n, (linesA n).length = 4 * n
  | 0 => rfl
  | n + 1 => by rw [linesA_succ, List.length_append, linesA_length n]; simp; omega
theorem fresh_lines : ∀ n, ∃ st, lexGo st0 (linesA n) = .inr st ∧ Fresh st n
  | 0 => ⟨st0, rfl, fresh0⟩
  | n + 1 => by
    obtain ⟨st, h1, h2⟩ := fresh_lines n
    obtain ⟨st', h3, h4⟩ := fresh_line h2
    refine ⟨st', ?_, h4⟩
    rw [linesA_succ, lexGo_append, h1]
    exact h3
def okB (c : Int) : Bool := (decide (97 ≤ c) && decide (c ≤ 122)) || (decide (48 ≤ c) && decide (c ≤ 57)) || c == 32 || c == 9 || c == 13 || c == 10 || c == 35 || c == 58 || c == 44
theorem fresh_one {st : St} {n : Nat} (h : Fresh st n) (c : UInt8) : (okB c.toNat = true → ∃ st', lexGo st [c, 10] = .inr st') ∧ (okB c.toNat = false → lexGo st [c, 10] = .inl (n + 1)) := by
  obtain ⟨T, ln, ins, ws, num, sg⟩ := st
  obtain ⟨h1, h2, h3, h4, h5⟩ := h
  simp only at h1 h2 h3 h4 h5
  subst h1 h2 h3 h4
  have hten : ∀ s : St, s.ins ≠ 3 → ∃ st', lexGo s [10] = .inr st' := fun s h3 => by
    obtain ⟨s', h⟩ := take_ten h3
    exact ⟨s', (go_yes rfl h).trans rfl⟩
  have hstep : ∀ s : St, ∀ st', takeF s c.toNat = some st' → lexGo s [c, 10] = lexGo st' [10] := fun s st' h => by
    show (match takeF s c.toNat with | none => Sum.inl s.ln | some st' => lexGo st' [10]) = _
    rw [h]
  have hno : takeF ⟨T, (n : Int) + 1, 0, [], 0, sg⟩ c.toNat = none → lexGo ⟨T, (n : Int) + 1, 0, [], 0, sg⟩ [c, 10] = .inl (n + 1) := fun h => by
    show (match takeF ⟨T, (n : Int) + 1, 0, [], 0, sg⟩ c.toNat with | none => Sum.inl ((n : Int) + 1) | some st' => lexGo st' [10]) = _
    rw [h]
  generalize hc : (c.toNat : Int) = z at *
  by_cases hl : 97 ≤ z ∧ z ≤ 122
  · have e : takeF ⟨T, (n : Int) + 1, 0, [], 0, sg⟩ z = some ⟨T, n + 1, 2, [byteOf z], 0, sg⟩ := by simp [takeF, letF, hl]
    refine ⟨fun _ => ?_, fun hk => ?_⟩
    · rw [hstep _ _ e]
      exact hten _ (by simp)
    · simp [okB, hl] at hk
  · by_cases hd : 48 ≤ z ∧ z ≤ 57
    · have e : takeF ⟨T, (n : Int) + 1, 0, [], 0, sg⟩ z = some ⟨T, n + 1, 4, [], z - 48, 1⟩ := by
        rw [takeF_dig (by simp) hd.1 hd.2]
        have h1 : sgF ⟨T, (n : Int) + 1, 0, [], 0, sg⟩ = 1 := rfl
        unfold digF
        rw [if_neg (by simp), h1, if_pos (by simp only; omega)]
        simp
      refine ⟨fun _ => ?_, fun hk => ?_⟩
      · rw [hstep _ _ e]
        exact hten _ (by simp)
      · simp [okB, hd] at hk
    · have e : takeF ⟨T, (n : Int) + 1, 0, [], 0, sg⟩ z = othF ⟨T, (n : Int) + 1, 0, [], 0, sg⟩ z := by
        rw [takeF_rest (by simp) hl hd]
        rfl
      by_cases hb : z = 32 ∨ z = 9 ∨ z = 13
      · have e2 : othF ⟨T, (n : Int) + 1, 0, [], 0, sg⟩ z = some ⟨T, (n : Int) + 1, 0, [], 0, sg⟩ := if_pos hb
        refine ⟨fun _ => ?_, fun hk => ?_⟩
        · rw [hstep _ _ (e.trans e2)]
          exact hten _ (by simp)
        · rcases hb with rfl | rfl | rfl <;> simp [okB] at hk
      · by_cases h10 : z = 10
        · have e2 : othF ⟨T, (n : Int) + 1, 0, [], 0, sg⟩ z = some (St.endL ⟨T, (n : Int) + 1, 0, [], 0, sg⟩) := (if_neg hb).trans (if_pos h10)
          refine ⟨fun _ => ?_, fun hk => ?_⟩
          · rw [hstep _ _ (e.trans e2)]
            exact hten _ (by simp [St.endL])
          · simp [okB, h10] at hk
        · by_cases h35 : z = 35
          · have e2 : othF ⟨T, (n : Int) + 1, 0, [], 0, sg⟩ z = some ⟨T, (n : Int) + 1, 1, [], 0, sg⟩ := ((if_neg hb).trans (if_neg h10)).trans (if_pos h35)
            refine ⟨fun _ => ?_, fun hk => ?_⟩
            · rw [hstep _ _ (e.trans e2)]
              exact hten _ (by simp)
            · simp [okB, h35] at hk
          · by_cases hs : z = 58 ∨ z = 44
            · have h45 : ¬ z = 45 := by omega
              have e2 : othF ⟨T, (n : Int) + 1, 0, [], 0, sg⟩ z = some ⟨T ++ [⟨3, [byteOf z], 0, (n : Int) + 1⟩], (n : Int) + 1, 0, [], 0, sg⟩ := ((((if_neg hb).trans (if_neg h10)).trans (if_neg h35)).trans (if_neg h45)).trans (if_pos hs)
              refine ⟨fun _ => ?_, fun hk => ?_⟩
              · rw [hstep _ _ (e.trans e2)]
                exact hten _ (by simp)
              · rcases hs with rfl | rfl <;> simp [okB] at hk
            · have hk : okB z = false := by
                simp [okB]
                omega
              refine ⟨fun h => (by rw [hk] at h; cases h), fun _ => ?_⟩
              by_cases h45 : z = 45
              · have e2 : othF ⟨T, (n : Int) + 1, 0, [], 0, sg⟩ z = some ⟨T, (n : Int) + 1, 3, [], 0, -1⟩ := (((if_neg hb).trans (if_neg h10)).trans (if_neg h35)).trans (if_pos h45)
                rw [hstep _ _ (e.trans e2)]
                rfl
              · exact hno (e.trans (((((if_neg hb).trans (if_neg h10)).trans (if_neg h35)).trans (if_neg h45)).trans (if_neg hs)))
theorem fresh_comment {st : St} {n : Nat} (h : Fresh st n) (c : UInt8) : ∃ st', lexGo st [35, 32, c, 10] = .inr st' := by
  obtain ⟨T, ln, ins, ws, num, sg⟩ := st
  obtain ⟨h1, h2, h3, h4, h5⟩ := h
  simp only at h1 h2 h3 h4 h5
  subst h1 h2 h3 h4
  have e1 : takeF ⟨T, (n : Int) + 1, 0, [], 0, sg⟩ 35 = some ⟨T, n + 1, 1, [], 0, sg⟩ := by simp [takeF, finF, othF]
  have e2 : takeF ⟨T, (n : Int) + 1, 1, [], 0, sg⟩ 32 = some ⟨T, n + 1, 1, [], 0, sg⟩ := by simp [takeF]
  have e4 : takeF ⟨T, (n : Int) + 1, 1, [], 0, sg⟩ 10 = some (St.endL ⟨T, n + 1, 0, [], 0, sg⟩) := by simp [takeF, finF, othF]
  by_cases hc : (c.toNat : Int) = 10
  · have e5 : takeF (St.endL ⟨T, n + 1, 0, [], 0, sg⟩) 10 = some (St.endL (St.endL ⟨T, n + 1, 0, [], 0, sg⟩)) := by simp [takeF, finF, othF, St.endL]
    exact ⟨_, (go_yes rfl e1).trans ((go_yes rfl e2).trans ((go_yes hc e4).trans ((go_yes rfl e5).trans rfl)))⟩
  · have e3 : takeF ⟨T, (n : Int) + 1, 1, [], 0, sg⟩ c.toNat = some ⟨T, n + 1, 1, [], 0, sg⟩ := if_pos ⟨rfl, hc⟩
    exact ⟨_, (go_yes rfl e1).trans ((go_yes rfl e2).trans ((go_yes rfl e3).trans ((go_yes rfl e4).trans rfl)))⟩
theorem lexF_one (n : Nat) (c : UInt8) (hn : n ≤ 30) : (okB c.toNat = true → (lexF (linesA n ++ [c])).2.2 = 0) ∧ (okB c.toNat = false → lexF (linesA n ++ [c]) = ([], (n : Int) + 1, 3)) := by
  obtain ⟨st, h1, h2⟩ := fresh_lines n
  have hl : ¬ 8192 < (linesA n ++ [c]).length := by rw [List.length_append, linesA_length]; simp; omega
  have e : lexGo st0 (linesA n ++ [c] ++ [10]) = lexGo st [c, 10] := by rw [List.append_assoc, lexGo_append, h1]; rfl
  obtain ⟨hy, hn⟩ := fresh_one h2 c
  refine ⟨fun hk => ?_, fun hk => ?_⟩
  · obtain ⟨st', hs⟩ := hy hk
    unfold lexF
    rw [if_neg hl, e, hs]
  · unfold lexF
    rw [if_neg hl, e, hn hk]
theorem lexF_comment (n : Nat) (c : UInt8) (hn : n ≤ 30) : (lexF (linesA n ++ [35, 32] ++ [c])).2.2 = 0 := by
  obtain ⟨st, h1, h2⟩ := fresh_lines n
  have hl : ¬ 8192 < (linesA n ++ [35, 32] ++ [c]).length := by rw [List.length_append, List.length_append, linesA_length]; simp; omega
  have e : lexGo st0 (linesA n ++ [35, 32] ++ [c] ++ [10]) = lexGo st [35, 32, c, 10] := by rw [List.append_assoc, List.append_assoc, lexGo_append, h1]; rfl
  obtain ⟨st', hs⟩ := fresh_comment h2 c
  unfold lexF
  rw [if_neg hl, e, hs]
end Go.Proofs.YtnhogbgnnnniaaaDoor.L3
