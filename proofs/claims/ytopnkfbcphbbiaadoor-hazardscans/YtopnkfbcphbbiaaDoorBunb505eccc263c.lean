/-
  Helpers: A9Mp, Zm.
-/
import Derived.WalkKit
import Derived.Below
import Derived.MapKept
import Derived.Maps.OwnSet
import Derived.Deep.QuietTactic
namespace Go.Proofs.YtopnkfbcphbbiaaDoor.A9
open Go.RowKit Go.MapKept

def upF (f : Int → Option Value) (k : Int) (v : Option Value) : Int → Option Value := fun j => if j = k then v else f j
theorem upF_same (f : Int → Option Value) (k : Int) (v : Option Value) : upF f k v k = v := if_pos rfl
theorem upF_other (f : Int → Option Value) {k j : Int} (v : Option Value) (h : j ≠ k) : upF f k v j = f j := if_neg h
def lookE : List MapEntry → Int → Option Value
  | [], _ => none
  | e :: es, k => if intOf e.key = k then some e.val else lookE es k
/-- block b is a map from numbers that has just f; at most n entries -/
def MapI (w : World) (b : Nat) (f : Int → Option Value) (n : Nat) : Prop :=
  ∃ es clock, w.heap[b]? = some (.map es clock) ∧ (∀ e ∈ es.toList, e.key = .int .i64 (intOf e.key)) ∧ (es.toList.map fun e => intOf e.key).Nodup ∧ (∀ k, f k = lookE es.toList k) ∧ es.size ≤ n
/-- all but one block as it was -/
structure But (b : Nat) (w w' : World) : Prop where
  os : w'.os = w.os
  tape : w'.tape = w.tape
  output : w'.output = w.output
  size : w'.heap.size = w.heap.size
  block : ∀ k, k ≠ b → w'.heap[k]? = w.heap[k]?
theorem But.below {b : Nat} {w w' : World} (h : But b w w') {S : Nat} (hS : S ≤ b) {a : World} (hb : Below S a w) : Below S a w' :=
  ⟨h.os.trans hb.os, h.tape.trans hb.tape, h.output.trans hb.output, by have := hb.size; rw [h.size]; exact this, fun k hk => (h.block k (by omega)).trans (hb.block k hk)⟩
theorem MapI.lt {w : World} {b n : Nat} {f : Int → Option Value} (h : MapI w b f n) : b < w.heap.size := by
  obtain ⟨es, clock, hb, -⟩ := h
  exact (Array.getElem?_eq_some_iff.1 hb).1
theorem MapI.same {w w' : World} {b n : Nat} {f : Int → Option Value} (h : MapI w b f n) (hb : w'.heap[b]? = w.heap[b]?) : MapI w' b f n := by
  obtain ⟨es, clock, h1, h2⟩ := h
  exact ⟨es, clock, hb.trans h1, h2⟩
theorem MapI.below {w w' : World} {b n : Nat} {f : Int → Option Value} (h : MapI w b f n) (hb : Below w.heap.size w w') : MapI w' b f n := h.same (hb.block b h.lt)
theorem MapI.drew {w : World} {b n : Nat} {f : Int → Option Value} (h : MapI w b f n) : MapI w.drew b f n := h
theorem MapI.drewN {w : World} {b n : Nat} {f : Int → Option Value} (h : MapI w b f n) (m : Nat) : MapI (w.drewN m) b f n := h
theorem MapI.alloc {w : World} {b n : Nat} {f : Int → Option Value} (h : MapI w b f n) (o : Obj) : MapI (w.alloc o) b f n := h.same (Below.heap_alloc _ _ _ h.lt)
theorem MapI.setCell {w : World} {b n : Nat} {f : Int → Option Value} (h : MapI w b f n) {g : Nat} (hg : b ≠ g) (k : Nat) (v : Value) : MapI (w.setCell ⟨g, k, none⟩ v) b f n := h.same (Below.heap_setCell _ _ _ _ hg)
theorem MapI.mono {w : World} {b n m : Nat} {f : Int → Option Value} (h : MapI w b f n) (hm : n ≤ m) : MapI w b f m := by
  obtain ⟨es, clock, h1, h2, h3, h4, h5⟩ := h
  exact ⟨es, clock, h1, h2, h3, h4, by omega⟩
theorem MapI.made (w : World) : MapI (w.alloc (.map #[] 0)) w.heap.size (fun _ => none) 0 :=
  ⟨#[], 0, (heap_alloc w _).1, by simp, by simp, fun k => rfl, Nat.le_refl _⟩
theorem look_none : ∀ {l : List MapEntry} {k : Int}, (∀ e ∈ l, intOf e.key ≠ k) → lookE l k = none
  | [], _, _ => rfl
  | e :: es, k, h => by
    rw [lookE, if_neg (h e (by simp))]
    exact look_none fun x hx => h x (by simp [hx])
theorem look_at : ∀ {l : List MapEntry} {j : Nat} {e : MapEntry} {k : Int}, (l.map fun e => intOf e.key).Nodup → l[j]? = some e → intOf e.key = k → lookE l k = some e.val
  | [], j, e, k, _, h, _ => by simp at h
  | a :: l, 0, e, k, _, h, hk => by
    simp at h
    subst h
    rw [lookE, if_pos hk]
  | a :: l, j + 1, e, k, hn, h, hk => by
    simp at h
    rw [List.map_cons, List.nodup_cons] at hn
    have hm : e ∈ l := List.mem_of_getElem? h
    rw [lookE, if_neg fun h2 => hn.1 (List.mem_map.2 ⟨e, hm, by rw [hk, h2]⟩)]
    exact look_at hn.2 h hk
theorem look_push {l : List MapEntry} {e : MapEntry} {k : Int} (hk : intOf e.key = k) (h : ∀ x ∈ l, intOf x.key ≠ k) (j : Int) : lookE (l ++ [e]) j = upF (lookE l) k (some e.val) j := by
  induction l with
  | nil =>
    show (if intOf e.key = j then some e.val else none) = _
    by_cases hj : j = k
    · rw [if_pos (by omega), hj, upF_same]
    · rw [if_neg (by omega), upF_other _ _ hj]
      rfl
  | cons a l ih =>
    have ih := ih fun x hx => h x (by simp [hx])
    have ha := h a (by simp)
    show (if intOf a.key = j then some a.val else lookE (l ++ [e]) j) = _
    rw [ih]
    by_cases hj : j = k
    · rw [if_neg (by omega), hj, upF_same, upF_same]
    · rw [upF_other _ _ hj, upF_other _ _ hj]
      rfl
theorem look_set : ∀ {l : List MapEntry} {i : Nat} {e e' : MapEntry} {k : Int}, (l.map fun e => intOf e.key).Nodup → l[i]? = some e → intOf e.key = k → intOf e'.key = k → ∀ j, lookE (l.set i e') j = upF (lookE l) k (some e'.val) j
  | [], i, e, e', k, _, h, _, _, _ => by simp at h
  | a :: l, 0, e, e', k, _, h, hk, hk', j => by
    simp at h
    subst h
    show (if intOf e'.key = j then some e'.val else lookE l j) = _
    by_cases hj : j = k
    · rw [if_pos (by omega), hj, upF_same]
    · rw [if_neg (by omega), upF_other _ _ hj, lookE, if_neg (by omega)]
  | a :: l, i + 1, e, e', k, hn, h, hk, hk', j => by
    simp at h
    rw [List.map_cons, List.nodup_cons] at hn
    have hm : e ∈ l := List.mem_of_getElem? h
    have ha : intOf a.key ≠ k := fun h2 => hn.1 (List.mem_map.2 ⟨e, hm, by rw [hk, h2]⟩)
    have ih := look_set hn.2 h hk hk' j
    show (if intOf a.key = j then some a.val else lookE (l.set i e') j) = _
    rw [ih]
    by_cases hj : j = k
    · rw [if_neg (by omega), hj, upF_same, upF_same]
    · rw [upF_other _ _ hj, upF_other _ _ hj]
      rfl
theorem modify_at (g : MapEntry → MapEntry) : ∀ {l : List MapEntry} {j : Nat} {e : MapEntry}, l[j]? = some e → l.modify j g = l.set j (g e)
  | [], j, e, h => by simp at h
  | a :: l, 0, e, h => by
    simp at h
    subst h
    rfl
  | a :: l, j + 1, e, h => by
    simp at h
    show a :: l.modify j g = a :: l.set j (g e)
    rw [modify_at g h]
theorem keys_set : ∀ {l : List MapEntry} {i : Nat} {e e' : MapEntry}, l[i]? = some e → intOf e'.key = intOf e.key → (l.set i e').map (fun e => intOf e.key) = l.map fun e => intOf e.key
  | [], i, e, e', h, _ => by simp at h
  | a :: l, 0, e, e', h, hk => by
    simp at h
    subst h
    simp [hk]
  | a :: l, i + 1, e, e', h, hk => by
    simp at h
    simp [keys_set h hk]
theorem look_erase : ∀ {l : List MapEntry} {i : Nat} {e : MapEntry} {k : Int}, (l.map fun e => intOf e.key).Nodup → l[i]? = some e → intOf e.key = k → ∀ j, lookE (l.eraseIdx i) j = upF (lookE l) k none j
  | [], i, e, k, _, h, _, _ => by simp at h
  | a :: l, 0, e, k, hn, h, hk, j => by
    simp at h
    subst h
    rw [List.map_cons, List.nodup_cons] at hn
    show lookE l j = _
    by_cases hj : j = k
    · rw [hj, upF_same]
      exact look_none fun x hx h2 => hn.1 (List.mem_map.2 ⟨x, hx, by rw [hk, h2]⟩)
    · rw [upF_other _ _ hj, lookE, if_neg (by omega)]
  | a :: l, i + 1, e, k, hn, h, hk, j => by
    simp at h
    rw [List.map_cons, List.nodup_cons] at hn
    have hm : e ∈ l := List.mem_of_getElem? h
    have ha : intOf a.key ≠ k := fun h2 => hn.1 (List.mem_map.2 ⟨e, hm, by rw [hk, h2]⟩)
    have ih := look_erase hn.2 h hk j
    show (if intOf a.key = j then some a.val else lookE (l.eraseIdx i) j) = _
    rw [ih]
    by_cases hj : j = k
    · rw [if_neg (by omega), hj, upF_same, upF_same]
    · rw [upF_other _ _ hj, upF_other _ _ hj]
      rfl
section
variable {P : Program} {w : World} {b n : Nat} {f : Int → Option Value} {T K E : TypeId}
theorem find_int {l : List MapEntry} (hk : ∀ e ∈ l, e.key = .int .i64 (intOf e.key)) (hn : (l.map fun e => intOf e.key).Nodup) (k : Int) :
    (Instr.findNow (.int .i64) (.int .i64 k) l 0 = some none ∧ lookE l k = none ∧ ∀ e ∈ l, intOf e.key ≠ k) ∨ ∃ j e, Instr.findNow (.int .i64) (.int .i64 k) l 0 = some (some (j, e.val)) ∧ l[j]? = some e ∧ intOf e.key = k ∧ lookE l k = some e.val := by
  have hK : ∀ e ∈ l, IsKey (.int .i64) e.key := fun e he => by rw [hk e he]; rfl
  rcases findNow_spec (d := .int .i64) (k := .int .i64 k) rfl l 0 hK with ⟨h1, h2⟩ | ⟨j, e, h1, h2, h3⟩
  · have h4 : ∀ e ∈ l, intOf e.key ≠ k := fun e he h => h2 e he (by rw [hk e he, h])
    exact .inl ⟨h1, look_none h4, h4⟩
  · rw [Nat.zero_add] at h1
    have h4 : intOf e.key = k := by rw [h3]; rfl
    exact .inr ⟨j, e, h1, h2, h4, look_at hn h2 h4⟩
/-- m[k] -/
theorem MapI.look (h : MapI w b f n) (hT : P.underlying T = some (.map K E)) (hK : P.underlying K = some (.int .i64)) {z : Value} (hz : (zeroValue E).run P w = .ok z w) (k : Int) : (Instr.lookup T (.map (some b)) (.int .i64 k) false).run P w = .ok ((f k).getD z) w := by
  obtain ⟨es, clock, hb, h1, h2, h3, -⟩ := h
  rcases find_int h1 h2 k with ⟨g1, g2, -⟩ | ⟨j, e, g1, -, -, g2⟩
  · rw [h3, g2]
    simp [Instr.lookup, run_underlying hT, Go.MapKept.run_getObj_map hb, Go.MapKept.run_checkKey (k := .int .i64 k) hK rfl, Go.MapKept.run_findKey hK g1, hz, Result.andThen]
  · rw [h3, g2]
    simp [Instr.lookup, run_underlying hT, Go.MapKept.run_getObj_map hb, Go.MapKept.run_checkKey (k := .int .i64 k) hK rfl, Go.MapKept.run_findKey hK g1, Result.andThen]
/-- v, ok := m[k] -/
theorem MapI.lookOk (h : MapI w b f n) (hT : P.underlying T = some (.map K E)) (hK : P.underlying K = some (.int .i64)) {z : Value} (hz : (zeroValue E).run P w = .ok z w) (k : Int) : (Instr.lookup T (.map (some b)) (.int .i64 k) true).run P w = .ok (.tuple #[(f k).getD z, .bool (f k).isSome]) w := by
  obtain ⟨es, clock, hb, h1, h2, h3, -⟩ := h
  rcases find_int h1 h2 k with ⟨g1, g2, -⟩ | ⟨j, e, g1, -, -, g2⟩
  · rw [h3, g2]
    simp [Instr.lookup, run_underlying hT, Go.MapKept.run_getObj_map hb, Go.MapKept.run_checkKey (k := .int .i64 k) hK rfl, Go.MapKept.run_findKey hK g1, hz, Result.andThen]
  · rw [h3, g2]
    simp [Instr.lookup, run_underlying hT, Go.MapKept.run_getObj_map hb, Go.MapKept.run_checkKey (k := .int .i64 k) hK rfl, Go.MapKept.run_findKey hK g1, Result.andThen]
theorem but_set {o : Obj} {es : Array MapEntry} {clock : Nat} (hb : w.heap[b]? = some (.map es clock)) : But b w { w with heap := w.heap.setIfInBounds b o } :=
  ⟨rfl, rfl, rfl, by simp, fun k hk => (heap_set hb).2 k hk⟩
/-- m[k] = v -/
theorem MapI.put (h : MapI w b f n) (hT : P.underlying T = some (.map K E)) (hK : P.underlying K = some (.int .i64)) (k : Int) (v : Value) : ∃ w', (Instr.mapUpdate T (.map (some b)) (.int .i64 k) v).run P w = .ok () w' ∧ MapI w' b (upF f k (some v)) (n + 1) ∧ But b w w' := by
  obtain ⟨es, clock, hb, h1, h2, h3, h4⟩ := h
  rcases find_int h1 h2 k with ⟨g1, g2, g3⟩ | ⟨j, e, g1, g2, g3, g4⟩
  · refine ⟨{ w with heap := w.heap.setIfInBounds b (.map (es.push { key := .int .i64 k, val := v, born := clock }) (clock + 1)) }, ?_, ⟨_, _, (heap_set hb).1, ?_, ?_, ?_, by simp; omega⟩, but_set hb⟩
    · simp [Instr.mapUpdate, run_underlying hT, Go.MapKept.run_getObj_map hb, Go.MapKept.run_checkKey (k := .int .i64 k) hK rfl, Go.MapKept.run_findKey hK g1, Go.MapKept.run_setObj_map _ hb, Result.andThen]
    · intro x hx
      simp only [Array.toList_push, List.mem_append, List.mem_singleton] at hx
      rcases hx with hx | rfl
      · exact h1 x hx
      · rfl
    · rw [Array.toList_push, List.map_append, List.nodup_append]
      refine ⟨h2, by simp, fun a ha c hc => ?_⟩
      obtain ⟨x, hx, rfl⟩ := List.mem_map.1 ha
      simp at hc
      subst hc
      exact g3 x hx
    · intro j
      rw [Array.toList_push, look_push (k := k) rfl g3 j]
      unfold upF
      split
      · rfl
      · exact h3 j
  · have hjl : j < es.size := by have := (List.getElem?_eq_some_iff.1 g2).1; simpa using this
    have hej : es[j]? = some e := by rw [← Array.getElem?_toList]; exact g2
    have hkey : e.key = .int .i64 k := by rw [h1 e (List.mem_of_getElem? g2), g3]
    refine ⟨{ w with heap := w.heap.setIfInBounds b (.map (es.modify j fun e => { e with key := .int .i64 k, val := v }) clock) }, ?_, ⟨_, _, (heap_set hb).1, ?_, ?_, ?_, by simp; omega⟩, but_set hb⟩
    · simp [Instr.mapUpdate, run_underlying hT, Go.MapKept.run_getObj_map hb, Go.MapKept.run_checkKey (k := .int .i64 k) hK rfl, Go.MapKept.run_findKey hK g1, Go.MapKept.run_setObj_map _ hb, hej, hkey, Go.MapKept.run_keyThatStays (d := .int .i64) (k := .int .i64 k) rfl, Result.andThen]
    all_goals rw [Array.toList_modify, modify_at _ g2]
    · intro x hx
      rcases List.mem_or_eq_of_mem_set hx with hx | rfl
      · exact h1 x hx
      · rfl
    · rw [keys_set g2 (by rw [g3]; rfl)]
      exact h2
    · intro i
      rw [look_set (e' := { e with key := .int .i64 k, val := v }) h2 g2 g3 rfl i]
      unfold upF
      split
      · rfl
      · exact h3 i
/-- delete(m, k) -/
theorem MapI.del (h : MapI w b f n) (hT : P.underlying T = some (.map K E)) (hK : P.underlying K = some (.int .i64)) (ty : TypeId) (k : Int) : ∃ w', (Builtin.delete_ #[T, K] ty #[.map (some b), .int .i64 k]).run P w = .ok (.tuple #[]) w' ∧ MapI w' b (upF f k none) n ∧ But b w w' := by
  obtain ⟨es, clock, hb, h1, h2, h3, h4⟩ := h
  rcases find_int h1 h2 k with ⟨g1, g2, g3⟩ | ⟨j, e, g1, g2, g3, g4⟩
  · refine ⟨{ w with heap := w.heap.setIfInBounds b (.map es clock) }, ?_, ⟨es, clock, (heap_set hb).1, h1, h2, fun j => ?_, h4⟩, but_set hb⟩
    · simp [Builtin.delete_, run_underlying hT, Go.MapKept.run_getObj_map hb, Go.MapKept.run_checkKey (k := .int .i64 k) hK rfl, Go.MapKept.run_findKey hK g1, Go.MapKept.run_setObj_map _ hb, Result.andThen]
    · unfold upF
      split
      · rename_i hj; rw [hj, g2]
      · exact h3 j
  · have hjl : j < es.size := by have := (List.getElem?_eq_some_iff.1 g2).1; simpa using this
    refine ⟨{ w with heap := w.heap.setIfInBounds b (.map (es.eraseIdxIfInBounds j) clock) }, ?_, ⟨_, _, (heap_set hb).1, ?_, ?_, ?_, ?_⟩, but_set hb⟩
    · simp [Builtin.delete_, run_underlying hT, Go.MapKept.run_getObj_map hb, Go.MapKept.run_checkKey (k := .int .i64 k) hK rfl, Go.MapKept.run_findKey hK g1, Go.MapKept.run_setObj_map _ hb, Result.andThen]
    all_goals have he : es.eraseIdxIfInBounds j = es.eraseIdx j hjl := by unfold Array.eraseIdxIfInBounds; rw [dif_pos hjl]
    all_goals rw [he]
    · intro x hx
      rw [Array.toList_eraseIdx] at hx
      exact h1 x (List.mem_of_mem_eraseIdx hx)
    · rw [Array.toList_eraseIdx]
      exact h2.sublist ((List.eraseIdx_sublist _ _).map _)
    · intro i
      rw [Array.toList_eraseIdx, look_erase h2 g2 g3 i]
      unfold upF
      split
      · rfl
      · exact h3 i
    · simp
      omega
/-- len(m) -/
theorem MapI.len (h : MapI w b f n) (hT : P.underlying T = some (.map K E)) (ty : TypeId) : ∃ m : Nat, m ≤ n ∧ (Builtin.len_ #[T] ty #[.map (some b)]).run P w = .ok (.int .i64 m) w := by
  obtain ⟨es, clock, hb, h1, h2, h3, h4⟩ := h
  refine ⟨es.size, h4, ?_⟩
  simp [Builtin.len_, run_underlying hT, Go.MapKept.run_getObj_map hb, goInt, Result.andThen]
end
/-! ### at the operation -/
section
variable {P : Program} {b n : Nat} {f : Int → Option Value} {ops : Array Oper} {rest : List Oper} {o : Oper} {a : Act} {Q : Exit → Act → World → Prop}
/-- v := m[k] -/
theorem list_look (w : World) (hg : o.guard = none) (m x : Operand) (T : TypeId) (hop : o.op = Op.lookup T m x false) (K E : TypeId) (hT : P.underlying T = some (.map K E)) (hK : P.underlying K = some (.int .i64)) (z : Value) (hz : (zeroValue E).run P w = .ok z w) (hm : a.eval m = .map (some b)) (k : Int) (hx : a.eval x = .int .i64 k) (h : MapI w b f n)
    (hq : ∀ v, v = (f k).getD z → wpList P ops Q rest (a.put o.dst v) w) : wpList P ops Q (o :: rest) a w := by
  refine wpList_plain hg fun K' hK' => ?_
  have hrun := h.look hT hK hz k
  unfold Oper.wp
  simp [execOp, hop, hm, hx, hrun, Result.andThen]
  exact hK' _ _ (hq _ rfl)
/-- v, ok := m[k] -/
theorem list_lookOk (w : World) (hg : o.guard = none) (m x : Operand) (T : TypeId) (hop : o.op = Op.lookup T m x true) (K E : TypeId) (hT : P.underlying T = some (.map K E)) (hK : P.underlying K = some (.int .i64)) (z : Value) (hz : (zeroValue E).run P w = .ok z w) (hm : a.eval m = .map (some b)) (k : Int) (hx : a.eval x = .int .i64 k) (h : MapI w b f n)
    (hq : ∀ v c, v = (f k).getD z → c = (f k).isSome → wpList P ops Q rest (a.put o.dst (.tuple #[v, .bool c])) w) : wpList P ops Q (o :: rest) a w := by
  refine wpList_plain hg fun K' hK' => ?_
  have hrun := h.lookOk hT hK hz k
  unfold Oper.wp
  simp [execOp, hop, hm, hx, hrun, Result.andThen]
  exact hK' _ _ (hq _ _ rfl rfl)
/-- m[k] = v -/
theorem list_put (w : World) (hg : o.guard = none) (m x v : Operand) (T : TypeId) (hop : o.op = Op.mapUpdate T m x v) (K E : TypeId) (hT : P.underlying T = some (.map K E)) (hK : P.underlying K = some (.int .i64)) (hm : a.eval m = .map (some b)) (k : Int) (hx : a.eval x = .int .i64 k) (val : Value) (hv : a.eval v = val) (h : MapI w b f n)
    (hq : ∀ w', MapI w' b (upF f k (some val)) (n + 1) → But b w w' → wpList P ops Q rest (a.put o.dst undef) w') : wpList P ops Q (o :: rest) a w := by
  refine wpList_plain hg fun K' hK' => ?_
  obtain ⟨w', hrun, r1, r2⟩ := h.put hT hK k val
  unfold Oper.wp
  simp [execOp, hop, hm, hx, hv, hrun, Result.andThen]
  exact hK' _ _ (hq w' r1 r2)
/-- delete(m, k) -/
theorem list_del (w : World) (hg : o.guard = none) (m x : Operand) (T K : TypeId) (hop : o.op = Op.call { callee := Callee.builtin Builtin.delete, args := #[m, x], argTypes := #[T, K] }) (E : TypeId) (hT : P.underlying T = some (.map K E)) (hK : P.underlying K = some (.int .i64)) (hm : a.eval m = .map (some b)) (k : Int) (hx : a.eval x = .int .i64 k) (h : MapI w b f n)
    (hq : ∀ w', MapI w' b (upF f k none) n → But b w w' → wpList P ops Q rest (a.put o.dst (.tuple #[])) w') : wpList P ops Q (o :: rest) a w := by
  refine wpList_plain hg fun K' hK' => ?_
  obtain ⟨w', hrun, r1, r2⟩ := h.del hT hK o.type k
  unfold Oper.wp
  simp [execOp, hop, resolve, invoke, builtin, hm, hx, hrun, Result.andThen]
  exact hK' _ _ (hq w' r1 r2)
variable {D : Prop} {KK : Act → World → Prop}
/-- .. at a step of a region that draws -/
theorem step_look (w : World) (hgd : o.guard = none) (m x : Operand) (T : TypeId) (hop : o.op = Op.lookup T m x false) (K E : TypeId) (hT : P.underlying T = some (.map K E)) (hK : P.underlying K = some (.int .i64)) (z : Value) (hz : (zeroValue E).run P w = .ok z w) (hm : a.eval m = .map (some b)) (k : Int) (hx : a.eval x = .int .i64 k) (h : MapI w b f n)
    (hq : ∀ v, v = (f k).getD z → KK (a.put o.dst v) w) : if Region.wanted o (yielded ops a.tmps) = true then Oper.wp P o a w KK Q else D := by
  have hw : Region.wanted o (yielded ops a.tmps) = true := by simp [Region.wanted, hgd]
  rw [if_pos hw]
  have hrun := h.look hT hK hz k
  unfold Oper.wp
  simp [execOp, hop, hm, hx, hrun, Result.andThen]
  exact hq _ rfl
theorem step_lookOk (w : World) (hgd : o.guard = none) (m x : Operand) (T : TypeId) (hop : o.op = Op.lookup T m x true) (K E : TypeId) (hT : P.underlying T = some (.map K E)) (hK : P.underlying K = some (.int .i64)) (z : Value) (hz : (zeroValue E).run P w = .ok z w) (hm : a.eval m = .map (some b)) (k : Int) (hx : a.eval x = .int .i64 k) (h : MapI w b f n)
    (hq : ∀ v c, v = (f k).getD z → c = (f k).isSome → KK (a.put o.dst (.tuple #[v, .bool c])) w) : if Region.wanted o (yielded ops a.tmps) = true then Oper.wp P o a w KK Q else D := by
  have hw : Region.wanted o (yielded ops a.tmps) = true := by simp [Region.wanted, hgd]
  rw [if_pos hw]
  have hrun := h.lookOk hT hK hz k
  unfold Oper.wp
  simp [execOp, hop, hm, hx, hrun, Result.andThen]
  exact hq _ _ rfl rfl
theorem step_put (w : World) (hgd : o.guard = none) (m x v : Operand) (T : TypeId) (hop : o.op = Op.mapUpdate T m x v) (K E : TypeId) (hT : P.underlying T = some (.map K E)) (hK : P.underlying K = some (.int .i64)) (hm : a.eval m = .map (some b)) (k : Int) (hx : a.eval x = .int .i64 k) (val : Value) (hv : a.eval v = val) (h : MapI w b f n)
    (hq : ∀ w', MapI w' b (upF f k (some val)) (n + 1) → But b w w' → KK (a.put o.dst undef) w') : if Region.wanted o (yielded ops a.tmps) = true then Oper.wp P o a w KK Q else D := by
  have hw : Region.wanted o (yielded ops a.tmps) = true := by simp [Region.wanted, hgd]
  rw [if_pos hw]
  obtain ⟨w', hrun, r1, r2⟩ := h.put hT hK k val
  unfold Oper.wp
  simp [execOp, hop, hm, hx, hv, hrun, Result.andThen]
  exact hq w' r1 r2
end
end Go.Proofs.YtopnkfbcphbbiaaDoor.A9
namespace Go.Proofs.YtopnkfbcphbbiaaDoor
open Go.RowKit Go.MapKept
open A9 (MapI But but_set lookE upF)
section
variable {P : Program} {w : World} {b n : Nat} {f : Int → Option Value} {T K E : TypeId}
/-- clear(m) -/
theorem MapI_clear (h : MapI w b f n) (hT : P.underlying T = some (.map K E)) (ty : TypeId) : ∃ w', (Builtin.clear_ #[T] ty #[.map (some b)]).run P w = .ok (.tuple #[]) w' ∧ MapI w' b (fun _ => none) 0 ∧ But b w w' := by
  obtain ⟨es, clock, hb, h1, h2, h3, h4⟩ := h
  refine ⟨{ w with heap := w.heap.setIfInBounds b (.map #[] clock) }, ?_, ⟨_, _, (heap_set hb).1, by simp, by simp, fun _ => rfl, by simp⟩, but_set hb⟩
  simp [Builtin.clear_, run_underlying hT, Go.MapKept.run_getObj_map hb, Go.MapKept.run_setObj_map _ hb, Result.andThen]
end
section
variable {P : Program} {b n : Nat} {f : Int → Option Value} {ops : Array Oper} {rest : List Oper} {o : Oper} {a : Act} {Q : Exit → Act → World → Prop}
theorem list_clear (w : World) (hg : o.guard = none) (m : Operand) (T : TypeId) (hop : o.op = Op.call { callee := Callee.builtin Builtin.clear, args := #[m], argTypes := #[T] }) (K E : TypeId) (hT : P.underlying T = some (.map K E)) (hm : a.eval m = .map (some b)) (h : MapI w b f n)
    (hq : ∀ w', MapI w' b (fun _ => none) 0 → But b w w' → wpList P ops Q rest (a.put o.dst (.tuple #[])) w') : wpList P ops Q (o :: rest) a w := by
  refine wpList_plain hg fun K' hK' => ?_
  obtain ⟨w', hrun, r1, r2⟩ := MapI_clear h hT o.type
  unfold Oper.wp
  simp [execOp, hop, resolve, invoke, builtin, hm, hrun, Result.andThen]
  exact hK' _ _ (hq w' r1 r2)
end
end Go.Proofs.YtopnkfbcphbbiaaDoor
