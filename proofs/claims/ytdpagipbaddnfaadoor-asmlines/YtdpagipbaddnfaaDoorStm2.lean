/-
  statements: what it answers at every list of tokens that lex may hand on.
-/
import Derived.Test.YtdpagipbaddnfaaDoorStm
namespace Go.Proofs.YtdpagipbaddnfaaDoor
open Go.RowKit L3 Go.Maps

theorem stm_info : (Tryd.prog.info? 102).map (fun i => (i.zero, i.size, i.bytes)) = some (some (.agg #[.int .i64 0, .slice none 0 0, .int .i64 0]), 3, 40) := by kernel_rfl
theorem sl_mid (g f n c b k m : Nat) (h : n ≤ c) (hm : c ≤ 9223372036854775807) (h1 : b + (m + 1) = k) (h2 : k ≤ n) (w : World) : (Instr.slice 51 (.slice (some ⟨g, f, none⟩) n c) (some (.int .i64 (b : Int))) (some (.int .i64 (k : Int))) none).run Tryd.prog w = .ok (.slice (some ⟨g, f + b * 4, none⟩) (m + 1) (c - b)) w := by
  go_simp
  rw [if_pos (by omega), if_pos (by omega), if_neg (by omega)]
  congr 2
  omega
theorem take_drop_snoc {T : List Tk} {k bg : Nat} (h : k < T.length) (hb : bg ≤ k) : (T.take (k + 1)).drop bg = (T.take k).drop bg ++ [T[k]] := by
  rw [List.take_succ_eq_append_getElem h, List.drop_append_of_le_length (by simp; omega)]
theorem take_drop_nil (T : List Tk) (k : Nat) : (T.take k).drop k = [] := by simp
section
variable {w wr : World} {T : List Tk} {k bg : Nat} {all : List Sm} {last : Int} {v : Value} {vals : List Value}
theorem Stg.other (h : Stg w T wr k bg all last v vals) (hk : k < T.length) (h4 : ¬ T[k].k = 4) (o : Obj) : Stg w T (wr.alloc o) (k + 1) bg all last v vals := by
  have hg := h.go
  have hd := h.good
  rw [List.drop_eq_getElem_cons hk] at hg hd
  simp only [stmF] at hg
  rw [if_pos h4, ← take_drop_snoc hk h.bgk] at hg
  have hb := h.bgk
  refine ⟨h.map.below ((Below.refl _ _).alloc (Nat.le_refl _) _), h.own.kept ((Below.refl _ _).alloc (Nat.le_refl _) _), h.low.alloc h.low.size _, by have := h.big; simp; omega, by omega, by omega, hg, ?_, h.l0, h.l1, by have := h.cnt; omega⟩
  rw [decide_eq_true (by omega)]
  exact goodT_on hd h4
/-- the line that ends at k, without its End -/
theorem Stg.line (h : Stg w T wr k bg all last v vals) (hk : k < T.length) (h4 : T[k].k = 4) : ∃ c0 cr, (T.take k).drop bg = c0 :: cr ∧ bg + (cr.length + 1) = k ∧ goodT false (T.drop (k + 1)) := by
  have hd := h.good
  rw [List.drop_eq_getElem_cons hk] at hd
  obtain ⟨h1, h2⟩ := goodT_end hd h4
  have h3 : bg < k := of_decide_eq_true h1
  have hl : ((T.take k).drop bg).length = k - bg := by simp; omega
  cases hc : (T.take k).drop bg with
  | nil => rw [hc] at hl; simp at hl; omega
  | cons c0 cr => rw [hc] at hl; simp at hl; exact ⟨c0, cr, rfl, by omega, h2⟩
theorem Stg.told (h : Stg w T wr k bg all last v vals) (hk : k < T.length) (h4 : T[k].k = 4) (hr : readF ((T.take k).drop bg) = none) : stmF [] [] 0 T = .inl T[k].l := by
  have hg := h.go
  rw [List.drop_eq_getElem_cons hk] at hg
  simp only [stmF] at hg
  rw [if_neg (by simp [h4]), hr] at hg
  exact hg
theorem Stg.bad (h : Stg w T wr k bg all last v vals) (hk : k < T.length) (h4 : T[k].k = 4) {kd : Nat} {xs : List Int} (hr : readF ((T.take k).drop bg) = some (kd, xs)) (hf : followsB all.length kd = false) : stmF [] [] 0 T = .inl T[k].l := by
  have hg := h.go
  rw [List.drop_eq_getElem_cons hk] at hg
  simp only [stmF] at hg
  rw [if_neg (by simp [h4]), hr] at hg
  simp only [hf] at hg
  simpa using hg
theorem Stg.ok (h : Stg w T wr k bg all last v vals) (hk : k < T.length) (h4 : T[k].k = 4) {kd : Nat} {xs : List Int} (hr : readF ((T.take k).drop bg) = some (kd, xs)) (hf : followsB all.length kd = true) : stmF [] [] 0 T = stmF ((T.take (k + 1)).drop (k + 1)) (all ++ [⟨kd, xs, lineOf ((T.take k).drop bg)⟩]) T[k].l (T.drop (k + 1)) := by
  have hg := h.go
  rw [List.drop_eq_getElem_cons hk] at hg
  simp only [stmF] at hg
  rw [if_neg (by simp [h4]), hr] at hg
  simp only [hf, if_true] at hg
  rw [take_drop_nil]
  exact hg
end
theorem getElem_seg {T : List Tk} {k bg j : Nat} {c0 : Tk} {cr : List Tk} (h : (T.take k).drop bg = c0 :: cr) (hj : j < (c0 :: cr).length) (hb : bg + j < T.length) : T[bg + j] = (c0 :: cr)[j] := by
  have e : (c0 :: cr)[j]? = T[bg + j]? := by
    rw [← h, List.getElem?_drop, List.getElem?_take]
    have : ((T.take k).drop bg).length = (c0 :: cr).length := by rw [h]
    simp at this hj
    rw [if_pos (by omega)]
  rw [List.getElem?_eq_getElem hj, List.getElem?_eq_getElem hb] at e
  exact (Option.some.inj e).symm
end Go.Proofs.YtdpagipbaddnfaaDoor
