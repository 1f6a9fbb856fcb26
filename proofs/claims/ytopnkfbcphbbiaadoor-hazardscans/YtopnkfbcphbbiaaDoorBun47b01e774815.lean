/-
  Helpers: F0Fr.
-/
import Derived.Test.YtopnkfbcphbbiaaDoorRows
namespace Go.Proofs.YtopnkfbcphbbiaaDoor.F0
/-- a head word's tag, and what it names: one more than a slot's number, or none -/
def tagF (h : Int) : Int := h / 131072
def codF (h : Int) : Int := h % 131072
def mkF (t c : Int) : Int := 131072 * t + c
theorem tag_mk {t c : Int} (h0 : 0 ≤ c) (h1 : c < 131072) : tagF (mkF t c) = t := by unfold tagF mkF; omega
theorem cod_mk {t c : Int} (h0 : 0 ≤ c) (h1 : c < 131072) : codF (mkF t c) = c := by unfold codF mkF; omega
theorem mk_parts (h : Int) : mkF (tagF h) (codF h) = h := by unfold mkF tagF codF; omega
theorem cod_bd (h : Int) : 0 ≤ codF h ∧ codF h < 131072 := by unfold codF; omega
/-- what names the first of a list -/
def nxt : List Nat → Int
  | [] => 0
  | b :: _ => (b : Int) + 1
def Chn (lk : Nat → Int) : List Nat → Prop
  | [] => True
  | b :: r => lk b = nxt r ∧ Chn lk r
def upL (lk : Nat → Int) (b : Nat) (x : Int) : Nat → Int := fun j => if j = b then x else lk j
theorem upL_same (lk : Nat → Int) (b : Nat) (x : Int) : upL lk b x b = x := if_pos rfl
theorem upL_other (lk : Nat → Int) {b j : Nat} (x : Int) (h : j ≠ b) : upL lk b x j = lk j := if_neg h
theorem Chn.up {lk : Nat → Int} {b : Nat} {x : Int} : ∀ {ls : List Nat}, Chn lk ls → b ∉ ls → Chn (upL lk b x) ls
  | [], _, _ => trivial
  | a :: r, h, hb => by
    rw [List.mem_cons, not_or] at hb
    exact ⟨by rw [upL_other _ _ (fun e => hb.1 e.symm)]; exact h.1, Chn.up h.2 hb.2⟩
/-- a list: its head names the first, each link the next; of M slots -/
structure Ls (M : Nat) (hd : Int) (lk : Nat → Int) (ls : List Nat) : Prop where
  head : codF hd = nxt ls
  chain : Chn lk ls
  nd : ls.Nodup
  lt : ∀ b ∈ ls, b < M
  lb : ∀ b, b < M → 0 ≤ lk b ∧ lk b ≤ M
  tag : 0 ≤ tagF hd
/-- what is remembered of a head: of now, or an elder one -/
def Old (hd h : Int) : Prop := tagF h ≤ tagF hd ∧ (tagF h = tagF hd → h = hd)
theorem Old.now (hd : Int) : Old hd hd := ⟨Int.le_refl _, fun _ => rfl⟩
/-- behind a swap that went all that is remembered is elder -/
theorem Old.past {hd h c : Int} (ho : Old hd h) (h0 : 0 ≤ c) (h1 : c < 131072) : Old (mkF (tagF hd + 1) c) h ∧ tagF h ≠ tagF (mkF (tagF hd + 1) c) := by
  have ht := tag_mk (t := tagF hd + 1) h0 h1
  have := ho.1
  refine ⟨⟨by omega, fun e => ?_⟩, by omega⟩
  omega
/-- a push: 0 reads the head, 1 sets the link, 2 swaps; a pop: 0 reads the head, 1 the link, 2 swaps -/
structure Pu where
  b : Nat
  ph : Nat
  h : Int
structure Po where
  ph : Nat
  h : Int
  nx : Int
def PuOk (M : Nat) (hd : Int) (lk : Nat → Int) (m : Pu) : Prop := m.b < M ∧ (m.ph = 1 ∨ m.ph = 2 → Old hd m.h ∧ codF m.h ≤ M) ∧ (m.ph = 2 → lk m.b = codF m.h) ∧ m.ph ≤ 2
def PoOk (M : Nat) (hd : Int) (lk : Nat → Int) (m : Po) : Prop := (m.ph = 1 ∨ m.ph = 2 → Old hd m.h ∧ codF m.h ≠ 0 ∧ codF m.h ≤ M) ∧ (m.ph = 2 → (m.h = hd → m.nx = lk (codF m.h - 1).toNat) ∧ 0 ≤ m.nx ∧ m.nx ≤ M) ∧ m.ph ≤ 2
section
variable {M : Nat} {hd : Int} {lk : Nat → Int} {ls : List Nat}
theorem nxt_bd (hl : ∀ b ∈ ls, b < M) : 0 ≤ nxt ls ∧ nxt ls ≤ M := by
  cases ls with
  | nil => exact ⟨Int.le_refl _, by show (0 : Int) ≤ M; omega⟩
  | cons b r =>
    have := hl b (by simp)
    show 0 ≤ (b : Int) + 1 ∧ (b : Int) + 1 ≤ M
    omega
theorem Ls.cod (h : Ls M hd lk ls) : codF hd ≤ M := by rw [h.head]; exact (nxt_bd h.lt).2
/-- a link is set by who owns the slot -/
theorem Ls.link (h : Ls M hd lk ls) {b : Nat} (hb : b ∉ ls) {x : Int} (hx : 0 ≤ x ∧ x ≤ M) : Ls M hd (upL lk b x) ls := ⟨h.head, h.chain.up hb, h.nd, h.lt, fun j hj => by
  by_cases e : j = b
  · subst e; rw [upL_same]; exact hx
  · rw [upL_other _ _ e]; exact h.lb j hj, h.tag⟩
theorem PuOk.link {m : Pu} (h : PuOk M hd lk m) {b : Nat} (hb : m.b ≠ b) (x : Int) : PuOk M hd (upL lk b x) m := ⟨h.1, h.2.1, fun e => by rw [upL_other _ _ hb]; exact h.2.2.1 e, h.2.2.2⟩
theorem first_of (h : Ls M hd lk ls) (hc : codF hd ≠ 0) : ∃ b r, ls = b :: r ∧ (codF hd - 1).toNat = b ∧ codF hd = (b : Int) + 1 := by
  have hh := h.head
  cases hl : ls with
  | nil => rw [hl] at hh; exact absurd hh hc
  | cons b r =>
    rw [hl] at hh
    change codF hd = (b : Int) + 1 at hh
    exact ⟨b, r, rfl, by omega, hh⟩
theorem none_of (h : Ls M hd lk ls) (hc : codF hd = 0) : ls = [] := by
  have hh := h.head
  cases hl : ls with
  | nil => rfl
  | cons b r =>
    rw [hl] at hh
    change codF hd = (b : Int) + 1 at hh
    omega
theorem PoOk.link {m : Po} (h : PoOk M hd lk m) (hL : Ls M hd lk ls) {b : Nat} (hb : b ∉ ls) (x : Int) : PoOk M hd (upL lk b x) m := by
  refine ⟨h.1, fun e => ⟨fun e2 => ?_, (h.2.1 e).2⟩, h.2.2⟩
  have hc := (h.1 (.inr e)).2.1
  rw [e2] at hc
  obtain ⟨a, r, hl, h1, -⟩ := first_of hL hc
  rw [(h.2.1 e).1 e2, e2, h1]
  exact (upL_other _ _ (fun e3 => hb (by rw [hl, ← e3]; simp))).symm
/-- a swap that went: the others' memories are elder -/
theorem PuOk.past {m : Pu} (h : PuOk M hd lk m) {c : Int} (h0 : 0 ≤ c) (h1 : c < 131072) : PuOk M (mkF (tagF hd + 1) c) lk m := ⟨h.1, fun e => ⟨((h.2.1 e).1.past h0 h1).1, (h.2.1 e).2⟩, h.2.2⟩
theorem PoOk.past {m : Po} (h : PoOk M hd lk m) {c : Int} (h0 : 0 ≤ c) (h1 : c < 131072) : PoOk M (mkF (tagF hd + 1) c) lk m := by
  refine ⟨fun e => ⟨((h.1 e).1.past h0 h1).1, (h.1 e).2⟩, fun e => ⟨fun e2 => ?_, (h.2.1 e).2⟩, h.2.2⟩
  exact absurd (by rw [e2]) ((h.1 (.inr e)).1.past h0 h1).2
/-- a push's swap goes: the slot is the first -/
theorem Ls.push (h : Ls M hd lk ls) {m : Pu} (hM : M < 131072) (hm : PuOk M hd lk m) (hp : m.ph = 2) (he : m.h = hd) (hb : m.b ∉ ls) : Ls M (mkF (tagF hd + 1) ((m.b : Int) + 1)) lk (m.b :: ls) := by
  have hl := hm.1
  refine ⟨cod_mk (by omega) (by omega), ⟨by rw [hm.2.2.1 hp, he, h.head], h.chain⟩, List.nodup_cons.2 ⟨hb, h.nd⟩, fun b hb2 => ?_, h.lb, ?_⟩
  · rcases List.mem_cons.1 hb2 with rfl | h2
    · exact hl
    · exact h.lt b h2
  · rw [tag_mk (by omega) (by omega)]
    have := h.tag
    omega
/-- a pop's swap goes: the first is gone, and it is what was remembered -/
theorem Ls.pop (h : Ls M hd lk ls) {m : Po} (hM : M < 131072) (hm : PoOk M hd lk m) (hp : m.ph = 2) (he : m.h = hd) : ∃ b r, ls = b :: r ∧ codF m.h = (b : Int) + 1 ∧ Ls M (mkF (tagF hd + 1) m.nx) lk r := by
  have hc := (hm.1 (.inr hp)).2.1
  rw [he] at hc
  obtain ⟨b, r, rfl, h1, h2⟩ := first_of h hc
  have hx := (hm.2.1 hp).1 he
  rw [he, h1, h.chain.1] at hx
  have hb := nxt_bd (M := M) (ls := r) fun b hb => h.lt b (List.mem_cons_of_mem _ hb)
  have hn := (hm.2.1 hp).2
  refine ⟨b, r, rfl, by rw [he]; exact h2, ⟨?_, h.chain.2, (List.nodup_cons.1 h.nd).2, fun b hb => h.lt b (List.mem_cons_of_mem _ hb), h.lb, ?_⟩⟩
  · rw [← hx]
    exact cod_mk (by omega) (by omega)
  · rw [tag_mk (by omega) (by omega)]
    have := h.tag
    omega
end
/-! ### actors on one list -/
def sumN (f : Nat → Nat) : Nat → Nat
  | 0 => 0
  | n + 1 => sumN f n + f n
theorem sumN_up {f g : Nat → Nat} {w : Nat} (h : ∀ i, i ≠ w → g i = f i) : ∀ n, (w < n → sumN g n + f w = sumN f n + g w) ∧ (n ≤ w → sumN g n = sumN f n)
  | 0 => ⟨by omega, fun _ => rfl⟩
  | n + 1 => by
    obtain ⟨h1, h2⟩ := sumN_up h n
    refine ⟨fun hw => ?_, fun hw => ?_⟩
    · simp only [sumN]
      by_cases e : n = w
      · subst e
        have := h2 (Nat.le_refl _)
        omega
      · have := h1 (by omega)
        rw [h n e]
        omega
    · simp only [sumN]
      rw [h2 (by omega), h n (by omega)]
theorem sumN_ge {f : Nat → Nat} {w : Nat} : ∀ {n : Nat}, w < n → f w ≤ sumN f n
  | n + 1, h => by
    simp only [sumN]
    by_cases e : w = n
    · subst e; omega
    · have := sumN_ge (f := f) (w := w) (n := n) (by omega); omega
theorem sumN_two {f : Nat → Nat} {v w : Nat} (hvw : v ≠ w) : ∀ {n : Nat}, v < n → w < n → f v + f w ≤ sumN f n
  | n + 1, h1, h2 => by
    simp only [sumN]
    by_cases e : v = n
    · subst e
      have := sumN_ge (f := f) (w := w) (n := v) (by omega)
      omega
    · by_cases e2 : w = n
      · subst e2
        have := sumN_ge (f := f) (w := v) (n := w) (by omega)
        omega
      · have := sumN_two (f := f) hvw (n := n) (by omega) (by omega)
        omega
def puC (m : Option Pu) (x : Nat) : Nat := match m with | some m => if m.b = x then 1 else 0 | none => 0
def upO {α : Type} (f : Nat → α) (w : Nat) (v : α) : Nat → α := fun j => if j = w then v else f j
theorem upO_same {α : Type} (f : Nat → α) (w : Nat) (v : α) : upO f w v w = v := if_pos rfl
theorem upO_other {α : Type} (f : Nat → α) {w j : Nat} (v : α) (h : j ≠ w) : upO f w v j = f j := if_neg h
/-- all that actors have, what they push, and the list -/
structure Mx (M k : Nat) (own : Nat → List Nat) (pu : Nat → Option Pu) (po : Nat → Option Po) (hd : Int) (lk : Nat → Int) (ls : List Nat) : Prop where
  L : Ls M hd lk ls
  P : ∀ i, i < k → ∀ m, pu i = some m → PuOk M hd lk m
  Q : ∀ i, i < k → ∀ m, po i = some m → PoOk M hd lk m
  C : ∀ x, sumN (fun i => (own i).count x + puC (pu i) x) k + ls.count x = if x < 2 * k then 1 else 0
section
variable {M k : Nat} {own : Nat → List Nat} {pu : Nat → Option Pu} {po : Nat → Option Po} {hd : Int} {lk : Nat → Int} {ls : List Nat} {w : Nat}
theorem Mx.le_one (h : Mx M k own pu po hd lk ls) (x : Nat) : sumN (fun i => (own i).count x + puC (pu i) x) k + ls.count x ≤ 1 := by
  rw [h.C x]
  split <;> omega
theorem Mx.apart (h : Mx M k own pu po hd lk ls) (hw : w < k) {m : Pu} (hm : pu w = some m) : m.b ∉ ls := by
  intro hb
  have a := h.le_one m.b
  have b : (own w).count m.b + puC (pu w) m.b ≤ sumN (fun i => (own i).count m.b + puC (pu i) m.b) k := sumN_ge (f := fun i => (own i).count m.b + puC (pu i) m.b) hw
  rw [show puC (pu w) m.b = 1 by rw [hm]; exact if_pos rfl] at b
  have c := List.count_pos_iff.2 hb
  omega
theorem Mx.apart2 (h : Mx M k own pu po hd lk ls) (hw : w < k) {m m' : Pu} (hm : pu w = some m) {v : Nat} (hv : v < k) (hne : v ≠ w) (hm' : pu v = some m') : m'.b ≠ m.b := by
  intro e
  have a := h.le_one m.b
  have b : ((own v).count m.b + puC (pu v) m.b) + ((own w).count m.b + puC (pu w) m.b) ≤ sumN (fun i => (own i).count m.b + puC (pu i) m.b) k := sumN_two (f := fun i => (own i).count m.b + puC (pu i) m.b) hne hv hw
  rw [show puC (pu w) m.b = 1 by rw [hm]; exact if_pos rfl, show puC (pu v) m.b = 1 by rw [hm']; exact if_pos e] at b
  omega
/-- the counts, where one actor and the list turn -/
theorem Mx.count (h : Mx M k own pu po hd lk ls) (hw : w < k) {own' : Nat → List Nat} {pu' : Nat → Option Pu} {ls' : List Nat} (h1 : ∀ i, i ≠ w → own' i = own i ∧ pu' i = pu i) (h2 : ∀ x, (own' w).count x + puC (pu' w) x + ls'.count x = (own w).count x + puC (pu w) x + ls.count x) (x : Nat) :
    sumN (fun i => (own' i).count x + puC (pu' i) x) k + ls'.count x = if x < 2 * k then 1 else 0 := by
  have a : sumN (fun i => (own' i).count x + puC (pu' i) x) k + ((own w).count x + puC (pu w) x) = sumN (fun i => (own i).count x + puC (pu i) x) k + ((own' w).count x + puC (pu' w) x) := (sumN_up (f := fun i => (own i).count x + puC (pu i) x) (g := fun i => (own' i).count x + puC (pu' i) x) (w := w) (fun i hi => by simp only [(h1 i hi).1, (h1 i hi).2]) k).1 hw
  have b := h2 x
  have c := h.C x
  omega
/-- a push begins -/
theorem Mx.begin (h : Mx M k own pu po hd lk ls) (hw : w < k) {l : List Nat} {b : Nat} (ho : own w = l ++ [b]) (hp : pu w = none) (hb : b < M) : Mx M k (upO own w l) (upO pu w (some ⟨b, 0, 0⟩)) po hd lk ls := by
  refine ⟨h.L, fun i hi m hm => ?_, h.Q, h.count hw (fun i hi => ⟨upO_other _ _ hi, upO_other _ _ hi⟩) fun x => ?_⟩
  · by_cases e : i = w
    · subst e
      rw [upO_same] at hm
      cases hm
      unfold PuOk
      exact ⟨hb, fun e => by simp at e, fun e => by simp at e, by simp⟩
    · rw [upO_other _ _ e] at hm
      exact h.P i hi m hm
  · rw [upO_same, upO_same, ho, hp]
    simp [puC, List.count_append, List.count_cons, List.count_nil]
/-- a pop begins -/
theorem Mx.beginPop (h : Mx M k own pu po hd lk ls) : Mx M k own pu (upO po w (some ⟨0, 0, 0⟩)) hd lk ls := by
  refine ⟨h.L, h.P, fun i hi m hm => ?_, h.C⟩
  by_cases e : i = w
  · subst e
    rw [upO_same] at hm
    cases hm
    unfold PoOk
    exact ⟨fun e => by simp at e, fun e => by simp at e, by simp⟩
  · rw [upO_other _ _ e] at hm
    exact h.Q i hi m hm
/-- a push's phase turns, and nothing else -/
theorem Mx.pushPh (h : Mx M k own pu po hd lk ls) (hw : w < k) {m m' : Pu} (hm : pu w = some m) (hb : m'.b = m.b) (hok : PuOk M hd lk m') : Mx M k own (upO pu w (some m')) po hd lk ls := by
  refine ⟨h.L, fun i hi n hn => ?_, h.Q, h.count hw (fun i hi => ⟨rfl, upO_other _ _ hi⟩) fun x => ?_⟩
  · by_cases e : i = w
    · subst e
      rw [upO_same] at hn
      cases hn
      exact hok
    · rw [upO_other _ _ e] at hn
      exact h.P i hi n hn
  · rw [upO_same, hm]
    simp only [puC, hb]
theorem Mx.popPh (h : Mx M k own pu po hd lk ls) {m' : Option Po} (hok : ∀ m, m' = some m → PoOk M hd lk m) : Mx M k own pu (upO po w m') hd lk ls := by
  refine ⟨h.L, h.P, fun i hi n hn => ?_, h.C⟩
  by_cases e : i = w
  · subst e
    rw [upO_same] at hn
    exact hok n hn
  · rw [upO_other _ _ e] at hn
    exact h.Q i hi n hn
/-- a push sets its link -/
theorem Mx.pushLink (h : Mx M k own pu po hd lk ls) (hw : w < k) {m : Pu} (hm : pu w = some m) (hp : m.ph = 1) : Mx M k own (upO pu w (some ⟨m.b, 2, m.h⟩)) po hd (upL lk m.b (codF m.h)) ls := by
  have hk := h.P w hw m hm
  have hc := (hk.2.1 (.inl hp)).2
  refine ⟨h.L.link (h.apart hw hm) ⟨(cod_bd m.h).1, hc⟩, fun i hi n hn => ?_, fun i hi n hn => (h.Q i hi n hn).link h.L (h.apart hw hm) _, h.count hw (fun i hi => ⟨rfl, upO_other _ _ hi⟩) fun x => ?_⟩
  · by_cases e : i = w
    · subst e
      rw [upO_same] at hn
      cases hn
      exact ⟨hk.1, fun _ => hk.2.1 (.inl hp), fun _ => upL_same _ _ _, Nat.le_refl _⟩
    · rw [upO_other _ _ e] at hn
      exact (h.P i hi n hn).link (h.apart2 hw hm hi e hn) _
  · rw [upO_same, hm]
    rfl
/-- a push's swap goes -/
theorem Mx.pushGo (h : Mx M k own pu po hd lk ls) (hM : M < 131072) (hw : w < k) {m : Pu} (hm : pu w = some m) (hp : m.ph = 2) (he : m.h = hd) : Mx M k own (upO pu w none) po (mkF (tagF hd + 1) ((m.b : Int) + 1)) lk (m.b :: ls) := by
  have hk := h.P w hw m hm
  have hb := hk.1
  refine ⟨h.L.push hM hk hp he (h.apart hw hm), fun i hi n hn => ?_, fun i hi n hn => (h.Q i hi n hn).past (by omega) (by omega), h.count hw (fun i hi => ⟨rfl, upO_other _ _ hi⟩) fun x => ?_⟩
  · by_cases e : i = w
    · subst e
      rw [upO_same] at hn
      cases hn
    · rw [upO_other _ _ e] at hn
      exact (h.P i hi n hn).past (by omega) (by omega)
  · rw [upO_same, hm]
    simp only [puC, List.count_cons, beq_iff_eq]
    omega
/-- a pop's swap goes -/
theorem Mx.popGo (h : Mx M k own pu po hd lk ls) (hM : M < 131072) (hw : w < k) {m : Po} (hm : po w = some m) (hp : m.ph = 2) (he : m.h = hd) : ∃ b r, ls = b :: r ∧ codF m.h = (b : Int) + 1 ∧ b < M ∧ Mx M k (upO own w (own w ++ [b])) pu (upO po w none) (mkF (tagF hd + 1) m.nx) lk r := by
  have hk := h.Q w hw m hm
  obtain ⟨b, r, rfl, h1, h2⟩ := h.L.pop hM hk hp he
  have hn := (hk.2.1 hp).2
  refine ⟨b, r, rfl, h1, h.L.lt b (by simp), h2, fun i hi n hn2 => (h.P i hi n hn2).past (by omega) (by omega), fun i hi n hn2 => ?_, h.count hw (fun i hi => ⟨upO_other _ _ hi, rfl⟩) fun x => ?_⟩
  · by_cases e : i = w
    · subst e
      rw [upO_same] at hn2
      cases hn2
    · rw [upO_other _ _ e] at hn2
      exact (h.Q i hi n hn2).past (by omega) (by omega)
  · rw [upO_same]
    simp only [List.count_append, List.count_cons, List.count_nil]
    omega
end
end Go.Proofs.YtopnkfbcphbbiaaDoor.F0
