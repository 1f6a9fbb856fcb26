/-
  Helpers: H8Hd, A9ArP.
-/
import Derived.Test.YtopnkfbcphbbiaaDoorBunfcd4c3dcc857
namespace Go.Proofs.YtopnkfbcphbbiaaDoor.H8
open Go.RowKit

/-- any number as one from 0 to n - 1 -/
def placeI (v n : Int) : Int := v % n
theorem placeI_bd (v n : Int) (h : 0 < n) : 0 ≤ placeI v n ∧ placeI v n < n := ⟨Int.emod_nonneg _ (by omega), Int.emod_lt_of_pos _ h⟩
theorem tmod_bd {v n : Int} (h1 : 0 < n) : -n < v.tmod n ∧ v.tmod n < n := by
  have h := Int.natAbs_tmod v n
  have h2 : v.natAbs % n.natAbs < n.natAbs := Nat.mod_lt _ (by omega)
  omega
theorem place_neg {v n : Int} (h1 : 0 < n) (h : v.tmod n < 0) : v.tmod n + n = placeI v n := by
  unfold placeI
  have e := Int.tmod_add_mul_tdiv v n
  have b := tmod_bd (v := v) h1
  rw [← Int.emod_emod_of_dvd v (Int.dvd_refl n)]
  have : v % n = (v.tmod n + n) % n := by
    rw [Int.add_emod_right]
    conv => lhs; rw [← e]
    rw [Int.add_mul_emod_self_left]
  rw [this, Int.emod_emod_of_dvd _ (Int.dvd_refl n), Int.emod_eq_of_lt (by omega) (by omega)]
theorem place_pos {v n : Int} (h1 : 0 < n) (h : ¬ v.tmod n < 0) : v.tmod n = placeI v n := by
  unfold placeI
  have e := Int.tmod_add_mul_tdiv v n
  have b := tmod_bd (v := v) h1
  have : v % n = v.tmod n % n := by
    conv => lhs; rw [← e]
    rw [Int.add_mul_emod_self_left]
  rw [this, Int.emod_eq_of_lt (by omega) (by omega)]
theorem place_any (v n : Int) (w : World) (h1 : 0 < n) (h2 : n ≤ 2147483648) : Calls Tryd.prog 8 #[.int .i64 v, .int .i64 n] w fun e w' => e = .returned (.int .i64 (placeI v n)) ∧ w' = w := by
  have hn : ¬ n = 0 := by omega
  have hn2 : (n == 0) = false := by simp [hn]
  have hb := tmod_bd (v := v) h1
  have hw : wrap64 (v.tmod n) = v.tmod n := by unfold wrap64; omega
  by_cases h : v.tmod n < 0
  · have hd : decide (v.tmod n < 0) = true := by simpa using h
    go_enter Tryd.func8, Tryd.ntmps8
    go_wp2
    go_ret
    exact ⟨ret_i64 (place_neg h1 h), rfl⟩
  · have hd : decide (v.tmod n < 0) = false := by simpa using h
    go_enter Tryd.func8, Tryd.ntmps8
    go_wp2
    go_ret
    exact ⟨ret_i64 (place_pos h1 (by omega)), rfl⟩
theorem below_then {a b c : World} (h : Below a.heap.size a b) (k : Below b.heap.size b c) : Below a.heap.size a c := h.trans (k.mono h.size)
theorem wf_in {n : Int} (h : (Lit.int .i64 n).wf = true) : -9223372036854775808 ≤ n ∧ n ≤ 9223372036854775807 := by
  simp only [Lit.wf, Bool.and_eq_true, decide_eq_true_eq] at h
  simp [IntKind.min, IntKind.max, IntKind.bits, IntKind.signed] at h
  exact ⟨by omega, by omega⟩
/-- what may be packed is packed, what may not is 0 -/
theorem Pack_ok {a b c : Int} (h : okP a b c) (w : World) (hT : HTab w) : Calls Tryd.prog 61 #[.int .i64 a, .int .i64 b, .int .i64 c] w fun e w' => e = .returned (.int .i64 (packV a b c)) ∧ Below w.heap.size w w' := by
  have := Pack_any a b c w hT
  rw [packF_ok h] at this
  exact this
theorem Pack_no {a b c : Int} (h : ¬ okP a b c) (w : World) (hT : HTab w) : Calls Tryd.prog 61 #[.int .i64 a, .int .i64 b, .int .i64 c] w fun e w' => e = .returned (.int .i64 0) ∧ Below w.heap.size w w' := by
  have := Pack_any a b c w hT
  rw [packF_no h] at this
  exact this
theorem Open_ok {a b c : Int} (h : okP a b c) (w : World) (hT : HTab w) : Calls Tryd.prog 63 #[.int .i64 (packV a b c)] w fun e w' => e = .returned (.tuple #[.int .i64 a, .int .i64 b, .int .i64 c, .bool true]) ∧ Below w.heap.size w w' := by
  have := Open_any (packV a b c) w hT
  rw [opnV_yes h] at this
  exact this
theorem Open_no {h : Int} (hn : ¬ isH h) (w : World) (hT : HTab w) : Calls Tryd.prog 63 #[.int .i64 h] w fun e w' => e = .returned (.tuple #[.int .i64 0, .int .i64 0, .int .i64 0, .bool false]) ∧ Below w.heap.size w w' := by
  have := Open_any h w hT
  rw [opnV_no hn] at this
  exact this
theorem Size_no {c : Int} (h : c < 0 ∨ 4 ≤ c) (w : World) (hT : HTab w) : Calls Tryd.prog 45 #[.int .i64 c] w fun e w' => e = .returned (.int .i64 0) ∧ w' = w := by
  have := Size_any c w hT
  rw [sizeF_no h] at this
  exact this
end Go.Proofs.YtopnkfbcphbbiaaDoor.H8
namespace Go.Proofs.YtopnkfbcphbbiaaDoor.A9
open Go.RowKit
open H8 (okP packV packF opA opB opC isH sizeF szT open_pack)

def upN (f : Nat → Int) (k : Nat) (v : Int) : Nat → Int := fun j => if j = k then v else f j
def upI (f : Int → Int) (k v : Int) : Int → Int := fun j => if j = k then v else f j
theorem upN_same (f : Nat → Int) (k : Nat) (v : Int) : upN f k v k = v := if_pos rfl
theorem upN_other (f : Nat → Int) {k j : Nat} (v : Int) (h : j ≠ k) : upN f k v j = f j := if_neg h
theorem upI_same (f : Int → Int) (k v : Int) : upI f k v k = v := if_pos rfl
theorem upI_other (f : Int → Int) {k j : Int} (v : Int) (h : j ≠ k) : upI f k v j = f j := if_neg h
theorem wr64_id {x : Int} (h1 : -9223372036854775808 ≤ x) (h2 : x ≤ 9223372036854775807) : wrap64 x = x := by unfold wrap64; omega
theorem wr64_add (x y : Int) : wrap64 (wrap64 x + y) = wrap64 (x + y) := by unfold wrap64; omega
theorem wr64_wr (x : Int) : wrap64 (wrap64 x) = wrap64 x := by unfold wrap64; omega
/-- a name's place and size -/
def bN (h : Int) : Nat := (opA h).toNat
def zN (h : Int) : Nat := (sizeF (opC h)).toNat
theorem sizeF_bd {c : Int} (h1 : 0 ≤ c) (h2 : c < 4) : 8 ≤ sizeF c ∧ sizeF c ≤ 64 := by
  rcases (by omega : c = 0 ∨ c = 1 ∨ c = 2 ∨ c = 3) with rfl | rfl | rfl | rfl <;> decide
theorem opA_bN (h : Int) : opA h = bN h := by unfold bN opA; omega
theorem opC_bd (h : Int) : 0 ≤ opC h ∧ opC h < 4 := by unfold opC; omega
theorem sizeF_zN (h : Int) : sizeF (opC h) = zN h := by
  obtain ⟨h1, h2⟩ := opC_bd h
  have := sizeF_bd h1 h2
  unfold zN; omega
theorem zN_bd (h : Int) : 8 ≤ zN h ∧ zN h ≤ 64 := by
  obtain ⟨h1, h2⟩ := opC_bd h
  have := sizeF_bd h1 h2
  unfold zN; omega
theorem bN_bd (h : Int) : bN h < 65536 := by unfold bN opA; omega
theorem bN_pack {a b c : Int} (h : okP a b c) : bN (packV a b c) = a.toNat := by unfold bN; rw [(open_pack h).1]
theorem zN_pack {a b c : Int} (h : okP a b c) : zN (packV a b c) = (sizeF c).toNat := by unfold zN; rw [(open_pack h).2.2]
theorem opB_pack {a b c : Int} (h : okP a b c) : opB (packV a b c) = b := (open_pack h).2.1
theorem isH_pack {a b c : Int} (h : okP a b c) : isH (packV a b c) := ⟨a, b, c, h, rfl⟩
theorem isH_parts {h : Int} (hh : isH h) : okP (opA h) (opB h) (opC h) ∧ h = packV (opA h) (opB h) (opC h) := by
  obtain ⟨a, b, c, ho, rfl⟩ := hh
  obtain ⟨h1, h2, h3⟩ := open_pack ho
  rw [h1, h2, h3]
  exact ⟨ho, rfl⟩
/-- an arena -/
structure Ar where
  nr : Nat
  nw : Nat
  raw : Nat → Int
  mem : Nat → Int
  st : Int → Int
  gen : Int → Int
  was : Nat → Bool
  tak : Nat → Bool
  cC : Int
  cL : Int
  cR : Int
  fresh : Bool
  bad : Bool
  uses : Int
def cutF (n : Int) : Int := min (max n 0) 65536
def new9 (r w : Int) (fresh : Bool) : Ar := ⟨(cutF r).toNat, (cutF w).toNat, fun _ => 0, fun _ => 0, fun _ => 0, fun _ => 0, fun _ => false, fun _ => false, 0, 0, 0, fresh, false, 0⟩
/-- has the place -/
def inS (h : Int) (p : Nat) : Prop := bN h ≤ p ∧ p < bN h + zN h
instance (h : Int) (p : Nat) : Decidable (inS h p) := by unfold inS; infer_instance
/-- what the package keeps -/
structure Ok9 (s : Ar) : Prop where
  fit : ∀ h, s.st h ≠ 0 → isH h ∧ bN h + zN h ≤ s.nw ∧ (s.st h = 1 ∨ s.st h = 2)
  tak : ∀ h p, s.st h ≠ 0 → inS h p → s.tak p = true
  free : ∀ p, s.tak p = true → ∃ h, s.st h ≠ 0 ∧ inS h p
  two : ∀ h k p, s.st h ≠ 0 → s.st k ≠ 0 → inS h p → inS k p → h = k
  gen : ∀ h, s.st h ≠ 0 → s.gen (bN h) = opB h
  most : s.nw ≤ 65536 ∧ s.nr ≤ 65536
  wr : wrap64 s.cC = s.cC
/-- a word that may be used -/
def inW (s : Ar) (h off : Int) : Prop := s.st h ≠ 0 ∧ 0 ≤ off ∧ off < zN h
instance (s : Ar) (h off : Int) : Decidable (inW s h off) := by unfold inW; infer_instance
def inR (s : Ar) (i : Int) : Prop := 0 ≤ i ∧ i < s.nr
instance (s : Ar) (i : Int) : Decidable (inR s i) := by unfold inR; infer_instance
def useA (s : Ar) : Ar := { s with uses := wrap64 (s.uses + 1) }
def badA (s : Ar) : Ar := { s with uses := wrap64 (s.uses + 1), bad := true }
def atW (h off : Int) : Nat := bN h + off.toNat
def loadA (s : Ar) (h off : Int) : Ar × Int := if inW s h off then (useA s, s.mem (atW h off)) else (badA s, 0)
def storeA (s : Ar) (h off v : Int) : Ar := if inW s h off then { useA s with mem := upN s.mem (atW h off) v } else badA s
def swapA (s : Ar) (h off old now : Int) : Ar × Bool :=
  if inW s h off then (if s.mem (atW h off) = old then ({ useA s with mem := upN s.mem (atW h off) now }, true) else (useA s, false)) else (badA s, false)
def addA (s : Ar) (h off y : Int) : Ar × Int :=
  if inW s h off then ({ useA s with mem := upN s.mem (atW h off) (wrap64 (s.mem (atW h off) + y)) }, s.mem (atW h off)) else (badA s, 0)
def rawA (s : Ar) (i : Int) : Ar × Int := if inR s i then (useA s, s.raw i.toNat) else (badA s, 0)
def setRawA (s : Ar) (i v : Int) : Ar := if inR s i then { useA s with raw := upN s.raw i.toNat v } else badA s
def swapRawA (s : Ar) (i old now : Int) : Ar × Bool :=
  if inR s i then (if s.raw i.toNat = old then ({ useA s with raw := upN s.raw i.toNat now }, true) else (useA s, false)) else (badA s, false)
def addRawA (s : Ar) (i y : Int) : Ar × Int :=
  if inR s i then ({ useA s with raw := upN s.raw i.toNat (wrap64 (s.raw i.toNat + y)) }, s.raw i.toNat) else (badA s, 0)
/-- how many of n places from a on never were part of a slot -/
def newC (f : Nat → Bool) (a : Nat) : Nat → Nat
  | 0 => 0
  | n + 1 => newC f a n + if f (a + n) = true then 0 else 1
/-- may be born -/
def okB (s : Ar) (h : Int) : Prop := isH h ∧ bN h + zN h ≤ s.nw ∧ s.gen (bN h) < opB h ∧ ∀ p, inS h p → s.tak p = false
def bornS (s : Ar) (h : Int) : Ar :=
  { s with st := upI s.st h 1, gen := upI s.gen (bN h) (opB h),
           was := fun p => if inS h p then true else s.was p,
           tak := fun p => if inS h p then true else s.tak p,
           mem := fun p => if s.fresh = true ∧ inS h p then 0 else s.mem p,
           cC := wrap64 (s.cC + newC s.was (bN h) (zN h)), cL := wrap64 (s.cL + zN h) }
open Classical in
noncomputable def bornA (s : Ar) (h : Int) : Ar × Bool := if okB s h then (bornS s h, true) else (s, false)
def retireS (s : Ar) (h : Int) : Ar := { s with st := upI s.st h 2, cL := wrap64 (s.cL - zN h), cR := wrap64 (s.cR + zN h) }
def retireA (s : Ar) (h : Int) : Ar × Bool := if s.st h = 1 then (retireS s h, true) else (s, false)
def diedS (s : Ar) (h : Int) : Ar := { s with st := upI s.st h 0, tak := fun p => if inS h p then false else s.tak p, cR := wrap64 (s.cR - zN h) }
def diedA (s : Ar) (h : Int) : Ar × Bool := if s.st h = 2 then (diedS s h, true) else (s, false)
theorem Ok9.new (r w : Int) (fresh : Bool) : Ok9 (new9 r w fresh) := by
  refine ⟨fun h hs => absurd rfl hs, fun h p hs => absurd rfl hs, fun p hp => by simp [new9] at hp, fun h k p hs => absurd rfl hs, fun h hs => absurd rfl hs, ⟨?_, ?_⟩, wr64_id (by simp [new9]) (by simp [new9])⟩ <;> simp [new9, cutF] <;> omega
theorem Ok9.same {s t : Ar} (h : Ok9 s) (e1 : t.st = s.st) (e2 : t.nw = s.nw) (e3 : t.tak = s.tak) (e4 : t.gen = s.gen) (e5 : t.nr = s.nr) (e6 : t.cC = s.cC) : Ok9 t :=
  ⟨fun k hk => by rw [e1] at hk ⊢; rw [e2]; exact h.fit k hk, fun k p hk hp => by rw [e1] at hk; rw [e3]; exact h.tak k p hk hp, fun p hp => by rw [e3] at hp; rw [e1]; exact h.free p hp,
    fun a b p ha hb => by rw [e1] at ha hb; exact h.two a b p ha hb, fun k hk => by rw [e1] at hk; rw [e4]; exact h.gen k hk, by rw [e2, e5]; exact h.most, by rw [e6]; exact h.wr⟩
theorem Ok9.born {s : Ar} (h : Ok9 s) {k : Int} (hk : okB s k) : Ok9 (bornS s k) := by
  obtain ⟨k1, k2, k3, k4⟩ := hk
  have hno : ∀ a p, s.st a ≠ 0 → inS a p → ¬ inS k p := fun a p ha hp hq => by
    have := h.tak a p ha hp
    rw [k4 p hq] at this
    cases this
  refine ⟨fun a ha => ?_, fun a p ha hp => ?_, fun p hp => ?_, fun a b p ha hb pa pb => ?_, fun a ha => ?_, h.most, wr64_wr _⟩
  · simp only [bornS] at ha ⊢
    by_cases e : a = k
    · subst e
      rw [upI_same]
      exact ⟨k1, k2, .inl rfl⟩
    · rw [upI_other _ _ e] at ha ⊢
      exact h.fit a ha
  · simp only [bornS] at ha ⊢
    by_cases e : a = k
    · subst e
      rw [if_pos hp]
    · rw [upI_other _ _ e] at ha
      rw [if_neg (hno a p ha hp)]
      exact h.tak a p ha hp
  · simp only [bornS] at hp ⊢
    by_cases e : inS k p
    · exact ⟨k, by rw [upI_same]; decide, e⟩
    · rw [if_neg e] at hp
      obtain ⟨a, ha, hq⟩ := h.free p hp
      have hne : a ≠ k := fun he => e (he ▸ hq)
      exact ⟨a, by rw [upI_other _ _ hne]; exact ha, hq⟩
  · simp only [bornS] at ha hb
    by_cases e : a = k
    · subst e
      by_cases e2 : b = a
      · exact e2.symm
      · rw [upI_other _ _ e2] at hb
        exact absurd pa (hno b p hb pb)
    · rw [upI_other _ _ e] at ha
      by_cases e2 : b = k
      · subst e2
        exact absurd pb (hno a p ha pa)
      · rw [upI_other _ _ e2] at hb
        exact h.two a b p ha hb pa pb
  · simp only [bornS] at ha ⊢
    by_cases e : a = k
    · subst e
      rw [upI_same]
    · rw [upI_other _ _ e] at ha
      have hz := zN_bd a
      have hne : ((bN a : Nat) : Int) ≠ (bN k : Nat) := fun he => hno a (bN a) ha ⟨Nat.le_refl _, by omega⟩ ⟨by omega, by have := zN_bd k; omega⟩
      rw [upI_other _ _ hne]
      exact h.gen a ha
theorem Ok9.retire {s : Ar} (h : Ok9 s) {k : Int} (hk : s.st k ≠ 0) : Ok9 (retireS s k) := by
  have hs : ∀ a, (retireS s k).st a ≠ 0 → s.st a ≠ 0 := fun a ha => by
    simp only [retireS] at ha
    by_cases e : a = k
    · subst e; exact hk
    · rw [upI_other _ _ e] at ha; exact ha
  refine ⟨fun a ha => ?_, fun a p ha => h.tak a p (hs a ha), fun p hp => ?_, fun a b p ha hb => h.two a b p (hs a ha) (hs b hb), fun a ha => h.gen a (hs a ha), h.most, h.wr⟩
  · obtain ⟨x1, x2, x3⟩ := h.fit a (hs a ha)
    refine ⟨x1, x2, ?_⟩
    simp only [retireS]
    by_cases e : a = k
    · subst e; rw [upI_same]; exact .inr rfl
    · rw [upI_other _ _ e]; exact x3
  · obtain ⟨a, ha, hq⟩ := h.free p hp
    refine ⟨a, ?_, hq⟩
    simp only [retireS]
    by_cases e : a = k
    · subst e; rw [upI_same]; decide
    · rw [upI_other _ _ e]; exact ha
theorem Ok9.died {s : Ar} (h : Ok9 s) {k : Int} (hk : s.st k ≠ 0) : Ok9 (diedS s k) := by
  have hs : ∀ a, (diedS s k).st a ≠ 0 → a ≠ k ∧ s.st a ≠ 0 := fun a ha => by
    simp only [diedS] at ha
    by_cases e : a = k
    · subst e; rw [upI_same] at ha; exact absurd rfl ha
    · rw [upI_other _ _ e] at ha; exact ⟨e, ha⟩
  refine ⟨fun a ha => ?_, fun a p ha hp => ?_, fun p hp => ?_, fun a b p ha hb => h.two a b p (hs a ha).2 (hs b hb).2, fun a ha => h.gen a (hs a ha).2, h.most, h.wr⟩
  · obtain ⟨x1, x2, x3⟩ := h.fit a (hs a ha).2
    refine ⟨x1, x2, ?_⟩
    simp only [diedS]
    rw [upI_other _ _ (hs a ha).1]; exact x3
  · obtain ⟨hne, ha⟩ := hs a ha
    simp only [diedS]
    rw [if_neg fun hq => hne (h.two a k p ha hk hp hq)]
    exact h.tak a p ha hp
  · simp only [diedS] at hp ⊢
    by_cases e : inS k p
    · rw [if_pos e] at hp; cases hp
    · rw [if_neg e] at hp
      obtain ⟨a, ha, hq⟩ := h.free p hp
      exact ⟨a, by rw [upI_other _ _ (show a ≠ k from fun he => e (by rw [← he]; exact hq))]; exact ha, hq⟩
theorem newC_le (f : Nat → Bool) (a : Nat) : ∀ n, newC f a n ≤ n
  | 0 => Nat.le_refl _
  | n + 1 => by
    have := newC_le f a n
    unfold newC
    split <;> omega
/-- words of two slots that are not dead are two -/
theorem places_apart {s : Ar} (ha : Ok9 s) {h k i j : Int} (h1 : inW s h i) (h2 : inW s k j) (hne : h ≠ k) : atW h i ≠ atW k j := by
  obtain ⟨a1, a2, a3⟩ := h1
  obtain ⟨b1, b2, b3⟩ := h2
  unfold atW
  intro e
  exact hne (ha.two h k (bN h + i.toNat) a1 b1 ⟨by omega, by omega⟩ ⟨by omega, by omega⟩)
theorem atW_in {h i : Int} (h0 : 0 ≤ i) (h1 : i < zN h) : inS h (atW h i) := ⟨by unfold atW; omega, by unfold atW; omega⟩
theorem atW_inj {h i j : Int} (h0 : 0 ≤ i) (h1 : 0 ≤ j) (e : atW h i = atW h j) : i = j := by unfold atW at e; omega
end Go.Proofs.YtopnkfbcphbbiaaDoor.A9
