/-
  Helpers: L3Digits.
-/
import Derived.Test.YtnhogbgnnnniaaaDoorAsmAllBun23
import Derived.Laws.Strings2
namespace Go.Proofs.YtnhogbgnnnniaaaDoor.L3
open Go.RowKit

theorem dig_slice (k : Int) (h0 : 0 ≤ k) (h1 : k ≤ 9) (w : World) : (Instr.slice 9 (.string ⟨#[48, 49, 50, 51, 52, 53, 54, 55, 56, 57]⟩) (some (.int .i64 k)) (some (.int .i64 (k + 1))) none).run Tryd.prog w = .ok (.string (strB [byteOf (k + 48)])) w := by
  rw [run_slice_string (P := Tryd.prog) w 9 _ .i64 .i64 k (k + 1) Tryd.underlying9 h0 (by omega) (by simp [ByteArray.size]; omega)]
  have : k = 0 ∨ k = 1 ∨ k = 2 ∨ k = 3 ∨ k = 4 ∨ k = 5 ∨ k = 6 ∨ k = 7 ∨ k = 8 ∨ k = 9 := by omega
  rcases this with rfl | rfl | rfl | rfl | rfl | rfl | rfl | rfl | rfl | rfl <;> rfl
/-- what digits come to, behind v -/
def dgt (b : UInt8) : Nat := b.toNat - 48
def valF (v : Nat) (l : List UInt8) : Nat := l.foldl (fun a b => 10 * a + dgt b) v
theorem valF_step (v : Nat) (b : UInt8) (r : List UInt8) : valF v (b :: r) = valF (10 * v + dgt b) r := by simp only [valF, List.foldl_cons]
def Digs (l : List UInt8) : Prop := ∀ b ∈ l, 48 ≤ b.toNat ∧ b.toNat ≤ 57
theorem valF_ge : ∀ (l : List UInt8) (v : Nat), v ≤ valF v l
  | [], v => Nat.le_refl _
  | b :: r, v => by
    rw [valF_step]
    have := valF_ge r (10 * v + dgt b)
    omega
theorem valF_pow : ∀ (l : List UInt8) (v : Nat), valF v l = v * 10 ^ l.length + valF 0 l
  | [], v => by simp [valF]
  | b :: r, v => by
    rw [valF_step, valF_pow r, valF_step, valF_pow r (10 * 0 + dgt b), List.length_cons, Nat.pow_succ]
    generalize dgt b = d
    have e : (10 * v + d) * 10 ^ r.length = v * (10 ^ r.length * 10) + d * 10 ^ r.length := by
      rw [Nat.add_mul]
      congr 1
      rw [Nat.mul_comm 10 v, Nat.mul_assoc, Nat.mul_comm 10]
    rw [e, Nat.mul_zero, Nat.zero_add]
    omega
theorem valF_cons (b : UInt8) (l : List UInt8) : valF 0 (b :: l) = dgt b * 10 ^ l.length + valF 0 l := by
  rw [valF_step, valF_pow]
  simp
theorem valF_zero (l : List UInt8) : valF 0 (48 :: l) = valF 0 l := by
  rw [valF_step]
  have : 10 * 0 + dgt 48 = 0 := by decide
  rw [this]
theorem Digs.cons {l : List UInt8} (h : Digs l) {b : UInt8} (h0 : 48 ≤ b.toNat) (h1 : b.toNat ≤ 57) : Digs (b :: l) := fun x hx => by
  simp at hx
  rcases hx with rfl | hx
  · exact ⟨h0, h1⟩
  · exact h x hx
theorem dig_byte {k : Int} (h0 : 0 ≤ k) (h1 : k ≤ 9) : (byteOf (k + 48)).toNat = k.toNat + 48 := by
  have := byteOf_nat (c := k + 48) (by omega) (by omega)
  omega
def inR (z : Int) : Prop := -2147483648 ≤ z ∧ z ≤ 2147483647
instance (z : Int) : Decidable (inR z) := by unfold inR; infer_instance
theorem sg_mul {g : Int} (hg : g = 1 ∨ g = -1) (v d : Nat) : 10 * (g * (v : Int)) + g * (d : Int) = g * ((10 * v + d : Nat) : Int) := by
  rcases hg with rfl | rfl <;> omega
theorem out_mono {g : Int} (hg : g = 1 ∨ g = -1) {v v' : Nat} (h : v ≤ v') (ho : ¬ inR (g * (v : Int))) : ¬ inR (g * (v' : Int)) := by
  unfold inR at *
  rcases hg with rfl | rfl <;> omega
/-- digits, one behind the other -/
theorem dig_run {g : Int} (hg : g = 1 ∨ g = -1) : ∀ (l : List UInt8) (st : St) (v : Nat), Digs l → st.ins ≠ 1 → st.ins ≠ 2 → sgF st = g → st.num = g * (v : Int) → l ≠ [] →
    (inR (g * (valF v l : Int)) → lexGo st l = .inr ⟨st.T, st.ln, 4, st.ws, g * (valF v l : Int), g⟩) ∧ (¬ inR (g * (valF v l : Int)) → lexGo st l = .inl st.ln)
  | [], st, v, _, _, _, _, _, hne => absurd rfl hne
  | b :: r, st, v, hd, h1, h2, hs, hn, _ => by
    obtain ⟨hb0, hb1⟩ := hd b (by simp)
    have hd' : Digs r := fun x hx => hd x (by simp [hx])
    have hz : ((b.toNat : Int) - 48) = ((dgt b : Nat) : Int) := by unfold dgt; omega
    have ht : takeF st (b.toNat : Int) = digF st ((b.toNat : Int) - 48) := takeF_dig h1 (by omega) (by omega)
    have hdig : digF st ((b.toNat : Int) - 48) = if inR (g * ((10 * v + dgt b : Nat) : Int)) then some ⟨st.T, st.ln, 4, st.ws, g * ((10 * v + dgt b : Nat) : Int), g⟩ else none := by
      unfold digF
      rw [if_neg h2, hs, hn, hz, sg_mul hg]
      rfl
    rw [valF_step]
    by_cases hr : inR (g * ((10 * v + dgt b : Nat) : Int))
    · have e : lexGo st (b :: r) = lexGo ⟨st.T, st.ln, 4, st.ws, g * ((10 * v + dgt b : Nat) : Int), g⟩ r := go_yes rfl (by rw [ht, hdig, if_pos hr])
      rw [e]
      by_cases hne : r = []
      · subst hne
        exact ⟨fun _ => rfl, fun h => absurd hr h⟩
      · have := dig_run hg r ⟨st.T, st.ln, 4, st.ws, g * ((10 * v + dgt b : Nat) : Int), g⟩ (10 * v + dgt b) hd' (by simp) (by simp) (if_neg (by simp)) rfl hne
        exact this
    · refine ⟨fun h => absurd h (out_mono hg (valF_ge r _) hr), fun _ => go_no rfl (by rw [ht, hdig, if_neg hr])⟩
def signL (n : Int) (l : List UInt8) : List UInt8 := if n < 0 then 45 :: l else l
theorem ten_start : takeF st0 10 = some ⟨[], 2, 0, [], 0, 0⟩ := by rfl
/-- a number in the second line -/
theorem num_line (n : Int) (l : List UInt8) (hd : Digs l) (hne : l ≠ []) (hv : (valF 0 l : Int) = if n < 0 then -n else n) :
    (inR n → ∃ g, lexGo st0 (10 :: signL n l) = .inr ⟨[], 2, 4, [], n, g⟩) ∧ (¬ inR n → lexGo st0 (10 :: signL n l) = .inl 2) := by
  have e0 : lexGo st0 (10 :: signL n l) = lexGo ⟨[], 2, 0, [], 0, 0⟩ (signL n l) := go_yes rfl ten_start
  rw [e0]
  by_cases hn : n < 0
  · rw [if_pos hn] at hv
    have e1 : takeF ⟨[], 2, 0, [], 0, 0⟩ 45 = some ⟨[], 2, 3, [], 0, -1⟩ := rfl
    have e2 : lexGo ⟨[], 2, 0, [], 0, 0⟩ (signL n l) = lexGo ⟨[], 2, 3, [], 0, -1⟩ l := by
      rw [signL, if_pos hn]
      exact go_yes rfl e1
    obtain ⟨hy, hno⟩ := dig_run (g := -1) (.inr rfl) l ⟨[], 2, 3, [], 0, -1⟩ 0 hd (by simp) (by simp) rfl rfl hne
    have ev : (-1 : Int) * (valF 0 l : Int) = n := by omega
    rw [ev] at hy hno
    rw [e2]
    exact ⟨fun h => ⟨-1, hy h⟩, hno⟩
  · rw [if_neg hn] at hv
    have e2 : lexGo ⟨[], 2, 0, [], 0, 0⟩ (signL n l) = lexGo ⟨[], 2, 0, [], 0, 0⟩ l := by rw [signL, if_neg hn]
    obtain ⟨hy, hno⟩ := dig_run (g := 1) (.inl rfl) l ⟨[], 2, 0, [], 0, 0⟩ 0 hd (by simp) (by simp) rfl rfl hne
    have ev : (1 : Int) * (valF 0 l : Int) = n := by omega
    rw [ev] at hy hno
    rw [e2]
    exact ⟨fun h => ⟨1, hy h⟩, hno⟩
theorem signL_length (n : Int) (l : List UInt8) : (signL n l).length ≤ l.length + 1 := by
  unfold signL
  split <;> simp
theorem num_lex (n : Int) (l : List UInt8) (hd : Digs l) (hne : l ≠ []) (hl : l.length ≤ 1000) (hv : (valF 0 l : Int) = if n < 0 then -n else n) :
    (inR n → lexF (10 :: signL n l) = ([⟨2, [], n, 2⟩, ⟨4, [], 0, 2⟩], 0, 0)) ∧ (¬ inR n → lexF (10 :: signL n l) = ([], 2, 3)) ∧ lexF (10 :: signL n l ++ [120]) = ([], 2, 3) := by
  obtain ⟨hy, hno⟩ := num_line n l hd hne hv
  have hsl := signL_length n l
  have h1 : ¬ 8192 < (10 :: signL n l).length := by simp; omega
  have h2 : ¬ 8192 < (10 :: signL n l ++ [120]).length := by simp; omega
  refine ⟨fun h => ?_, fun h => ?_, ?_⟩
  · obtain ⟨g, e⟩ := hy h
    unfold lexF
    rw [if_neg h1, lexGo_append, e]
    have e2 : takeF ⟨[], 2, 4, [], n, g⟩ 10 = some ⟨[⟨2, [], n, 2⟩, ⟨4, [], 0, 2⟩], 3, 0, [], 0, g⟩ := by simp [takeF, finF, othF, St.endL, openT]
    have e3 : lexGo ⟨[], 2, 4, [], n, g⟩ [10] = .inr ⟨[⟨2, [], n, 2⟩, ⟨4, [], 0, 2⟩], 3, 0, [], 0, g⟩ := (go_yes rfl e2).trans rfl
    simp only [e3]
  · unfold lexF
    rw [if_neg h1, lexGo_append, hno h]
  · unfold lexF
    rw [if_neg h2, List.append_assoc, lexGo_append]
    by_cases h : inR n
    · obtain ⟨g, e⟩ := hy h
      rw [e]
      have e2 : takeF ⟨[], 2, 4, [], n, g⟩ 120 = none := by simp [takeF, letF]
      have e3 : lexGo ⟨[], 2, 4, [], n, g⟩ ([120] ++ [10]) = .inl 2 := go_no rfl e2
      simp only [e3]
    · rw [hno h]
end Go.Proofs.YtnhogbgnnnniaaaDoor.L3
