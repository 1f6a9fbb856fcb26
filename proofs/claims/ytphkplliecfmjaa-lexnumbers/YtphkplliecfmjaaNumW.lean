/-
  The law LexNumbers: its walk.
-/
import Derived.Test.YtphkplliecfmjaaDigits
import Derived.Test.YtphkplliecfmjaaPlace
namespace Go.Proofs.Ytphkplliecfmjaa
open Go.RowKit

theorem pow_len {d len M : Nat} (h : d * 10 ^ len ≤ M) (hd : 1 ≤ d) (hM : M ≤ 4294967296) : len ≤ 9 := by
  refine Classical.byContradiction fun hn => ?_
  have h1 : 10 ^ 10 ≤ 10 ^ len := Nat.pow_le_pow_right (by omega) (by omega)
  have h2 : 1 * 10 ^ len ≤ d * 10 ^ len := Nat.mul_le_mul_right _ hd
  have h3 : (10 : Nat) ^ 10 = 10000000000 := by decide
  omega
/-- the digits under way -/
structure DigAt (M d : Nat) (l : List UInt8) : Prop where
  digs : Digs l
  sum : d * 10 ^ l.length + valF 0 l = M
  pos : l = [] ∨ 1 ≤ d
theorem DigAt.le {M d : Nat} {l : List UInt8} (h : DigAt M d l) (hM : M ≤ 4294967296) : d ≤ 4294967296 ∧ l.length ≤ 9 := by
  have h1 := h.sum
  rcases h.pos with rfl | hp
  · simp at h1 ⊢
    omega
  · have h2 : d * 1 ≤ d * 10 ^ l.length := Nat.mul_le_mul_left _ (Nat.pow_pos (by omega))
    exact ⟨by omega, pow_len (by omega) hp hM⟩
theorem DigAt.next {M d : Nat} {l : List UInt8} (h : DigAt M d l) (hd : 10 ≤ d) : DigAt M (d / 10) (byteOf ((d : Int) % 10 + 48) :: l) := by
  rw [show (d : Int) % 10 = ((d % 10 : Nat) : Int) by omega]
  have hb := dig_byte (k := ((d % 10 : Nat) : Int)) (by omega) (by omega)
  have hg : dgt (byteOf (((d % 10 : Nat) : Int) + 48)) = d % 10 := by unfold dgt; omega
  refine ⟨h.digs.cons (by omega) (by omega), ?_, .inr (by omega)⟩
  have h1 := h.sum
  rw [valF_cons, hg, List.length_cons, Nat.pow_succ]
  generalize 10 ^ l.length = P at *
  have e : d / 10 * (P * 10) + d % 10 * P = d * P := by
    have : d / 10 * (P * 10) = d / 10 * 10 * P := by rw [Nat.mul_assoc, Nat.mul_comm P 10]
    rw [this, ← Nat.add_mul]
    congr 1
    omega
  omega
theorem DigAt.done {M d : Nat} {l : List UInt8} (h : DigAt M d l) (hd : ¬ 10 ≤ d) : Digs (byteOf ((d : Int) + 48) :: l) ∧ valF 0 (byteOf ((d : Int) + 48) :: l) = M := by
  have hb := dig_byte (k := (d : Int)) (by omega) (by omega)
  have hg : dgt (byteOf ((d : Int) + 48)) = d := by unfold dgt; omega
  refine ⟨h.digs.cons (by omega) (by omega), ?_⟩
  rw [valF_cons, hg]
  exact h.sum
/-- what is asked of a number's text behind its digits and noughts -/
structure TextOf (M : Nat) (l : List UInt8) : Prop where
  digs : Digs l
  val : valF 0 l = M
  ne : l ≠ []
theorem TextOf.zero {M : Nat} {l : List UInt8} (h : TextOf M l) : TextOf M (48 :: l) := ⟨h.digs.cons (by decide) (by decide), by rw [valF_zero]; exact h.val, by simp⟩
set_option maxHeartbeats 4000000 in
set_option maxRecDepth 4000 in
theorem num_walk (a0 a1 : Int) (w : World) : Calls Try.prog 5 #[.int .i64 a0, .int .i64 a1] w fun e w' => e = .returned (.bool true) ∧ Below w.heap.size w w' := by
  obtain ⟨p1, p2⟩ := placeI_bd a0 8589934592 (by omega)
  have hpl := place_any a0 8589934592 w (by omega) (by omega)
  obtain ⟨z1, z2⟩ := placeI_bd a1 9 (by omega)
  have hpz := fun wx => place_any a1 9 wx (by omega) (by omega)
  obtain ⟨Z, hZ⟩ : ∃ Z : Nat, placeI a1 9 = Z := ⟨(placeI a1 9).toNat, by omega⟩
  rw [hZ] at hpz z1 z2
  generalize placeI a0 8589934592 = pv at hpl p1 p2
  have HPL : Hid (Calls Try.prog 11 #[.int .i64 a0, .int .i64 8589934592] w fun e w' => e = .returned (.int .i64 pv) ∧ w' = w) := hpl
  have HPZ : Hid (∀ wx, Calls Try.prog 11 #[.int .i64 a1, .int .i64 9] wx fun e w' => e = .returned (.int .i64 (Z : Int)) ∧ w' = wx) := hpz
  have hcase : ∃ M : Nat, M ≤ 4294967296 ∧ ((0 < M ∧ pv - 4294967296 = -(M : Int)) ∨ pv - 4294967296 = (M : Int)) := by
    by_cases h : pv - 4294967296 < 0
    · exact ⟨(4294967296 - pv).toNat, by omega, .inl ⟨by omega, by omega⟩⟩
    · exact ⟨(pv - 4294967296).toNat, by omega, .inr (by omega)⟩
  obtain ⟨M, hMb, hcs⟩ := hcase
  have hwM : IntKind.i64.wrap (M : Int) = M := by simp [IntKind.wrap, IntKind.bits, IntKind.signed]; omega
  have hwm : IntKind.i64.wrap (-(M : Int)) = -(M : Int) := by simp [IntKind.wrap, IntKind.bits, IntKind.signed]; omega
  clear hpl hpz hZ p1 p2
  rcases hcs with ⟨hM0, hpv⟩ | hpv
  · have hw1 : IntKind.i64.wrap (pv - 4294967296) = -(M : Int) := by rw [hpv]; exact hwm
    clear hpv
    go_enter Try.func5, Try.ntmps5
    go_wp2_with fail
    refine HPL.out.mono ?_
    rintro e w1 ⟨rfl, rfl⟩
    clear HPL
    go_wp2_with fail
    go_loopw [6, 7] (fun dv sv wr => ∃ (d : Nat) (l : List UInt8), dv = .int .i64 d ∧ sv = .string (strB l) ∧ DigAt M d l ∧ wr = w1) (fun dv _ _ => (intOf dv).toNat)
    case atStart => exact ⟨M, [], by simp, rfl, ⟨fun _ h => by simp at h, by simp [valF], .inl rfl⟩, rfl⟩
    case round =>
      obtain ⟨d, l, rfl, rfl, hD, rfl⟩ := hrel
      obtain ⟨hdb, hll⟩ := hD.le hMb
      have hsz : (strB l).size = l.length := strB_size l
      by_cases h10 : 10 ≤ d
      · have hN := hD.next h10
        have hsl := fun wx => dig_slice ((d : Int) % 10) (by omega) (by omega) wx
        have hs1 : (strB [byteOf ((d : Int) % 10 + 48)]).size = 1 := by rw [strB_size]; rfl
        have hap := strB_append [byteOf ((d : Int) % 10 + 48)] l
        have HN : Hid (DigAt M (d / 10) (byteOf ((d : Int) % 10 + 48) :: l)) := hN
        clear hN
        go_wp2_with fail
        go_roundw
        case rel => exact ⟨d / 10, _, by go_num, rfl, HN.out, trivial⟩
        case measure => simp [intOf]; omega
      · obtain ⟨q1, q2⟩ := hD.done h10
        have hsl := fun wx => dig_slice (d : Int) (by omega) (by omega) wx
        have hs1 : (strB [byteOf ((d : Int) + 48)]).size = 1 := by rw [strB_size]; rfl
        have hap : strB [byteOf ((d : Int) + 48)] ++ strB l = strB (byteOf ((d : Int) + 48) :: l) := strB_append [byteOf ((d : Int) + 48)] l
        have HT : Hid (TextOf M (byteOf ((d : Int) + 48) :: l)) := ⟨q1, q2, by simp⟩
        clear q1 q2 hD
        go_wp2_with fail
        refine (HPZ.out _).mono ?_
        rintro e w2 ⟨rfl, rfl⟩
        clear HPZ hsl hs1 hap hsz
        generalize hl0 : byteOf ((d : Int) + 48) :: l = l0 at *
        have hl0b : l0.length ≤ 10 := by rw [← hl0]; simp; omega
        clear hl0 hdb hll h10
        go_wp2_with fail
        go_loopw [7, 8] (fun sv iv wr => ∃ (i : Nat) (l : List UInt8), i ≤ Z ∧ iv = .int .i64 i ∧ sv = .string (strB l) ∧ TextOf M l ∧ l.length + i ≤ 10 + Z ∧ wr = w2) (fun _ iv _ => (intOf iv).toNat)
        case atStart => exact ⟨Z, l0, by omega, rfl, rfl, HT.out, by omega, rfl⟩
        case round =>
          obtain ⟨i, l, hi, rfl, rfl, hTx, hlen, rfl⟩ := hrel
          have hsz : (strB l).size = l.length := strB_size l
          have hlb : l.length ≤ 20 := by omega
          by_cases hi0 : 0 < i
          · have hap : (⟨#[48]⟩ : ByteArray) ++ strB l = strB (48 :: l) := strB_append [48] l
            have HT2 : Hid (TextOf M (48 :: l)) := hTx.zero
            clear hTx
            go_wp2_with fail
            go_roundw
            case rel => exact ⟨i - 1, _, by omega, by go_num, rfl, HT2.out, by simp; omega, trivial⟩
            case measure => simp [intOf]; omega
          · have hap : (⟨#[45]⟩ : ByteArray) ++ strB l = strB (45 :: l) := strB_append [45] l
            have hs2 : (strB (45 :: l)).size = l.length + 1 := by rw [strB_size]; rfl
            have hap2 : (⟨#[10]⟩ : ByteArray) ++ strB (45 :: l) = strB (10 :: 45 :: l) := strB_append [10] (45 :: l)
            have hs3 : (strB (10 :: 45 :: l)).size = l.length + 2 := by rw [strB_size]; rfl
            have hap3 : strB (10 :: 45 :: l) ++ (⟨#[120]⟩ : ByteArray) = strB (10 :: 45 :: l ++ [120]) := strB_append (10 :: 45 :: l) [120]
            have hsg : signL (-(M : Int)) l = 45 :: l := if_pos (by omega)
            obtain ⟨hy, hno, hx⟩ := num_lex (-(M : Int)) l hTx.digs hTx.ne (by omega) (by rw [if_pos (by omega), hTx.val]; omega)
            rw [hsg] at hy hno hx
            generalize hv : (10 :: 45 :: l ++ [120] : List UInt8) = lx at *
            generalize hu : (10 :: 45 :: l : List UInt8) = ly at *
            have HX : Hid (lexF lx = ([], 2, 3)) := hx
            have HY : Hid (inR (-(M : Int)) → lexF ly = ([⟨2, [], -(M : Int), 2⟩, ⟨4, [], 0, 2⟩], 0, 0)) := hy
            have HNO : Hid (¬ inR (-(M : Int)) → lexF ly = ([], 2, 3)) := hno
            have hin : (2147483648 < M ∧ ¬ inR (-(M : Int))) ∨ (M ≤ 2147483648 ∧ inR (-(M : Int))) := by unfold inR; omega
            clear hx hy hno hsg hu hv hTx
            go_wp2_with fail
            refine (All_l (l := ly) rfl _).mono ?_
            rintro e w3 ⟨ta, tc, he, hS, hb⟩
            rcases hin with ⟨hm, hni⟩ | ⟨hm, hyi⟩
            · rw [HNO.out hni] at he
              clear HNO HY hni hS
              subst he
              go_wp2_with fail
              refine (All_l (l := lx) rfl _).mono ?_
              rintro e w4 ⟨ua, uc, he, hS, hb'⟩
              rw [HX.out] at he
              subst he
              have hb2 := below_then hb hb'
              clear hS hb hb'
              go_wp2_with fail
              refine (awake_any _).mono ?_
              rintro e w5 ⟨rfl, hb'⟩
              have hb3 := below_then hb2 hb'
              go_wp2_with fail
              go_ret
              exact ⟨rfl, hb3⟩
            · rw [HY.out hyi] at he hS
              clear HNO HY hyi
              subst he
              go_wp2_with fail
              refine (All_l (l := lx) rfl _).mono ?_
              rintro e w4 ⟨ua, uc, he, hS', hb'⟩
              rw [HX.out] at he
              subst he
              have hb2 := below_then hb hb'
              have hS2 := hS.kept hb'
              clear hS' hb hb' hS
              obtain ⟨a, c, e1, hk⟩ := hS2
              obtain ⟨g, f, e2, t0⟩ := hk 0 (by simp)
              obtain ⟨rfl, rfl⟩ : ta = a ∧ tc = c := by simp at e1; exact ⟨e1.1, e1.2⟩
              subst e2
              have n0 := t0.n
              have l0 := t0.l
              simp at n0 l0
              clear e1 hk t0
              simp only [List.length_nil]
              go_wp2_with fail
              refine (awake_any _).mono ?_
              rintro e w5 ⟨rfl, hb'⟩
              have hb3 := below_then hb2 hb'
              go_wp2_with fail
              go_ret
              exact ⟨rfl, hb3⟩
  · have hw1 : IntKind.i64.wrap (pv - 4294967296) = (M : Int) := by rw [hpv]; exact hwM
    clear hpv
    go_enter Try.func5, Try.ntmps5
    go_wp2_with fail
    refine HPL.out.mono ?_
    rintro e w1 ⟨rfl, rfl⟩
    clear HPL
    go_wp2_with fail
    go_loopw [6, 7] (fun dv sv wr => ∃ (d : Nat) (l : List UInt8), dv = .int .i64 d ∧ sv = .string (strB l) ∧ DigAt M d l ∧ wr = w1) (fun dv _ _ => (intOf dv).toNat)
    case atStart => exact ⟨M, [], by simp, rfl, ⟨fun _ h => by simp at h, by simp [valF], .inl rfl⟩, rfl⟩
    case round =>
      obtain ⟨d, l, rfl, rfl, hD, rfl⟩ := hrel
      obtain ⟨hdb, hll⟩ := hD.le hMb
      have hsz : (strB l).size = l.length := strB_size l
      by_cases h10 : 10 ≤ d
      · have hN := hD.next h10
        have hsl := fun wx => dig_slice ((d : Int) % 10) (by omega) (by omega) wx
        have hs1 : (strB [byteOf ((d : Int) % 10 + 48)]).size = 1 := by rw [strB_size]; rfl
        have hap := strB_append [byteOf ((d : Int) % 10 + 48)] l
        have HN : Hid (DigAt M (d / 10) (byteOf ((d : Int) % 10 + 48) :: l)) := hN
        clear hN
        go_wp2_with fail
        go_roundw
        case rel => exact ⟨d / 10, _, by go_num, rfl, HN.out, trivial⟩
        case measure => simp [intOf]; omega
      · obtain ⟨q1, q2⟩ := hD.done h10
        have hsl := fun wx => dig_slice (d : Int) (by omega) (by omega) wx
        have hs1 : (strB [byteOf ((d : Int) + 48)]).size = 1 := by rw [strB_size]; rfl
        have hap : strB [byteOf ((d : Int) + 48)] ++ strB l = strB (byteOf ((d : Int) + 48) :: l) := strB_append [byteOf ((d : Int) + 48)] l
        have HT : Hid (TextOf M (byteOf ((d : Int) + 48) :: l)) := ⟨q1, q2, by simp⟩
        clear q1 q2 hD
        go_wp2_with fail
        refine (HPZ.out _).mono ?_
        rintro e w2 ⟨rfl, rfl⟩
        clear HPZ hsl hs1 hap hsz
        generalize hl0 : byteOf ((d : Int) + 48) :: l = l0 at *
        have hl0b : l0.length ≤ 10 := by rw [← hl0]; simp; omega
        clear hl0 hdb hll h10
        go_wp2_with fail
        go_loopw [7, 8] (fun sv iv wr => ∃ (i : Nat) (l : List UInt8), i ≤ Z ∧ iv = .int .i64 i ∧ sv = .string (strB l) ∧ TextOf M l ∧ l.length + i ≤ 10 + Z ∧ wr = w2) (fun _ iv _ => (intOf iv).toNat)
        case atStart => exact ⟨Z, l0, by omega, rfl, rfl, HT.out, by omega, rfl⟩
        case round =>
          obtain ⟨i, l, hi, rfl, rfl, hTx, hlen, rfl⟩ := hrel
          have hsz : (strB l).size = l.length := strB_size l
          have hlb : l.length ≤ 20 := by omega
          by_cases hi0 : 0 < i
          · have hap : (⟨#[48]⟩ : ByteArray) ++ strB l = strB (48 :: l) := strB_append [48] l
            have HT2 : Hid (TextOf M (48 :: l)) := hTx.zero
            clear hTx
            go_wp2_with fail
            go_roundw
            case rel => exact ⟨i - 1, _, by omega, by go_num, rfl, HT2.out, by simp; omega, trivial⟩
            case measure => simp [intOf]; omega
          · have hap2 : (⟨#[10]⟩ : ByteArray) ++ strB l = strB (10 :: l) := strB_append [10] l
            have hs3 : (strB (10 :: l)).size = l.length + 1 := by rw [strB_size]; rfl
            have hap3 : strB (10 :: l) ++ (⟨#[120]⟩ : ByteArray) = strB (10 :: l ++ [120]) := strB_append (10 :: l) [120]
            have hsg : signL (M : Int) l = l := if_neg (by omega)
            obtain ⟨hy, hno, hx⟩ := num_lex (M : Int) l hTx.digs hTx.ne (by omega) (by rw [if_neg (by omega), hTx.val])
            rw [hsg] at hy hno hx
            generalize hv : (10 :: l ++ [120] : List UInt8) = lx at *
            generalize hu : (10 :: l : List UInt8) = ly at *
            have HX : Hid (lexF lx = ([], 2, 3)) := hx
            have HY : Hid (inR (M : Int) → lexF ly = ([⟨2, [], (M : Int), 2⟩, ⟨4, [], 0, 2⟩], 0, 0)) := hy
            have HNO : Hid (¬ inR (M : Int) → lexF ly = ([], 2, 3)) := hno
            have hin : (2147483648 ≤ M ∧ ¬ inR (M : Int)) ∨ (M < 2147483648 ∧ inR (M : Int)) := by unfold inR; omega
            clear hx hy hno hsg hu hv hTx
            go_wp2_with fail
            refine (All_l (l := ly) rfl _).mono ?_
            rintro e w3 ⟨ta, tc, he, hS, hb⟩
            rcases hin with ⟨hm, hni⟩ | ⟨hm, hyi⟩
            · rw [HNO.out hni] at he
              clear HNO HY hni hS
              subst he
              go_wp2_with fail
              refine (All_l (l := lx) rfl _).mono ?_
              rintro e w4 ⟨ua, uc, he, hS, hb'⟩
              rw [HX.out] at he
              subst he
              have hb2 := below_then hb hb'
              clear hS hb hb'
              go_wp2_with fail
              refine (awake_any _).mono ?_
              rintro e w5 ⟨rfl, hb'⟩
              have hb3 := below_then hb2 hb'
              go_wp2_with fail
              go_ret
              exact ⟨rfl, hb3⟩
            · rw [HY.out hyi] at he hS
              clear HNO HY hyi
              subst he
              go_wp2_with fail
              refine (All_l (l := lx) rfl _).mono ?_
              rintro e w4 ⟨ua, uc, he, hS', hb'⟩
              rw [HX.out] at he
              subst he
              have hb2 := below_then hb hb'
              have hS2 := hS.kept hb'
              clear hS' hb hb' hS
              obtain ⟨a, c, e1, hk⟩ := hS2
              obtain ⟨g, f, e2, t0⟩ := hk 0 (by simp)
              obtain ⟨rfl, rfl⟩ : ta = a ∧ tc = c := by simp at e1; exact ⟨e1.1, e1.2⟩
              subst e2
              have n0 := t0.n
              have l0 := t0.l
              simp at n0 l0
              clear e1 hk t0
              simp only [List.length_nil]
              go_wp2_with fail
              refine (awake_any _).mono ?_
              rintro e w5 ⟨rfl, hb'⟩
              have hb3 := below_then hb2 hb'
              go_wp2_with fail
              go_ret
              exact ⟨rfl, hb3⟩
end Go.Proofs.Ytphkplliecfmjaa
