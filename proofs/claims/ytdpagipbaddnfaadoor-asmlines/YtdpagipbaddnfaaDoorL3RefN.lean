/-
  The reference: number.
-/
import Derived.Test.YtdpagipbaddnfaaDoorL3RefF
namespace Go.Proofs.YtdpagipbaddnfaaDoor.L3
open Go.RowKit

theorem cap_val {cv dk zk : Nat} (h : dk = zk - 48) (hz : 48 ≤ zk) : (if (1099511627776 : Int) < 10 * (cv : Int) + ((zk : Int) - 48) then 1099511627776 else 10 * (cv : Int) + ((zk : Int) - 48)) = ((if 10 * cv + dk ≤ 1099511627776 then 10 * cv + dk else 1099511627776 : Nat) : Int) := by
  split <;> split <;> omega
set_option maxHeartbeats 1000000 in
theorem number_any (l : List UInt8) (i : Nat) (hi : i < l.length) (hl : l.length ≤ 8192) (hc : (l[i].toNat : Int) = 45 ∨ isD l[i]) (w : World) : Calls Tryd.prog 54 #[.string (strB l), .int .i64 (i : Int)] w fun e w' => NumPost l i hi w e w' := by
  have hs : (strB l).size = l.length := strB_size l
  have hby := fun wx => byteL l i hi wx
  obtain ⟨g, i1, hgi, hg1⟩ : ∃ (g : Int) (i1 : Nat), ((g = -1 ∧ (l[i].toNat : Int) = 45 ∧ i1 = i + 1) ∨ (g = 1 ∧ isD l[i] ∧ i1 = i)) ∧ (g = 1 ∨ g = -1) := by
    by_cases h : (l[i].toNat : Int) = 45
    · exact ⟨-1, i + 1, .inl ⟨rfl, h, rfl⟩, .inr rfl⟩
    · exact ⟨1, i, .inr ⟨rfl, hc.resolve_left h, rfl⟩, .inl rfl⟩
  have HGI : Hid ((g = -1 ∧ (l[i].toNat : Int) = 45 ∧ i1 = i + 1) ∨ (g = 1 ∧ isD l[i] ∧ i1 = i)) := hgi
  have hcs : (((l[i].toNat : Int) == 45) = true ∧ g = -1 ∧ i1 = i + 1) ∨ (((l[i].toNat : Int) == 45) = false ∧ g = 1 ∧ i1 = i) := by
    rcases hgi with ⟨h1, h2, h3⟩ | ⟨h1, h2, h3⟩
    · exact .inl ⟨by simp [h2], h1, h3⟩
    · refine .inr ⟨?_, h1, h3⟩
      have := h2.1
      simp
      omega
  have hfin : ∀ (k : Nat) (ok : Bool) (x : Int), NumAt l i1 k → digB l k = false → x = g * (capV (valF 0 (seg l i1 k)) : Int) → ok = (digB l i1 && (decide (-2147483648 ≤ x) && (decide (x < 2147483648) && !letB l k))) → NumPost l i hi w (.returned (.tuple #[.int .i64 x, .int .i64 k, .bool ok])) w := by
    intro k ok x hN hd hx hok
    refine ⟨rfl, g, i1, k, HGI.out, hN.le, hN.len, hN.digs, digB_false hd, ?_⟩
    have hfirst : digB l i1 = true ↔ i1 < k := by
      constructor
      · intro h
        have hle := hN.le
        refine Classical.byContradiction fun hn => ?_
        obtain rfl : i1 = k := by omega
        rw [h] at hd
        cases hd
      · intro h
        rcases hN.first with e | e
        · omega
        · exact e
    have hrange : (-2147483648 ≤ x ∧ x < 2147483648) ↔ inR (g * (valF 0 (seg l i1 k) : Int)) := by
      rw [← capV_in hg1, hx]
      unfold inR
      omega
    have hlet : letB l k = false ↔ ∀ h : k < l.length, ¬ isL l[k] := by
      constructor
      · exact letB_false
      · intro h
        cases hb : letB l k with
        | false => rfl
        | true =>
          obtain ⟨h1, h2⟩ := letB_true hb
          exact absurd h2 (h h1)
    by_cases hq : i1 < k ∧ inR (g * (valF 0 (seg l i1 k) : Int)) ∧ ∀ h : k < l.length, ¬ isL l[k]
    · left
      obtain ⟨q1, q2, q3⟩ := hq
      refine ⟨⟨q1, q2, q3⟩, ?_⟩
      have e1 := hfirst.2 q1
      have e2 := hrange.2 q2
      have e3 := hlet.2 q3
      rw [capV_same hg1 q2] at hx
      rw [hok, e1, e3, decide_eq_true e2.1, decide_eq_true e2.2, hx]
      rfl
    · right
      refine ⟨hq, x, ?_⟩
      have : ok = false := by
        cases hb : ok with
        | false => rfl
        | true =>
          rw [hb] at hok
          have hok' := hok.symm
          simp only [Bool.and_eq_true, decide_eq_true_eq, Bool.not_eq_true'] at hok'
          exact absurd ⟨hfirst.1 hok'.1, hrange.1 ⟨hok'.2.1, hok'.2.2.1⟩, hlet.1 hok'.2.2.2⟩ hq
      rw [this]
  have HFIN : Hid (∀ (k : Nat) (ok : Bool) (x : Int), NumAt l i1 k → digB l k = false → x = g * (capV (valF 0 (seg l i1 k)) : Int) → ok = (digB l i1 && (decide (-2147483648 ≤ x) && (decide (x < 2147483648) && !letB l k))) → NumPost l i hi w (.returned (.tuple #[.int .i64 x, .int .i64 k, .bool ok])) w) := hfin
  clear hfin hgi hg1 HGI hc
  have hi1 : i1 ≤ l.length := by omega
  have hN0 : NumAt l i1 i1 := ⟨Nat.le_refl _, hi1, by rw [seg_self]; intro b hb; simp at hb, .inl rfl⟩
  have hV0 : capV (valF 0 (seg l i1 i1)) = 0 := by rw [seg_self]; rfl
  generalize l[i].toNat = z at *
  rcases hcs with ⟨hz, rfl, rfl⟩ | ⟨hz, rfl, hii⟩
  · go_enter Tryd.func54, Tryd.ntmps54
    go_wp2_with fail
    refine (digit_any l (i + 1) _).mono ?_
    rintro e w1 ⟨rfl, rfl⟩
    generalize hok : digB l (i + 1) = ok0 at *
    have HOK : Hid (digB l (i + 1) = ok0) := hok
    clear hok
    go_wp2_with fail
    go_loopw [1, 8] (fun iv vv wr => ∃ k : Nat, iv = .int .i64 k ∧ vv = .int .i64 (capV (valF 0 (seg l (i + 1) k)) : Int) ∧ NumAt l (i + 1) k ∧ wr = w1) (fun iv _ _ => l.length - (intOf iv).toNat)
    case atStart => exact ⟨i + 1, by go_num, by rw [hV0]; rfl, hN0, rfl⟩
    case round =>
      obtain ⟨k, rfl, rfl, hN, rfl⟩ := hrel
      have hcb := capV_le (valF 0 (seg l (i + 1) k))
      have hkl := hN.len
      go_wp2_with fail
      refine (digit_any l k _).mono ?_
      rintro e w2 ⟨rfl, rfl⟩
      cases hd : digB l k with
      | true =>
        obtain ⟨hN2, hk, hv, b1, b2⟩ := hN.next hd
        have hby2 := fun wx => byteL l k hk wx
        have hnew : capV (valF 0 (seg l (i + 1) (k + 1))) = if 10 * capV (valF 0 (seg l (i + 1) k)) + dgt l[k] ≤ 1099511627776 then 10 * capV (valF 0 (seg l (i + 1) k)) + dgt l[k] else 1099511627776 := by rw [hv, capV_step]
        have HNEW : Hid (capV (valF 0 (seg l (i + 1) (k + 1))) = if 10 * capV (valF 0 (seg l (i + 1) k)) + dgt l[k] ≤ 1099511627776 then 10 * capV (valF 0 (seg l (i + 1) k)) + dgt l[k] else 1099511627776) := hnew
        have hdg : dgt l[k] = l[k].toNat - 48 := rfl
        have HN2 : Hid (NumAt l (i + 1) (k + 1)) := hN2
        have hw8 : IntKind.u8.wrap ((l[k].toNat : Int) - 48) = (l[k].toNat : Int) - 48 := by simp [IntKind.wrap, IntKind.bits, IntKind.signed]; omega
        generalize dgt l[k] = dk at *
        generalize l[k].toNat = zk at *
        generalize capV (valF 0 (seg l (i + 1) k)) = cv at *
        clear hnew hv hN2
        go_wp2_with fail
        go_roundw
        case rel => exact ⟨k + 1, by go_num, by rw [HNEW.out, cap_val hdg b1], HN2.out, trivial⟩
        case measure => simp [intOf]; omega
      | false =>
        have hfin := HFIN.out k
        have HN1 : Hid (NumAt l (i + 1) k) := hN
        have HD1 : Hid (digB l k = false) := hd
        generalize capV (valF 0 (seg l (i + 1) k)) = cv at *
        have HF : Hid (∀ (ok : Bool) (x : Int), NumAt l (i + 1) k → digB l k = false → x = -1 * (cv : Int) → ok = (ok0 && (decide (-2147483648 ≤ x) && (decide (x < 2147483648) && !letB l k))) → NumPost l i hi w2 (.returned (.tuple #[.int .i64 x, .int .i64 k, .bool ok])) w2) := hfin
        clear hfin HFIN hN hd
        cases ok0 with
        | false =>
          go_wp2_with fail
          exact bodyPost_ret (v := .tuple #[.int .i64 (-(cv : Int)), .int .i64 k, .bool false]) (by simp [results, Tryd.results54, go_sem]) rfl (HF.out _ _ HN1.out HD1.out (by omega) (by simp))
        | true =>
          by_cases r1 : -2147483648 ≤ (-(cv : Int))
          · by_cases r2 : (-(cv : Int)) < 2147483648
            · have e1 : decide (-2147483648 ≤ (-(cv : Int))) = true := by simpa using r1
              have e2 : decide ((-(cv : Int)) < 2147483648) = true := by simpa using r2
              go_wp2_with fail
              refine (letter_any l k _).mono ?_
              rintro e w3 ⟨rfl, rfl⟩
              go_wp2_with fail
              exact bodyPost_ret (v := .tuple #[.int .i64 (-(cv : Int)), .int .i64 k, .bool (!letB l k)]) (by simp [results, Tryd.results54, go_sem]) rfl (HF.out _ _ HN1.out HD1.out (by omega) (by rw [e1, e2]; simp))
            · exact absurd (by omega) r2
          · have e1 : decide (-2147483648 ≤ (-(cv : Int))) = false := by simpa using r1
            have e1b : decide ((cv : Int) ≤ 2147483648) = false := by simp; omega
            have e1c : decide (cv ≤ 2147483648) = false := by simp; omega
            clear r1
            go_wp2_with fail
            exact bodyPost_ret (v := .tuple #[.int .i64 (-(cv : Int)), .int .i64 k, .bool false]) (by simp [results, Tryd.results54, go_sem]) rfl (HF.out _ _ HN1.out HD1.out (by omega) (by rw [e1]; simp))
  · replace hii := hii.symm
    subst hii
    go_enter Tryd.func54, Tryd.ntmps54
    go_wp2_with fail
    refine (digit_any l i _).mono ?_
    rintro e w1 ⟨rfl, rfl⟩
    generalize hok : digB l i = ok0 at *
    have HOK : Hid (digB l i = ok0) := hok
    clear hok
    go_wp2_with fail
    go_loopw [1, 8] (fun iv vv wr => ∃ k : Nat, iv = .int .i64 k ∧ vv = .int .i64 (capV (valF 0 (seg l i k)) : Int) ∧ NumAt l i k ∧ wr = w1) (fun iv _ _ => l.length - (intOf iv).toNat)
    case atStart => exact ⟨i, rfl, by rw [hV0]; rfl, hN0, rfl⟩
    case round =>
      obtain ⟨k, rfl, rfl, hN, rfl⟩ := hrel
      have hcb := capV_le (valF 0 (seg l i k))
      have hkl := hN.len
      go_wp2_with fail
      refine (digit_any l k _).mono ?_
      rintro e w2 ⟨rfl, rfl⟩
      cases hd : digB l k with
      | true =>
        obtain ⟨hN2, hk, hv, b1, b2⟩ := hN.next hd
        have hby2 := fun wx => byteL l k hk wx
        have hnew : capV (valF 0 (seg l i (k + 1))) = if 10 * capV (valF 0 (seg l i k)) + dgt l[k] ≤ 1099511627776 then 10 * capV (valF 0 (seg l i k)) + dgt l[k] else 1099511627776 := by rw [hv, capV_step]
        have HNEW : Hid (capV (valF 0 (seg l i (k + 1))) = if 10 * capV (valF 0 (seg l i k)) + dgt l[k] ≤ 1099511627776 then 10 * capV (valF 0 (seg l i k)) + dgt l[k] else 1099511627776) := hnew
        have hdg : dgt l[k] = l[k].toNat - 48 := rfl
        have HN2 : Hid (NumAt l i (k + 1)) := hN2
        have hw8 : IntKind.u8.wrap ((l[k].toNat : Int) - 48) = (l[k].toNat : Int) - 48 := by simp [IntKind.wrap, IntKind.bits, IntKind.signed]; omega
        generalize dgt l[k] = dk at *
        generalize l[k].toNat = zk at *
        generalize capV (valF 0 (seg l i k)) = cv at *
        clear hnew hv hN2
        go_wp2_with fail
        go_roundw
        case rel => exact ⟨k + 1, by go_num, by rw [HNEW.out, cap_val hdg b1], HN2.out, trivial⟩
        case measure => simp [intOf]; omega
      | false =>
        have hfin := HFIN.out k
        have HN1 : Hid (NumAt l i k) := hN
        have HD1 : Hid (digB l k = false) := hd
        generalize capV (valF 0 (seg l i k)) = cv at *
        have HF : Hid (∀ (ok : Bool) (x : Int), NumAt l i k → digB l k = false → x = 1 * (cv : Int) → ok = (ok0 && (decide (-2147483648 ≤ x) && (decide (x < 2147483648) && !letB l k))) → NumPost l i hi w2 (.returned (.tuple #[.int .i64 x, .int .i64 k, .bool ok])) w2) := hfin
        clear hfin HFIN hN hd
        cases ok0 with
        | false =>
          go_wp2_with fail
          exact bodyPost_ret (v := .tuple #[.int .i64 (cv : Int), .int .i64 k, .bool false]) (by simp [results, Tryd.results54, go_sem]) rfl (HF.out _ _ HN1.out HD1.out (by omega) (by simp))
        | true =>
          by_cases r1 : -2147483648 ≤ (cv : Int)
          · by_cases r2 : (cv : Int) < 2147483648
            · have e1 : decide (-2147483648 ≤ (cv : Int)) = true := by simp
              have e2 : decide ((cv : Int) < 2147483648) = true := by simpa using r2
              go_wp2_with fail
              refine (letter_any l k _).mono ?_
              rintro e w3 ⟨rfl, rfl⟩
              go_wp2_with fail
              exact bodyPost_ret (v := .tuple #[.int .i64 (cv : Int), .int .i64 k, .bool (!letB l k)]) (by simp [results, Tryd.results54, go_sem]) rfl (HF.out _ _ HN1.out HD1.out (by omega) (by rw [e1, e2]; simp))
            · have e2 : decide ((cv : Int) < 2147483648) = false := by simpa using r2
              have e2c : decide (cv < 2147483648) = false := by simp; omega
              clear r2
              go_wp2_with fail
              exact bodyPost_ret (v := .tuple #[.int .i64 (cv : Int), .int .i64 k, .bool false]) (by simp [results, Tryd.results54, go_sem]) rfl (HF.out _ _ HN1.out HD1.out (by omega) (by rw [e2]; simp))
          · exact absurd (by omega) r1
end Go.Proofs.YtdpagipbaddnfaaDoor.L3