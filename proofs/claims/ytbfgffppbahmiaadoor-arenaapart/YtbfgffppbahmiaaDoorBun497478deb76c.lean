/-
  Helpers: AaW.
-/
import Derived.Test.YtbfgffppbahmiaaDoorBunc2c24cef0b43
import Derived.Test.YtbfgffppbahmiaaDoorBun1a6599476d80
import Derived.Deep.CutBlock
import Derived.Deep.DeepCutAuto
import Derived.Deep.RegionLaw
namespace Go.Proofs.YtbfgffppbahmiaaDoor
open Go.RowKit
open H8 (okP packV packF opA opB opC isH sizeF szT HTab below_then placeI placeI_bd place_any)

def fsts (zs : List (Int × Int)) : List Int := zs.map Prod.fst
def snds (zs : List (Int × Int)) : List Int := zs.map Prod.snd
theorem fsts_len (zs : List (Int × Int)) : (fsts zs).length = zs.length := by simp [fsts]
theorem snds_len (zs : List (Int × Int)) : (snds zs).length = zs.length := by simp [snds]
theorem fsts_at {zs : List (Int × Int)} {j : Nat} {z : Int × Int} (h : zs[j]? = some z) : (fsts zs)[j]? = some z.1 := by simp [fsts, h]
theorem snds_at {zs : List (Int × Int)} {j : Nat} {z : Int × Int} (h : zs[j]? = some z) : (snds zs)[j]? = some z.2 := by simp [snds, h]
/-- all that holds at a round's head -/
def ApR (B : Ab) (W : World) (fr : Bool) (av bv : Value) (i : Nat) (wr : World) : Prop := ∃ s zs, ArAt B wr s ∧ s.fresh = fr ∧ Pl s zs i ∧ Rw2 B W wr av bv (fsts zs) (snds zs)
set_option maxHeartbeats 8000000 in
set_option maxRecDepth 8000 in
theorem apart_walk (ad : Option Addr) (len cap : Nat) (fr : Bool) (hl : len ≤ 9223372036854775807) (w : World) (hN : NAt w ad len) (hT : HTab w) : Calls Tryd.prog 3 #[.slice ad len cap, .bool fr] w fun e w' => e = .returned (.bool true) ∧ Below w.heap.size w w' := by
  have Pv := fun z wx => place_any z 1048576 wx (by omega) (by omega)
  have h0 := New_any 0 512 fr w hT
  have HP0 : Hid (Pl (new9 0 512 fr) [] 0 ∧ (new9 0 512 fr).fresh = fr) := ⟨Pl.new fr, rfl⟩
  generalize new9 0 512 fr = a0 at *
  have HT : Hid (HTab w) := hT
  clear hT
  go_enter Tryd.func3, Tryd.ntmps3
  go_wp2_with fail
  refine h0.mono ?_
  rintro e w1 ⟨B, rfl, hA, hb, hlb⟩
  go_wp2_with fail
  have HR0 : Hid (ApR B w fr (.slice none 0 0) (.slice none 0 0) 0 w1) := ⟨a0, [], hA, HP0.out.2, HP0.out.1, Rw2.nil B w w1 hb HT.out⟩
  have HLB : Hid (∀ k, B.has k → w.heap.size ≤ k) := hlb
  clear hA hb hlb h0 HP0
  go_loopw [6, 7, 8] (fun av bv iv wr => ∃ i : Nat, i ≤ 40 ∧ i ≤ len ∧ iv = .int .i64 i ∧ ApR B w fr av bv i wr) (fun _ _ iv _ => 40 - (intOf iv).toNat)
  case atStart => exact ⟨0, by omega, by omega, rfl, HR0.out⟩
  case round =>
    obtain ⟨i, hi, hil, rfl, s, zs, hA, hfr, hP, hR⟩ := hrel
    clear HR0
    obtain ⟨wq, rfl⟩ : ∃ W, W = wr := ⟨wr, rfl⟩
    by_cases hlt : i < len ∧ i < 40
    · obtain ⟨hlt, hlt40⟩ := hlt
      obtain ⟨b, o, z, rfl, hc⟩ := hN.kept hR.low i hlt
      have HN : Hid (NAt w (some ⟨b, o, none⟩) len) := hN
      have hli : (i : Int) < (len : Int) := by omega
      have hli6 : (i : Int) < 40 := by omega
      obtain ⟨v1, v2⟩ := placeI_bd z 1048576 (by omega)
      have Pz := fun wx => Pv z wx
      generalize placeI z 1048576 = v at *
      obtain ⟨n, hn⟩ : ∃ n, zs.length = n := ⟨_, rfl⟩
      have hn40 : n ≤ 40 := by have := hP.le; omega
      have hoa := hR.oa
      have hob := hR.ob
      rw [fsts_len, hn] at hoa
      rw [snds_len, hn] at hob
      by_cases hX : v % 4 = 0 ∧ 0 < n
      · obtain ⟨hv4, hn0⟩ := hX
        obtain ⟨g1, cp1, rfl, hc1, hm1⟩ := own_form hoa hn0
        obtain ⟨g2, cp2, rfl, hc2, hm2⟩ := own_form hob hn0
        obtain ⟨k, hk⟩ : ∃ k : Nat, v / 4 % (n : Int) = k := ⟨(v / 4 % (n : Int)).toNat, by have := Int.emod_nonneg (v / 4) (b := (n : Int)) (by omega); omega⟩
        have hkn : k < n := by have := Int.emod_lt_of_pos (v / 4) (b := (n : Int)) (by omega); omega
        have hki : (k : Int) < (n : Int) := by omega
        have hkl : k < zs.length := by omega
        have hzk : zs[k]? = some zs[k] := List.getElem?_eq_getElem hkl
        have hst : s.st zs[k].1 = 1 := hP.st _ (List.getElem_mem hkl)
        have hcut := hP.cut hkl
        have cl : wq.cell? ⟨g1, k, none⟩ = some (.int .i64 zs[k].1) := own_cell hoa (fsts_at hzk)
        have K1 := Retire_any hA zs[k].1
        rw [retire_of hst] at K1
        generalize hH : zs[k].1 = H at *
        have hn0i : 0 < (n : Int) := by omega
        have hnz : ¬ (n : Int) = 0 := by omega
        have hnz2 : ((n : Int) == 0) = false := by simp; omega
        have HR : Hid (Rw2 B w wq (.slice (some ⟨g1, 0, none⟩) n cp1) (.slice (some ⟨g2, 0, none⟩) n cp2) (fsts zs) (snds zs)) := hR
        have HCUT : Hid (Pl (diedS (retireS s H) H) (cutL zs k) (i + 1)) := hcut
        have HFR : Hid ((diedS (retireS s H) H).fresh = fr) := hfr
        have HNn : Hid (zs.length = n) := hn
        clear hcut hR hoa hob hA hP hN hn hH hst hzk
        go_wp2_with fail
        refine (Pz _).mono ?_
        rintro e w3 ⟨rfl, rfl⟩
        go_wp2_with fail
        refine K1.mono ?_
        rintro e w4 ⟨rfl, hA4, hF4⟩
        have hR4 := HR.out.arena HLB.out hF4
        have cl4 : w4.cell? ⟨g1, k, none⟩ = some (.int .i64 H) := by
          have h := hF4.cell (f := k) (block_lt_of_cell cl) (HR.out.na g1 rfl)
          exact h.trans cl
        have K2 := Died_any hA4 H
        rw [died_of (retire_st _ _)] at K2
        clear hA4 hF4 cl K1 Pz
        go_wp2_with fail
        refine K2.mono ?_
        rintro e w5 ⟨rfl, hA5, hF5⟩
        have hR5 := hR4.arena HLB.out hF5
        have cl5 : w5.cell? ⟨g1, k, none⟩ = some (.int .i64 H) := by
          have h := hF5.cell (f := k) (block_lt_of_cell cl4) (hR4.na g1 rfl)
          exact h.trans cl4
        have K3 := State_any hA5 H
        rw [died_st] at K3
        clear hF5 cl4 K2 hR4
        go_wp2_with fail
        refine K3.mono ?_
        rintro e w6 ⟨rfl, rfl⟩
        clear K3 cl5
        go_upto_region 13 with fail
        go_cut [6, 7] (fun lv wv wx => ArAt B wx (diedS (retireS s H) H) ∧ Rw2 B w wx lv wv (cutL (fsts zs) k) (cutL (snds zs) k))
        case first =>
          have oa5 := hR5.oa
          have ob5 := hR5.ob
          rw [fsts_len, HNn.out] at oa5
          rw [snds_len, HNn.out] at ob5
          have hfl : (fsts zs).length = n := by rw [fsts_len, HNn.out]
          have hsl : (snds zs).length = n := by rw [snds_len, HNn.out]
          have SA1 : Hid (SrcN w6 (some ⟨g1, 0, none⟩) k ((fsts zs).take k)) := src_take oa5 k (by omega)
          have SA2 : Hid (SrcN w6 (if cp1 = k + 1 then some ⟨g1, 0, none⟩ else some ⟨g1, k + 1, none⟩) (n - (k + 1)) ((fsts zs).drop (k + 1))) := src_rest oa5 hfl hc1 hkn
          have SB1 : Hid (SrcN w6 (some ⟨g2, 0, none⟩) k ((snds zs).take k)) := src_take ob5 k (by omega)
          have SB2 : Hid (SrcN w6 (if cp2 = k + 1 then some ⟨g2, 0, none⟩ else some ⟨g2, k + 1, none⟩) (n - (k + 1)) ((snds zs).drop (k + 1))) := src_rest ob5 hsl hc2 hkn
          have HLn : Hid (((fsts zs).take k).length ≤ 40 ∧ ((fsts zs).drop (k + 1)).length ≤ 40 ∧ ((snds zs).take k).length ≤ 40 ∧ ((snds zs).drop (k + 1)).length ≤ 40) := by
            refine ⟨?_, ?_, ?_, ?_⟩ <;> simp <;> omega
          have hTR := Rw2.nil B w6 w6.drew (Below.refl _ _).drew hA5.tab
          have hAR := hA5.drew
          have HLow : Hid (Below w.heap.size w w6) := hR5.low
          have e1 : IntKind.i64.wrap ((k : Int) + 1) = (k : Int) + 1 := by rw [IntKind.wrap_i64]; omega
          have e2 : ((k : Int) + 1).toNat = k + 1 := by omega
          have e3 : (k : Int) + 1 ≤ (n : Int) := by omega
          have e4 : 0 ≤ (k : Int) + 1 := by omega
          have e5 : k + 1 ≤ n := by omega
          have e6 : (k : Int) ≤ (cp1 : Int) := by omega
          have e7 : (k : Int) ≤ (cp2 : Int) := by omega
          have e8 : (n : Int) ≤ (cp1 : Int) := by omega
          have e9 : (n : Int) ≤ (cp2 : Int) := by omega
          have e10 : (k : Int) + 1 ≤ (cp1 : Int) := by omega
          have e11 : (k : Int) + 1 ≤ (cp2 : Int) := by omega
          clear hA5 hR5 oa5 ob5 hfl hsl hc hk hm1 hm2
          go_region_held3 (fun _ => True) (exact trivial) (first
            | (refine step_appA rfl _ _ rfl hAR hTR rfl rfl (SA1.out.low hTR.low) (by have := HLn.out; simp at this ⊢; omega) ?_; intro va va_w hAR hTR)
            | (refine step_appA rfl _ _ rfl hAR hTR.swap rfl rfl (SB1.out.low hTR.low) (by have := HLn.out; simp at this ⊢; omega) ?_; intro vb vb_w hAR hTR'; have hTR := hTR'.swap; clear hTR')
            | (refine step_appA rfl _ _ rfl hAR hTR rfl rfl (SA2.out.low hTR.low) (by have := HLn.out; simp at this ⊢; omega) ?_; intro va va_w hAR hTR)
            | (refine step_appA rfl _ _ rfl hAR hTR.swap rfl rfl (SB2.out.low hTR.low) (by have := HLn.out; simp at this ⊢; omega) ?_; intro vb vb_w hAR hTR'; have hTR := hTR'.swap; clear hTR'))
          all_goals go_wp2_with fail
          all_goals go_meet
          all_goals exact ⟨hAR, hTR.wide HLow.out HT.out⟩
        case rest =>
          obtain ⟨hAc, hRc⟩ := hcut
          have HE : Hid (ApR B w fr u6 u7 (i + 1) wc) := ⟨_, _, hAc, HFR.out, HCUT.out, by
            have e1 : fsts (cutL zs k) = cutL (fsts zs) k := cutL_map _ _ _
            have e2 : snds (cutL zs k) = cutL (snds zs) k := cutL_map _ _ _
            rw [e1, e2]
            exact hRc⟩
          clear hAc hRc hA5 hR5
          go_wp2_with fail
          go_roundw
          case rel => exact ⟨i + 1, by omega, by omega, by go_num, HE.out⟩
          case measure => simp [intOf]; omega
      · obtain ⟨a1, cp1, rfl⟩ := own_any hoa
        obtain ⟨a2, cp2, rfl⟩ := own_any hob
        have ho : okP (8 * (v / 4 % 60)) ((i : Int) + 1) (v / 240 % 4) := ⟨by omega, by omega, by omega, by omega, by omega, by omega⟩
        have hPk := fun wx (hx : HTab wx) => H8.Pack_ok ho wx hx
        have hH := isH_pack ho
        generalize packV (8 * (v / 4 % 60)) ((i : Int) + 1) (v / 240 % 4) = H at *
        have HA : Hid (ArAt B wq s) := hA
        have HR : Hid (Rw2 B w wq (.slice a1 n cp1) (.slice a2 n cp2) (fsts zs) (snds zs)) := hR
        have HP : Hid (Pl s zs i) := hP
        have HFR : Hid (s.fresh = fr) := hfr
        have HNn : Hid (zs.length = n) := hn
        have HH : Hid (isH H) := hH
        clear hA hR hP hfr hoa hob hn ho hH hN
        go_upto_region 9 with (go_at_call 9; refine (Pz _).mono ?_; rintro e w3 ⟨rfl, rfl⟩)
        go_cut [49] (fun cv wx => cv = .bool false ∧ wx = w3)
        case first =>
          by_cases h4 : v % 4 = 0
          · have hn0 : n = 0 := by
              by_cases h : n = 0
              · exact h
              · exact absurd ⟨h4, by omega⟩ hX
            subst hn0
            clear hX
            go_wp2_with fail
            go_meet
            exact ⟨rfl, rfl⟩
          · have hb4 : (v % 4 == 0) = false := by simpa using h4
            clear hX h4
            go_wp2_with fail
            go_meet
            exact ⟨rfl, rfl⟩
        case rest =>
          obtain ⟨rfl, rfl⟩ := hcut
          clear hX hc Pz
          go_wp2_with fail
          refine (hPk _ HA.out.tab).mono ?_
          rintro e w4 ⟨rfl, hb4⟩
          have hA4 := HA.out.below hb4
          have hR4 := HR.out.below hb4
          have KB := Born_any hA4 H
          clear hPk hb4 hA4
          by_cases hok : okB s H
          · rw [show bornA s H = (bornS s H, true) by unfold bornA; rw [if_pos hok]] at KB
            have HOK : Hid (okB s H) := hok
            clear hok
            go_wp2_with fail
            refine KB.mono ?_
            rintro e w5 ⟨rfl, hA5, hF5⟩
            have hR5 := hR4.arena HLB.out hF5
            have KO := Open_is HH.out w5 hA5.tab
            clear KB hF5 hR4
            go_wp2_with fail
            refine KO.mono ?_
            rintro e w6 ⟨rfl, hb6⟩
            have HA6 : Hid (ArAt B w6 (bornS s H)) := hA5.below hb6
            have HR6 : Hid (Rw2 B w w6 (.slice a1 n cp1) (.slice a2 n cp2) (fsts zs) (snds zs)) := hR5.below hb6
            have zb := zN_bd H
            clear KO hb6 hA5 hR5
            go_wp2_with fail
            go_loopw [16] (fun kv wr => ∃ (k : Nat) (m : Nat → Int) (u : Int), k ≤ zN H ∧ kv = .int .i64 k ∧ ArAt B wr (like (bornS s H) m u) ∧ Rw2 B w wr (.slice a1 n cp1) (.slice a2 n cp2) (fsts zs) (snds zs) ∧ (∀ x, x < k → m (bN H + x) = 100 * (i : Int) + x) ∧ (∀ p, ¬ inS H p → m p = (bornS s H).mem p) ∧ (fr = true → ∀ x, k ≤ x → x < zN H → m (bN H + x) = 0)) (fun kv _ => zN H - (intOf kv).toNat)
            case atStart =>
              refine ⟨0, (bornS s H).mem, (bornS s H).uses, by omega, rfl, HA6.out, HR6.out, fun x hx => by omega, fun _ _ => rfl, fun hf x _ hx => ?_⟩
              show (if s.fresh = true ∧ inS H (bN H + x) then 0 else s.mem (bN H + x)) = 0
              rw [if_pos ⟨by rw [HFR.out]; exact hf, ⟨by omega, by omega⟩⟩]
            case round =>
              obtain ⟨k, m, u, hk, rfl, hA, hR, hm, hmo, hmf⟩ := hrel
              clear HA6 HR6
              obtain ⟨wk, rfl⟩ : ∃ W, W = wr := ⟨wr, rfl⟩
              have KS := Size_is H wk hA.tab
              by_cases hkz : k < zN H
              · have hkzi : (k : Int) < (zN H : Int) := by omega
                have hin : inW (bornS s H) H k := ⟨by rw [born_st]; decide, by omega, by omega⟩
                have h100 : 100 * (i : Int) + (k : Int) ≤ 10000 := by omega
                have HM1 : Hid (∀ x, x < k + 1 → upN m (bN H + k) (100 * (i : Int) + k) (bN H + x) = 100 * (i : Int) + x) := words_next hm
                have HM2 : Hid (∀ p, ¬ inS H p → upN m (bN H + k) (100 * (i : Int) + k) p = (bornS s H).mem p) := fun p hp => by
                  rw [upN_other _ _ (fun e => hp (by rw [e]; exact ⟨by omega, by omega⟩))]
                  exact hmo p hp
                have HM3 : Hid (fr = true → ∀ x, k + 1 ≤ x → x < zN H → upN m (bN H + k) (100 * (i : Int) + k) (bN H + x) = 0) := fun hf x h1 h2 => by
                  rw [upN_other _ _ (by omega)]
                  exact hmf hf x (by omega) h2
                have HRk : Hid (Rw2 B w wk (.slice a1 n cp1) (.slice a2 n cp2) (fsts zs) (snds zs)) := hR
                cases fr with
                | true =>
                  have KL := Load_any hA H k
                  rw [load_like hin, hmf rfl k (Nat.le_refl _) hkz] at KL
                  clear hm hmo hmf hA hR
                  go_wp2_with fail
                  refine KS.mono ?_
                  rintro e w7 ⟨rfl, rfl⟩
                  go_wp2_with fail
                  refine KL.mono ?_
                  rintro e w8 ⟨rfl, hA8, hF8⟩
                  have hR8 := HRk.out.arena HLB.out hF8
                  have KT := Store_any hA8 H k (100 * (i : Int) + k)
                  rw [store_like _ hin] at KT
                  clear KS KL hA8 hF8
                  go_wp2_with fail
                  refine KT.mono ?_
                  rintro e w9 ⟨rfl, hA9, hF9⟩
                  have hR9 := hR8.arena HLB.out hF9
                  clear KT hR8 hF9
                  go_wp2_with fail
                  go_roundw
                  case rel => exact ⟨k + 1, _, _, by omega, by go_num, hA9, hR9, HM1.out, HM2.out, HM3.out⟩
                  case measure => simp [intOf]; omega
                | false =>
                  have KT := Store_any hA H k (100 * (i : Int) + k)
                  rw [store_like _ hin] at KT
                  clear hm hmo hmf hA hR
                  go_wp2_with fail
                  refine KS.mono ?_
                  rintro e w7 ⟨rfl, rfl⟩
                  go_wp2_with fail
                  refine KT.mono ?_
                  rintro e w9 ⟨rfl, hA9, hF9⟩
                  have hR9 := HRk.out.arena HLB.out hF9
                  clear KT hF9 KS
                  go_wp2_with fail
                  go_roundw
                  case rel => exact ⟨k + 1, _, _, by omega, by go_num, hA9, hR9, HM1.out, HM2.out, HM3.out⟩
                  case measure => simp [intOf]; omega
              · have hkz2 : k = zN H := by omega
                have hkzi : ¬ (k : Int) < (zN H : Int) := by omega
                have hP2 := HP.out.add HA.out.ok HOK.out (i := i) (by omega) (m := m) (u := u) (fun x hx => hm x (by omega)) hmo
                have HP2 : Hid (Pl (like (bornS s H) m u) (zs ++ [(H, (i : Int))]) (i + 1)) := hP2
                have HFR2 : Hid ((bornS s H).fresh = fr) := HFR.out
                have hl1 : (fsts zs).length ≤ 40 := by rw [fsts_len, HNn.out]; omega
                have hl2 : (snds zs).length ≤ 40 := by rw [snds_len, HNn.out]; omega
                have HL : Hid ((fsts zs).length + [H].length ≤ 1000 ∧ (snds zs).length + [(i : Int)].length ≤ 1000) := ⟨by simp; omega, by simp; omega⟩
                clear hm hmo hmf hP2 hkz hk hl1 hl2
                generalize bornS s H = s1 at *
                go_wp2_with (first | (go_at_call 16; refine KS.mono ?_; rintro e w7 ⟨rfl, rfl⟩) | (refine list_appA rfl _ _ rfl (hA.alloc _) (hR.below ((Below.refl _ _).alloc (Nat.le_refl _) _)) rfl rfl (src_one _ _) HL.out.1 ?_; intro la w8 hA8 hR8) | (refine list_appA rfl _ _ rfl (hA8.alloc _) (hR8.below ((Below.refl _ _).alloc (Nat.le_refl _) _)).swap rfl rfl (src_one _ _) HL.out.2 ?_; intro lb w9 hA9 hR9))
                have hR10 := hR9.swap
                rw [show fsts zs ++ [H] = fsts (zs ++ [(H, (i : Int))]) by simp [fsts], show snds zs ++ [(i : Int)] = snds (zs ++ [(H, (i : Int))]) by simp [snds]] at hR10
                obtain ⟨n2, hn2⟩ : ∃ n2, (zs ++ [(H, (i : Int))]).length = n2 := ⟨_, rfl⟩
                have hn2p : 0 < n2 := by rw [← hn2]; simp
                have hn2b : n2 ≤ 1000 := by have := HNn.out; rw [← hn2]; simp; omega
                generalize zs ++ [(H, (i : Int))] = zs2 at *
                have oa := hR10.oa
                have ob := hR10.ob
                rw [fsts_len, hn2] at oa
                rw [snds_len, hn2] at ob
                obtain ⟨g3, cp3, rfl, -, -⟩ := own_form oa hn2p
                obtain ⟨g4, cp4, rfl, -, -⟩ := own_form ob hn2p
                have HS : Hid (∃ u, ArAt B w9 (like s1 m u) ∧ Rw2 B w w9 (.slice (some ⟨g3, 0, none⟩) n2 cp3) (.slice (some ⟨g4, 0, none⟩) n2 cp4) (fsts zs2) (snds zs2)) := ⟨u, hA9, hR10⟩
                have HL2 : Hid (zs2.length = n2) := hn2
                clear hA hR hA8 hR8 hA9 hR9 hR10 oa ob KS HL HA HR HP HFR HNn HOK hn2
                go_wp2_with fail
                go_loopw [17] (fun jv wr => ∃ j : Nat, j ≤ n2 ∧ jv = .int .i64 j ∧ ∃ u, ArAt B wr (like s1 m u) ∧ Rw2 B w wr (.slice (some ⟨g3, 0, none⟩) n2 cp3) (.slice (some ⟨g4, 0, none⟩) n2 cp4) (fsts zs2) (snds zs2)) (fun jv _ => n2 - (intOf jv).toNat)
                case atStart => exact ⟨0, by omega, rfl, HS.out⟩
                case round =>
                  obtain ⟨j, hj, rfl, u1, hA, hR⟩ := hrel
                  clear HS
                  obtain ⟨wj, rfl⟩ : ∃ W, W = wr := ⟨wr, rfl⟩
                  by_cases hjn : j < n2
                  · have hjni : (j : Int) < (n2 : Int) := by omega
                    have hjl : j < zs2.length := by have := HL2.out; omega
                    have hzj : zs2[j]? = some zs2[j] := List.getElem?_eq_getElem hjl
                    have hmem := List.getElem_mem hjl
                    have HZ1 : Hid (∀ wx, Rw2 B w wx (.slice (some ⟨g3, 0, none⟩) n2 cp3) (.slice (some ⟨g4, 0, none⟩) n2 cp4) (fsts zs2) (snds zs2) → wx.cell? ⟨g3, j, none⟩ = some (.int .i64 zs2[j].1) ∧ wx.cell? ⟨g4, j, none⟩ = some (.int .i64 zs2[j].2)) := fun wx hx => by
                      have oa := hx.oa
                      have ob := hx.ob
                      rw [fsts_len, HL2.out] at oa
                      rw [snds_len, HL2.out] at ob
                      exact ⟨own_cell oa (fsts_at hzj), own_cell ob (snds_at hzj)⟩
                    have hst : s1.st zs2[j].1 = 1 := HP2.out.st _ hmem
                    have hisH : isH zs2[j].1 := (hA.ok.fit zs2[j].1 (by show s1.st _ ≠ 0; rw [hst]; decide)).1
                    have hnum := HP2.out.num _ hmem
                    have hmw := HP2.out.mem _ hmem
                    have KO := Open_is hisH wj hA.tab
                    obtain ⟨c1, c2⟩ := HZ1.out wj hR
                    have zb2 := zN_bd zs2[j].1
                    have KSz := fun wx hx => Size_is zs2[j].1 wx hx
                    have HLD : Hid (∀ k : Nat, k < zN zs2[j].1 → ∀ wx u, ArAt B wx (like s1 m u) → Calls Tryd.prog 17 #[ptrA B, .int .i64 zs2[j].1, .int .i64 k] wx (Left9 B wx (.int .i64 (100 * zs2[j].2 + k)) (like s1 m (wrap64 (u + 1))))) := fun k hk wx u hx => by
                      have := Load_any hx zs2[j].1 k
                      rw [load_like (show inW s1 zs2[j].1 k from ⟨by rw [hst]; decide, by omega, by omega⟩)] at this
                      rw [show m (bN zs2[j].1 + k) = 100 * zs2[j].2 + k from hmw k hk] at this
                      exact this
                    have HST : Hid (∀ wx u, ArAt B wx (like s1 m u) → Calls Tryd.prog 12 #[ptrA B, .int .i64 zs2[j].1] wx fun e w' => e = .returned (.int .i64 1) ∧ w' = wx) := fun wx u hx => by
                      have := State_any hx zs2[j].1
                      rw [show (like s1 m u).st zs2[j].1 = 1 from hst] at this
                      exact this
                    obtain ⟨nu1, nu2⟩ := hnum
                    clear hzj hmem hst hisH hmw
                    generalize zs2[j].1 = H2 at *
                    generalize zs2[j].2 = w2 at *
                    have HAj : Hid (ArAt B wj (like s1 m u1) ∧ Rw2 B w wj (.slice (some ⟨g3, 0, none⟩) n2 cp3) (.slice (some ⟨g4, 0, none⟩) n2 cp4) (fsts zs2) (snds zs2)) := ⟨hA, hR⟩
                    clear hA hR
                    go_wp2_with fail
                    refine KO.mono ?_
                    rintro e w10 ⟨rfl, hb10⟩
                    have HA10 : Hid (ArAt B w10 (like s1 m u1) ∧ Rw2 B w w10 (.slice (some ⟨g3, 0, none⟩) n2 cp3) (.slice (some ⟨g4, 0, none⟩) n2 cp4) (fsts zs2) (snds zs2)) := ⟨HAj.out.1.below hb10, HAj.out.2.below hb10⟩
                    clear KO hb10 c1 c2 HAj
                    go_wp2_with fail
                    go_loopw [22] (fun kv wr => ∃ k : Nat, k ≤ zN H2 ∧ kv = .int .i64 k ∧ ∃ u, ArAt B wr (like s1 m u) ∧ Rw2 B w wr (.slice (some ⟨g3, 0, none⟩) n2 cp3) (.slice (some ⟨g4, 0, none⟩) n2 cp4) (fsts zs2) (snds zs2)) (fun kv _ => zN H2 - (intOf kv).toNat)
                    case atStart => exact ⟨0, by omega, rfl, u1, HA10.out.1, HA10.out.2⟩
                    case round =>
                      obtain ⟨k2, hk2, rfl, u2, hA, hR⟩ := hrel
                      clear HA10
                      obtain ⟨wm, rfl⟩ : ∃ W, W = wr := ⟨wr, rfl⟩
                      have KS2 := KSz wm hA.tab
                      by_cases hkz : k2 < zN H2
                      · have hkzi : (k2 : Int) < (zN H2 : Int) := by omega
                        obtain ⟨c1, c2⟩ := HZ1.out wm hR
                        have KL := HLD.out k2 hkz wm.drew u2 hA.drew
                        have HRm : Hid (Rw2 B w wm (.slice (some ⟨g3, 0, none⟩) n2 cp3) (.slice (some ⟨g4, 0, none⟩) n2 cp4) (fsts zs2) (snds zs2)) := hR
                        have e1 : IntKind.i64.wrap (100 * w2) = 100 * w2 := by rw [IntKind.wrap_i64]; omega
                        have e2 : IntKind.i64.wrap (100 * w2 + (k2 : Int)) = 100 * w2 + k2 := by rw [IntKind.wrap_i64]; omega
                        clear hA hR KSz
                        go_wp2_with (go_at_call 16; refine KS2.mono ?_; rintro e w7 ⟨rfl, rfl⟩)
                        go_region_held3 (fun w' => w'.cell? ⟨g3, j, none⟩ = some (.int .i64 H2) ∧ w'.cell? ⟨g4, j, none⟩ = some (.int .i64 w2)) (first | exact ⟨c1, c2⟩ | exact ⟨d1, d2⟩) (first
                          | (go_at_call 17; refine KL.mono ?_; rintro e w11 ⟨rfl, hA11, hF11⟩; have hR11 := HRm.out.arena HLB.out ((FrA.refl B _).drew.trans hF11); obtain ⟨d1, d2⟩ := HZ1.out w11 hR11)
                          | (go_at_call 12; refine (HST.out w11 _ hA11).mono ?_; rintro e w12 ⟨rfl, rfl⟩))
                        all_goals go_wp2_with fail
                        all_goals
                          go_roundw
                          case rel => exact ⟨k2 + 1, by omega, by go_num, _, hA11, hR11⟩
                          case measure => simp [intOf]; omega
                      · have hk0 : k2 = zN H2 := by omega
                        have hkzi : ¬ (k2 : Int) < (zN H2 : Int) := by omega
                        have HE : Hid (∃ u, ArAt B wm (like s1 m u) ∧ Rw2 B w wm (.slice (some ⟨g3, 0, none⟩) n2 cp3) (.slice (some ⟨g4, 0, none⟩) n2 cp4) (fsts zs2) (snds zs2)) := ⟨u2, hA, hR⟩
                        clear hA hR hk2 hkz hk0
                        go_wp2_with (go_at_call 16; refine KS2.mono ?_; rintro e w7 ⟨rfl, rfl⟩)
                        go_roundw
                        case rel => exact ⟨j + 1, by omega, by go_num, HE.out⟩
                        case measure => simp [intOf]; omega
                  · have hj0 : j = n2 := by omega
                    have hjni : ¬ (j : Int) < (n2 : Int) := by omega
                    have HE : Hid (ApR B w fr (.slice (some ⟨g3, 0, none⟩) n2 cp3) (.slice (some ⟨g4, 0, none⟩) n2 cp4) (i + 1) wj) := ⟨like s1 m u1, zs2, hA, HFR2.out, HP2.out.alike rfl rfl rfl rfl, hR⟩
                    clear hA hR hj hjn hj0
                    go_wp2_with fail
                    go_roundw
                    case rel => exact ⟨i + 1, by omega, by omega, by go_num, HE.out⟩
                    case measure => simp [intOf]; omega
          · rw [okB_no hok] at KB
            clear hok
            go_wp2_with fail
            refine KB.mono ?_
            rintro e w5 ⟨rfl, hA5, hF5⟩
            have HE : Hid (ApR B w fr (.slice a1 n cp1) (.slice a2 n cp2) (i + 1) w5) := ⟨s, zs, hA5, HFR.out, HP.out.more, hR4.arena HLB.out hF5⟩
            clear hA5 hF5 KB hR4
            go_wp2_with fail
            go_roundw
            case rel => exact ⟨i + 1, by omega, by omega, by go_num, HE.out⟩
            case measure => simp [intOf]; omega
    · have hF := Fault_any hA
      rw [hP.bad] at hF
      have hAw := awake_any wq hA.tab
      have HE : Hid (∀ w', Below wq.heap.size wq w' → Below w.heap.size w w') := fun w' h => below_then hR.low h
      have hcase : (¬ (i : Int) < (len : Int)) ∨ ((i : Int) < (len : Int) ∧ ¬ (i : Int) < 40) := by omega
      clear hA hR hP hfr hlt hi hil Pv hN
      rcases hcase with h1 | ⟨h1, h2⟩
      all_goals
        go_wp2_with fail
        refine hF.mono ?_
        rintro e w5 ⟨rfl, rfl⟩
        go_wp2_with fail
        refine hAw.mono ?_
        rintro e w6 ⟨rfl, hb6⟩
        go_wp2_with fail
        go_ret
        exact ⟨rfl, HE.out _ hb6⟩
end Go.Proofs.YtbfgffppbahmiaaDoor
