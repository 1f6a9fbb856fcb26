/-
  The law KeyTrees: its walk.
-/
import Derived.Test.YtbmndicocdlhdaaKG
import Derived.OwnWalk
namespace Go.Proofs.Ytbmndicocdlhdaa
open Go.RowKit

/-- a key by its forks, one below the other -/
def tk (ns : List Int) : Ky := ns.foldl Ky.ch root
theorem tk_snoc (ns : List Int) (n : Int) : tk (ns ++ [n]) = (tk ns).ch n := by simp [tk]
theorem fold_ok : ∀ (l : List Int) (t : Ky), t.Ok → t.dep + l.length ≤ 5 → (∀ x ∈ l, 1 ≤ x ∧ x ≤ 1000) → (l.foldl Ky.ch t).Ok ∧ (l.foldl Ky.ch t).dep = t.dep + l.length
  | [], t, h, _, _ => ⟨h, rfl⟩
  | n :: l, t, h, hd, hn => by
    rw [List.length_cons] at hd
    obtain ⟨n1, n2⟩ := hn n (by simp)
    obtain ⟨c1, c2, -⟩ := ch_facts h (n := n) (by omega) n1 n2
    obtain ⟨r1, r2⟩ := fold_ok l (t.ch n) c1 (by omega) (fun x hx => hn x (by simp [hx]))
    rw [List.foldl_cons, List.length_cons]
    exact ⟨r1, by omega⟩
/-- numbers of forks, at most five -/
structure Fks (ns : List Int) : Prop where
  few : ns.length ≤ 5
  nums : ∀ x ∈ ns, 1 ≤ x ∧ x ≤ 1000
theorem Fks.ok {ns : List Int} (h : Fks ns) : (tk ns).Ok ∧ (tk ns).dep = ns.length := by
  obtain ⟨a, b⟩ := fold_ok ns root root_ok (by rw [dep_root]; have := h.few; omega) h.nums
  exact ⟨a, by rw [tk, b, dep_root]; omega⟩
theorem Fks.take {ns : List Int} (h : Fks ns) (j : Nat) : Fks (ns.take j) := ⟨by rw [List.length_take]; have := h.few; omega, fun x hx => h.nums x (List.mem_of_mem_take hx)⟩
theorem Fks.snoc {ns : List Int} (h : Fks ns) (h5 : ns.length < 5) {n : Int} (h1 : 1 ≤ n) (h2 : n ≤ 1000) : Fks (ns ++ [n]) := ⟨by simp; omega, fun x hx => by
  rcases List.mem_append.1 hx with hx | hx
  · exact h.nums x hx
  · simp at hx; subst hx; exact ⟨h1, h2⟩⟩
/-- up again -/
theorem Fks.up {ns : List Int} (h : Fks ns) {j : Nat} (hj : j < ns.length) : inI (tk (ns.take (j + 1))).key ∧ paK (tk (ns.take (j + 1))).key = (tk (ns.take j)).key ∧ paN (tk (ns.take (j + 1))).key = ns[j] ∧ paO (tk (ns.take (j + 1))).key = true := by
  obtain ⟨o1, d1⟩ := (h.take j).ok
  obtain ⟨o2, d2⟩ := (h.take (j + 1)).ok
  rw [List.length_take] at d1 d2
  have hf := h.few
  have hx := h.nums ns[j] (List.getElem_mem hj)
  have e : tk (ns.take (j + 1)) = (tk (ns.take j)).ch ns[j] := by rw [List.take_succ_eq_append_getElem hj, tk_snoc]
  obtain ⟨-, -, -, c4, c5⟩ := ch_facts o1 (n := ns[j]) (by omega) hx.1 hx.2
  obtain ⟨q1, q2⟩ := paK_key o2 (by omega)
  refine ⟨inI_key o2, ?_, ?_, ?_⟩
  · rw [q1, e, c4]
  · rw [q2, e, c5]
  · rw [paO_key o2]; exact decide_eq_true (by omega)
def cellsN (ns : List Int) : List Value := ns.map fun x => .int .i64 x
theorem cellsN_at {ns : List Int} {j : Nat} (h : j < ns.length) : (cellsN ns)[j]? = some (.int .i64 ns[j]) := by simp [cellsN, h]
theorem own_nums {w : World} {base : Nat} {v : Value} {ns : List Int} (h : w.ownsRow base 3 1 v ns.length (cellsN ns)) : ∃ ad cap, v = .slice ad ns.length cap ∧ ∀ k (hk : k < ns.length), ∃ g f, ad = some ⟨g, f, none⟩ ∧ w.cell? ⟨g, f + k, none⟩ = some (.int .i64 ns[k]) := by
  have h0 := h
  rcases h.2 with ⟨rfl, h1⟩ | ⟨g, cap, cur, rfl, hb, hg, hn, hc, hs, ht⟩
  · exact ⟨none, 0, by rw [h1], fun k hk => by omega⟩
  · refine ⟨some ⟨g, 0, none⟩, cap, rfl, fun k hk => ⟨g, 0, rfl, ?_⟩⟩
    have hc := h0.cellAt k (by omega)
    rw [Nat.zero_add, hc, cellsN_at hk]
theorem owns_kept {w w' : World} {base : Nat} {e : TypeId} {size : Nat} {v : Value} {n : Nat} {xs : List Value} (h : w.ownsRow base e size v n xs) (hb : Below w.heap.size w w') : w'.ownsRow base e size v n xs := by
  refine ⟨h.1, ?_⟩
  have hl := h.lt
  rcases h.2 with hn | ⟨g, cap, cur, rfl, h1, h2, h3⟩
  · exact .inl hn
  · exact .inr ⟨g, cap, cur, rfl, h1, (hb.block g (hl g rfl).2).trans h2, h3⟩
theorem below_grown {w w1 w2 : World} {row : Option Nat} (h : Below w.heap.size w w1) (hg : w1.grownBy w2 row) (hr : ∀ k, row = some k → w.heap.size ≤ k) : Below w.heap.size w w2 :=
  ⟨hg.os.trans h.os, hg.tape.trans h.tape, hg.output.trans h.output, Nat.le_trans h.size hg.size, fun k hk => (hg.block k (Nat.lt_of_lt_of_le hk h.size) (fun e => by have := hr k e.symm; omega)).trans (h.block k hk)⟩
theorem one_new (w : World) (x : Value) (t : TypeId) : ∀ j u, [x][j]? = some u → (w.alloc (.cells #[x] t)).cell? ((⟨w.heap.size, 0, none⟩ : Addr).add j) = some u := by
  intro j u h
  match j, h with
  | 0, h => simp at h; subst h; simp [Addr.add]
  | j + 1, h => simp at h
theorem infoI : (Try.prog.info? 3).map (fun i => (i.zero, i.size, i.bytes)) = some (some (.int .i64 0), 1, 8) := by kernel_rfl
theorem Parent_root (w : World) : Calls Try.prog 10 #[.int .i64 1125899906842624] w fun e w' => e = .returned (.tuple #[.int .i64 0, .int .i64 0, .bool false]) ∧ Below w.heap.size w w' := by
  have h := Parent_any 1125899906842624 (inI_key root_ok) w
  unfold PaPost at h
  obtain ⟨q1, q2, q3⟩ := pa_not (k := 1125899906842624) (dp_key root_ok)
  rw [q1, q2, q3] at h
  exact h
theorem Under_root (w : World) : Calls Try.prog 16 #[.int .i64 1125899906842624, .int .i64 1125899906842624] w fun e w' => e = .returned (.bool false) ∧ Below w.heap.size w w' := by
  have h := Under_any 1125899906842624 1125899906842624 (inI_key root_ok) (inI_key root_ok) w
  rw [show unB 1125899906842624 1125899906842624 = false from (un_key root_ok root_ok).trans (decide_eq_false (und_irr root))] at h
  exact h
/-- what the law asks of a fork -/
structure Frk (k c : Int) (i : Nat) : Prop where
  ik : inI k
  ic : inI c
  ok : okK c = true
  lt : k < c
  dp : dpN c = i + 1
  u1 : unB c k = true
  u2 : unB c 1125899906842624 = true
  u3 : unB k c = false
theorem frk_of {t : Ky} (ht : t.Ok) (hd : t.dep < 5) {n : Int} (h1 : 1 ≤ n) (h2 : n ≤ 1000) : Frk t.key (t.ch n).key t.dep := by
  obtain ⟨a1, a2, -⟩ := ch_facts ht hd h1 h2
  have u := und_ch ht hd h1 h2
  exact ⟨inI_key ht, inI_key a1, ok_key a1, u.1, by rw [dp_key a1, a2], by rw [un_key a1 ht]; exact decide_eq_true u, by
    have := un_key a1 root_ok
    rw [key_root] at this
    rw [this]
    exact decide_eq_true (root_und a1 (by omega)), by rw [un_key ht a1]; exact decide_eq_false (und_asym u)⟩
set_option maxHeartbeats 8000000 in
set_option maxRecDepth 4000 in
theorem trees_walk (aa : Option Addr) (al ac : Nat) (hal : al ≤ 9223372036854775807) (w : World) (hA : NAt w aa al) :
    Calls Try.prog 5 #[.slice aa al ac] w fun e w' => e = .returned (.bool true) ∧ Below w.heap.size w w' := by
  obtain ⟨i0, hi, hz0, hz1, hz2⟩ := info_parts infoI
  go_enter Try.func5, Try.ntmps5
  go_wp2_with fail
  go_loopw [3, 4, 5] (fun kv uv iv wr => ∃ ns : List Int, Fks ns ∧ ns.length ≤ al ∧ kv = .int .i64 (tk ns).key ∧ iv = .int .i64 ns.length ∧ wr.ownsRow w.heap.size 3 1 uv ns.length (cellsN ns) ∧ Below w.heap.size w wr) (fun _ _ iv _ => 8 - (intOf iv).toNat)
  case atStart => exact ⟨[], ⟨by simp, by simp⟩, by simp, rfl, rfl, World.ownsRow_nil _ _ _ _, Below.refl _ _⟩
  case round =>
    obtain ⟨ns, hF, hna, rfl, rfl, hO, hB⟩ := hrel
    obtain ⟨tok, tdp⟩ := hF.ok
    have h5 := hF.few
    by_cases hlt : ns.length < al
    · obtain ⟨g, o, z, rfl, hc⟩ := (hA.kept hB) ns.length hlt
      obtain ⟨z1, z2⟩ := placeI_bd z 1000 (by omega)
      have HPZ : Hid (∀ wx, Calls Try.prog 22 #[.int .i64 z, .int .i64 1000] wx fun e w' => e = .returned (.int .i64 (placeI z 1000)) ∧ w' = wx) := fun wx => place_any z 1000 wx (by omega) (by omega)
      generalize placeI z 1000 = pz at *
      by_cases hlt5 : ns.length < 5
      · obtain ⟨ik, ic, f1, f2, f3, f4, f5, f6⟩ := frk_of tok (n := 1 + pz) (by omega) (by omega) (by omega)
        have HC1 : Hid (∀ n', n' = 1 + pz → ∀ wx, Calls Try.prog 8 #[.int .i64 (tk ns).key, .int .i64 n'] wx fun e w' => e = .returned (.tuple #[.int .i64 ((tk ns).ch (1 + pz)).key, .bool true]) ∧ Below wx.heap.size wx w') := fun n' e => by subst e; exact Child_key tok (by omega) (by omega) (by omega)
        have HF : Hid (Fks (ns ++ [1 + pz])) := hF.snoc hlt5 (by omega) (by omega)
        have HT : Hid (tk (ns ++ [1 + pz]) = (tk ns).ch (1 + pz)) := tk_snoc ns _
        have HL : Hid ((ns ++ [1 + pz]).length = ns.length + 1) := by simp [Hid]
        have HO1 : Hid (cellsN (ns ++ [1 + pz]) = cellsN ns ++ [.int .i64 (1 + pz)]) := by simp [Hid, cellsN]
        rw [tdp] at f3
        clear tok tdp hF hA
        have hle : decide (((tk ns).ch (1 + pz)).key ≤ (tk ns).key) = false := decide_eq_false (by omega)
        generalize ((tk ns).ch (1 + pz)) = c at *
        generalize (tk ns).key = k at *
        obtain ⟨N, hN⟩ : ∃ N, ns.length = N := ⟨_, rfl⟩
        have HN : Hid (ns.length = N) := hN
        rw [hN] at h5 hlt hlt5 hO f3 hna hc ⊢
        clear hN
        go_wp2_with fail
        refine (HPZ.out _).mono ?_
        rintro e w6 ⟨rfl, rfl⟩
        go_wp2_with fail
        refine (HC1.out _ (by omega) _).mono ?_
        rintro e w7 ⟨rfl, h7⟩
        replace hO := owns_kept hO h7
        replace h7 := below_then hB h7
        go_wp2_with fail
        refine (Check_any _ ic _).mono ?_
        rintro e w8 ⟨rfl, h8⟩
        replace hO := owns_kept hO h8
        replace h8 := below_then h7 h8
        go_wp2_with fail
        refine (Depth_any _ ic _).mono ?_
        rintro e w9 ⟨rfl, h9⟩
        replace hO := owns_kept hO h9
        replace h9 := below_then h8 h9
        go_wp2_with fail
        refine (Under_any _ _ ic ik _).mono ?_
        rintro e w10 ⟨rfl, h10⟩
        replace hO := owns_kept hO h10
        replace h10 := below_then h9 h10
        go_wp2_with fail
        refine (Under_any _ _ ic (inI_key root_ok) _).mono ?_
        rintro e w11 ⟨rfl, h11⟩
        replace hO := owns_kept hO h11
        replace h11 := below_then h10 h11
        go_wp2_with fail
        refine (Under_any _ _ ik ic _).mono ?_
        rintro e w12 ⟨rfl, h12⟩
        replace hO := owns_kept hO h12
        replace h12 := below_then h11 h12
        go_wp2_with (at_builtin; refine wpList_append_own _ rfl _ _ 31 rfl w.heap.size 3 i0 (.int .i64 0) 1 8 Try.underlying31 hi hz0 hz1 hz2 rfl (by decide) _ _ _ rfl (hO.alloc _) ⟨w12.heap.size, 0, none⟩ 1 1 [.int .i64 (1 + pz)] rfl rfl ?c1 ?c2 ?c3 ?c4 ?c5 ?_)
        case c1 => exact one_new _ _ _
        case c2 => intro u hu; simp at hu; subst hu; rfl
        case c3 => unfold maxLen; omega
        case c4 => omega
        case c5 => have := h12.size; simp; omega
        intro v' w13 hown' hgrow _
        have h13 := below_grown (below_alloc h12 (.cells #[.int .i64 (1 + pz)] 3)) hgrow fun g hg => (hO.lt g hg).1
        clear hgrow hO
        go_wp2_with fail
        go_roundw
        case rel => exact ⟨ns ++ [1 + pz], HF.out, by rw [HL.out, HN.out]; omega, by rw [HT.out], by rw [HL.out, HN.out]; go_num, by rw [HL.out, HN.out, HO1.out]; exact hown', h13⟩
        case measure => simp [intOf]; omega
      · have hno : ∀ n', chO (tk ns).key n' = false := fun n' => (ch_not (.inr (.inl (by rw [dp_key tok, tdp]; omega)))).1
        have HNO : Hid (∀ n', chO (tk ns).key n' = false) := hno
        have ik := inI_key tok
        clear hno
        have h55 : ns.length = 5 := by omega
        rw [h55] at hc
        go_wp2_with fail
        refine (HPZ.out _).mono ?_
        rintro e w6 ⟨rfl, rfl⟩
        go_wp2_with fail
        refine (Child_none ik (HNO.out _) _).mono ?_
        rintro e w7 ⟨rfl, h7⟩
        replace hO := owns_kept hO h7
        replace h7 := below_then hB h7
        clear h55 hlt5
        obtain ⟨W0, rfl⟩ : ∃ W, W = w7 := ⟨w7, rfl⟩
        have HU : Hid (∀ j, (hj : j < ns.length) → inI (tk (ns.take (j + 1))).key ∧ paK (tk (ns.take (j + 1))).key = (tk (ns.take j)).key ∧ paN (tk (ns.take (j + 1))).key = ns[j] ∧ paO (tk (ns.take (j + 1))).key = true) := fun j hj => hF.up hj
        obtain ⟨ua, uc, rfl, hU⟩ := own_nums hO
        have hKe : tk ns = tk (ns.take ns.length) := by rw [List.take_length]
        have HK : Hid (tk ns = tk (ns.take ns.length)) := hKe
        clear hKe
        clear tok tdp hF hA hO HNO HPZ hB hc
        generalize hk0 : (tk ns).key = k0 at *
        have HK0 : Hid ((tk ns).key = k0) := hk0
        clear hk0
        go_wp2_with fail
        go_loopw [3, 9] (fun kv iv wr => ∃ j : Nat, j ≤ ns.length ∧ kv = .int .i64 (tk (ns.take j)).key ∧ iv = .int .i64 ((j : Int) - 1) ∧ Below W0.heap.size W0 wr) (fun _ iv _ => (intOf iv + 1).toNat)
        case atStart => exact ⟨ns.length, Nat.le_refl _, by rw [← HK0.out, ← HK.out], by go_num, Below.refl _ _⟩
        case round =>
          obtain ⟨j, hj, rfl, rfl, hBj⟩ := hrel
          by_cases hj0 : 0 < j
          · obtain ⟨j, rfl⟩ : ∃ m, j = m + 1 := ⟨j - 1, by omega⟩
            obtain ⟨ik', f1, f2, f3⟩ := HU.out j (by omega)
            obtain ⟨g', o', rfl, hcj⟩ := hU j (by omega)
            have hcr := (hBj.cell (p := ⟨g', o' + j, none⟩) (block_lt_of_cell hcj)).trans hcj
            have ej : ((j + 1 : Nat) : Int) - 1 = (j : Int) := by omega
            rw [ej]
            clear ej HU HK HK0 hU hcj
            generalize ns[j] = nj at *
            generalize tk (ns.take (j + 1)) = t1 at *
            generalize ht0 : tk (ns.take j) = t0 at *
            have HT0 : Hid (tk (ns.take j) = t0) := ht0
            clear ht0
            go_wp2_with fail
            refine (Parent_any _ ik' _).mono ?_
            rintro e w20 ⟨rfl, h20⟩
            replace hcr := (h20.cell (p := ⟨g', o' + j, none⟩) (block_lt_of_cell hcr)).trans hcr
            replace h20 := below_then hBj h20
            have fbn : (nj == nj) = true := by simp
            go_wp2_with fail
            go_roundw
            case rel => exact ⟨j, by omega, by rw [HT0.out], by go_num, h20⟩
            case measure => simp [intOf]
          · obtain rfl : j = 0 := by omega
            have e0 : (tk (ns.take 0)).key = 1125899906842624 := rfl
            rw [e0]
            have hBe := below_then h7 hBj
            clear e0 HU HK HK0 hU
            go_wp2_with fail
            refine (Parent_root _).mono ?_
            rintro e w20 ⟨rfl, h20⟩
            replace h20 := below_then hBe h20
            go_wp2_with fail
            refine (Under_root _).mono ?_
            rintro e w21 ⟨rfl, h21⟩
            replace h21 := below_then h20 h21
            go_wp2_with fail
            refine (awake_any _).mono ?_
            rintro e w22 ⟨rfl, h22⟩
            replace h22 := below_then h21 h22
            go_wp2_with fail
            go_ret
            exact ⟨rfl, h22⟩
    · obtain ⟨W0, rfl⟩ : ∃ W, W = wr := ⟨wr, rfl⟩
      have HU : Hid (∀ j, (hj : j < ns.length) → inI (tk (ns.take (j + 1))).key ∧ paK (tk (ns.take (j + 1))).key = (tk (ns.take j)).key ∧ paN (tk (ns.take (j + 1))).key = ns[j] ∧ paO (tk (ns.take (j + 1))).key = true) := fun j hj => hF.up hj
      obtain ⟨ua, uc, rfl, hU⟩ := own_nums hO
      have hKe : tk ns = tk (ns.take ns.length) := by rw [List.take_length]
      have HK : Hid (tk ns = tk (ns.take ns.length)) := hKe
      clear hKe
      clear tok tdp hF hA hO 
      generalize hk0 : (tk ns).key = k0 at *
      have HK0 : Hid ((tk ns).key = k0) := hk0
      clear hk0
      go_wp2_with fail
      go_loopw [3, 9] (fun kv iv wr => ∃ j : Nat, j ≤ ns.length ∧ kv = .int .i64 (tk (ns.take j)).key ∧ iv = .int .i64 ((j : Int) - 1) ∧ Below W0.heap.size W0 wr) (fun _ iv _ => (intOf iv + 1).toNat)
      case atStart => exact ⟨ns.length, Nat.le_refl _, by rw [← HK0.out, ← HK.out], by go_num, Below.refl _ _⟩
      case round =>
        obtain ⟨j, hj, rfl, rfl, hBj⟩ := hrel
        by_cases hj0 : 0 < j
        · obtain ⟨j, rfl⟩ : ∃ m, j = m + 1 := ⟨j - 1, by omega⟩
          obtain ⟨ik', f1, f2, f3⟩ := HU.out j (by omega)
          obtain ⟨g', o', rfl, hcj⟩ := hU j (by omega)
          have hcr := (hBj.cell (p := ⟨g', o' + j, none⟩) (block_lt_of_cell hcj)).trans hcj
          have ej : ((j + 1 : Nat) : Int) - 1 = (j : Int) := by omega
          rw [ej]
          clear ej HU HK HK0 hU hcj
          generalize ns[j] = nj at *
          generalize tk (ns.take (j + 1)) = t1 at *
          generalize ht0 : tk (ns.take j) = t0 at *
          have HT0 : Hid (tk (ns.take j) = t0) := ht0
          clear ht0
          go_wp2_with fail
          refine (Parent_any _ ik' _).mono ?_
          rintro e w20 ⟨rfl, h20⟩
          replace hcr := (h20.cell (p := ⟨g', o' + j, none⟩) (block_lt_of_cell hcr)).trans hcr
          replace h20 := below_then hBj h20
          have fbn : (nj == nj) = true := by simp
          go_wp2_with fail
          go_roundw
          case rel => exact ⟨j, by omega, by rw [HT0.out], by go_num, h20⟩
          case measure => simp [intOf]
        · obtain rfl : j = 0 := by omega
          have e0 : (tk (ns.take 0)).key = 1125899906842624 := rfl
          rw [e0]
          have hBe := below_then hB hBj
          clear e0 HU HK HK0 hU
          go_wp2_with fail
          refine (Parent_root _).mono ?_
          rintro e w20 ⟨rfl, h20⟩
          replace h20 := below_then hBe h20
          go_wp2_with fail
          refine (Under_root _).mono ?_
          rintro e w21 ⟨rfl, h21⟩
          replace h21 := below_then h20 h21
          go_wp2_with fail
          refine (awake_any _).mono ?_
          rintro e w22 ⟨rfl, h22⟩
          replace h22 := below_then h21 h22
          go_wp2_with fail
          go_ret
          exact ⟨rfl, h22⟩
end Go.Proofs.Ytbmndicocdlhdaa
