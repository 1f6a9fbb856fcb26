/-
  The law CodeSizes: its walk.
-/
import Derived.Test.YtjaiicjnabpapaaDoorByNum2
namespace Go.Proofs.YtjaiicjnabpapaaDoor
open Go.RowKit

theorem insBI_length (x : In) : (insBI x).length = if x.o = 1 then 6 else 4 := by
  unfold insBI insB restB
  by_cases h : x.o = 1
  · simp [be_length, widthOf, h]
  · simp [be_length, widthOf, h]
theorem code_ge (f : List In) : 4 * f.length ≤ (codeB f).length := by
  induction f with
  | nil => simp [codeB]
  | cons x f ih =>
    have h := insBI_length x
    simp only [codeB, List.map_cons, List.flatten_cons, List.length_append, List.length_cons] at ih ⊢
    split at h <;> omega
theorem madeCells_at (z : Value) (n j : Nat) (h : j < n) : (madeCells #[z] n)[j]? = some z := by
  have := toList_madeCells_one z n
  rw [← Array.getElem?_toList, this, List.getElem?_replicate, if_pos h]
theorem madeCells_four (z : Value) (n j : Nat) (h : j < n) : (madeCells #[z, z, z, z] n)[j]? = some z := by
  have hm : j % 4 < 4 := Nat.mod_lt _ (by omega)
  simp only [madeCells]
  simp [h]
  rcases (by omega : j % 4 = 0 ∨ j % 4 = 1 ∨ j % 4 = 2 ∨ j % 4 = 3) with h | h | h | h <;> simp [h]
theorem slF_nils {w : World} {G n : Nat} (h : w.heap[G]? = some (.cells (nilRow n) 42 (0, 0))) : SlF w (.slice (some ⟨G, 0, none⟩) n n) (List.replicate n []) := by
  refine ⟨some ⟨G, 0, none⟩, n, by simp, fun k hk => ⟨G, 0, .slice none 0 0, rfl, ?_, ?_⟩⟩
  · have hk' : k < n := by simpa using hk
    rw [Nat.zero_add, cell_of_row w G k _ _ _ h, nilRow, madeCells_at _ _ _ (by omega)]
  · rw [List.getElem_replicate]
    exact ⟨none, 0, rfl, fun k hk => by simp at hk⟩
theorem slI_zeros {w : World} {G n : Nat} (h : w.heap[G]? = some (.cells (zeroRow n) 26 (0, 0))) : SlI w (.slice (some ⟨G, 0, none⟩) n n) (List.replicate n ⟨0, 0, 0, 0⟩) := by
  refine ⟨some ⟨G, 0, none⟩, n, by simp, fun k hk => ⟨G, 0, rfl, ?_⟩⟩
  have hk' : k < n := by simpa using hk
  rw [List.getElem_replicate]
  constructor <;> rw [cell_of_row w G _ _ _ _ h, zeroRow, madeCells_four _ _ _ (by omega)]
theorem strB_size (l : List UInt8) : (strB l).size = l.length := by simp [strB, ByteArray.size]
theorem big13 (a b c : Int) : putE ⟨List.replicate 13 [], a, b, c⟩ = 2 := by
  have : bigB (List.replicate 13 []) = true := by decide
  exact if_pos this
theorem big41 (a b c : Int) : putE ⟨[List.replicate 41 ⟨0, 0, 0, 0⟩], a, b, c⟩ = 2 := by
  have : bigB [List.replicate 41 ⟨0, 0, 0, 0⟩] = true := by decide
  exact if_pos this
/-- the numbers that are handed in, readable -/
def NumsIn (w : World) (nv : Value) (len : Nat) : Prop := ∃ ad cap, nv = .slice ad len cap ∧ len ≤ cap ∧ cap ≤ 9223372036854775807 ∧ LAt w.heap.size w ad len
set_option maxHeartbeats 2000000 in
theorem sizes_walk (nv : Value) (len : Nat) (w : World) (hT : Tab w) (hn : NumsIn w nv len) (hl : len ≤ 9223372036854775807) :
    Calls Tryd.prog 7 #[nv] w fun e w' => e = .returned (.bool true) ∧ Below w.heap.size w w' := by
  obtain ⟨ad, cap, rfl, hn1, hn2, hn3⟩ := hn
  by_cases h100 : 100 < len
  · have hd : decide ((100 : Int) < (len : Int)) = true := by simp; omega
    go_enter Tryd.func7, Tryd.ntmps7
    go_wp2_with (go_at_call 10; refine (awake_any _ hT).mono ?_; rintro e w1 ⟨rfl, hb1⟩)
    go_ret
    exact ⟨rfl, hb1⟩
  · have hd : decide ((100 : Int) < (len : Int)) = false := by simp; omega
    go_enter Tryd.func7, Tryd.ntmps7
    go_wp2_with fail
    refine (prog_any _ true w ⟨ad, len, cap, rfl, hn1, hn2, hn3⟩).mono ?_
    rintro e w1 ⟨p, fv, hok, rfl, hF, hb1⟩
    have hF1 := hF
    obtain ⟨fa, fc, rfl, -⟩ := hF
    have hgood := hok.good
    have hba : Below w1.heap.size w1 (w1.alloc (.cells #[.slice fa p.fs.length fc, .int .i64 p.futs, .int .i64 p.depth, .int .i64 p.fuel] 24)) := (Below.refl _ _).alloc (Nat.le_refl _) _
    have hx : (w1.alloc (.cells #[.slice fa p.fs.length fc, .int .i64 p.futs, .int .i64 p.depth, .int .i64 p.fuel] 24)).heap[w1.heap.size]? = some (.cells #[.slice fa p.fs.length fc, .int .i64 p.futs, .int .i64 p.depth, .int .i64 p.fuel] 24 (0, 0)) := heap_alloc_new _ _
    have hT1 := (hT.below hb1).below hba
    go_wp2_with fail
    refine (Put_any p _ _ hT1 (hF1.kept hba) (by have := hok.few; omega) (fun f hf => by have := (hok.fns f hf).2.1; omega)).mono ?_
    rintro e w2 ⟨rfl, hb2⟩
    rw [hgood.code, hgood.text]
    have hF2 := (hF1.kept hba).kept hb2
    have hx2 := (hb2.block _ (lt_of_block hx)).trans hx
    have hT2 := hT1.below hb2
    have hb3 : Below w.heap.size w w2 := (hb1.trans (hba.mono hb1.size)).trans (hb2.mono (by have := hb1.size; simp; omega))
    clear hx hF1 hT1 hba hb2
    have c0 := cell_of_row w2 _ 0 _ _ _ hx2
    simp at c0
    have hfew := hok.few
    generalize hS : strB (putB p) = S
    have HS : Hid (strB (putB p) = S) := hS
    clear hS
    go_wp2_with fail
    go_loop [6, 7] (fun wv iv => ∃ (i F : Nat), i ≤ p.fs.length ∧ iv = .int .i64 i ∧ F = (funsB (p.fs.take i)).length ∧ wv = .int .i64 ((F : Int) + 8)) (fun _ iv => p.fs.length - (intOf iv).toNat)
    case atStart => exact ⟨0, 0, by omega, rfl, by simp [funsB], rfl⟩
    case round =>
      obtain ⟨i, F, hi, rfl, hFl, rfl⟩ := hrel
      have HF : Hid (F = (funsB (p.fs.take i)).length) := hFl
      have hFb : F ≤ 7000 := by
        have h1 := funsB_length (p.fs.take i) fun f hf => hgood.small f (List.mem_of_mem_take hf)
        have h3 : (p.fs.take i).length ≤ 12 := by rw [List.length_take]; omega
        omega
      clear hFl
      by_cases hlt : i < p.fs.length
      · obtain ⟨fa', fc', he, hfx⟩ := hF2
        obtain ⟨rfl, rfl⟩ : fa' = fa ∧ fc' = fc := by simp at he; exact ⟨he.1.symm, he.2.symm⟩
        clear he
        obtain ⟨g, f, u, rfl, hc, ga, gc, rfl, hI⟩ := hfx i hlt
        have hfs := (hok.fns _ (List.getElem_mem hlt)).2.1
        have HFs : Hid (codeB p.fs[i] = codeB p.fs[i]) := rfl
        generalize hfi : p.fs[i] = fi at *
        have HFI : Hid (p.fs[i] = fi) := hfi
        clear hfi hfx
        go_wp2_with fail
        go_loop [6, 8] (fun wv kv => ∃ (k c : Nat), k ≤ fi.length ∧ kv = .int .i64 k ∧ c + 4 * k = (codeB (fi.take k)).length ∧ wv = .int .i64 ((F : Int) + 8 + 1 + 4 * (fi.length : Int) + (c : Int))) (fun _ kv => fi.length - (intOf kv).toNat)
        case atStart => exact ⟨0, 0, by omega, rfl, by simp [codeB], by go_num⟩
        case round =>
          obtain ⟨k, c, hk, rfl, hcl, rfl⟩ := hrel
          have hcb : c ≤ 1000 := by
            have h1 := codeB_length (fi.take k)
            have h2 : (fi.take k).length ≤ 11 := by rw [List.length_take]; omega
            omega
          have HC : Hid (c + 4 * k = (codeB (fi.take k)).length) := hcl
          clear hcl
          by_cases hkl : k < fi.length
          · obtain ⟨g', f', rfl, hA⟩ := hI k hkl
            obtain ⟨d0, -, -, -⟩ := hA
            by_cases ho : fi[k].o = 1
            · have ho2 : (fi[k].o == 1) = true := by simp [ho]
              have HO : Hid (fi[k].o = 1) := ho
              clear ho
              go_wp2_with fail
              go_round
              case rel => exact ⟨k + 1, c + 2, by omega, by go_num, by rw [codeB_snoc hkl, List.length_append, ← HC.out]; have h := insBI_length fi[k]; rw [if_pos HO.out] at h; have h2 : (insB fi[k].o fi[k].a fi[k].b fi[k].c).length = 6 := h; omega, by go_num⟩
              case measure => simp [intOf]; omega
            · have ho2 : (fi[k].o == 1) = false := by simp [ho]
              have HO : Hid (¬ fi[k].o = 1) := ho
              clear ho
              go_wp2_with fail
              go_round
              case rel => exact ⟨k + 1, c, by omega, by go_num, by rw [codeB_snoc hkl, List.length_append, ← HC.out]; have h := insBI_length fi[k]; rw [if_neg HO.out] at h; have h2 : (insB fi[k].o fi[k].a fi[k].b fi[k].c).length = 4 := h; omega, rfl⟩
              case measure => simp [intOf]; omega
          · have hkk : k = fi.length := by omega
            have HK : Hid (k = fi.length) := hkk
            clear hkk
            go_wp2_with fail
            go_round
            case rel =>
              refine ⟨i + 1, F + (funB fi).length, by omega, by go_num, by rw [funsB_snoc hlt, List.length_append, ← HF.out, HFI.out], ?_⟩
              have h1 := HC.out
              rw [HK.out, List.take_length] at h1
              have h2 : (funB fi).length = 1 + (codeB fi).length := by rw [funB, List.length_append, be_length]
              have e : (F : Int) + 8 + 1 + 4 * (fi.length : Int) + (c : Int) = ((F + (funB fi).length : Nat) : Int) + 8 := by omega
              rw [e]
            case measure => simp [intOf]; omega
      · have hii : i = p.fs.length := by omega
        have hlenS : (S.size : Int) = (F : Int) + 8 := by
          have h1 := HF.out
          rw [hii, List.take_length] at h1
          rw [← HS.out, strB_size, putB, List.length_append, ← h1]
          have : (headB p).length = 8 := by simp [headB, be_length]
          omega
        have hlen2 : ((S.size : Int) == (F : Int) + 8) = true := by simp [hlenS]
        have HLS : Hid ((S.size : Int) = (F : Int) + 8) := hlenS
        clear hii hlenS
        have hmk : ∀ wx : World, (Instr.makeSlice 22 (.int .i64 13) (.int .i64 13)).run Tryd.prog wx = .ok (.slice (some ⟨wx.heap.size, 0, none⟩) 13 13) (wx.alloc (.cells (nilRow 13) 42)) := fun wx => make_fns 13 (by omega) wx
        have hmk2 : ∀ wx : World, (Instr.makeSlice 42 (.int .i64 41) (.int .i64 41)).run Tryd.prog wx = .ok (.slice (some ⟨wx.heap.size, 0, none⟩) 41 41) (wx.alloc (.cells (zeroRow 41) 26)) := fun wx => make_ins 41 (by omega) wx
        have c1 := cell_of_row w2 _ 1 _ _ _ hx2
        have c2 := cell_of_row w2 _ 2 _ _ _ hx2
        have c3 := cell_of_row w2 _ 3 _ _ _ hx2
        have f0 := frozen_of_row w2 _ 0 _ _ hx2
        simp at c1 c2 c3
        have hzx := lt_of_block hx2
        have hz1 := hb1.size
        have hB3 : Below w.heap.size w ((w2.setCell ⟨w1.heap.size, 0, none⟩ (.slice (some ⟨w2.heap.size, 0, none⟩) 13 13)).alloc (.cells (nilRow 13) 42)) := (hb3.setCell (p := ⟨w1.heap.size, 0, none⟩) hz1 _).alloc (by simp [World.setCell]; omega) _
        have hT3 : Tab ((w2.setCell ⟨w1.heap.size, 0, none⟩ (.slice (some ⟨w2.heap.size, 0, none⟩) 13 13)).alloc (.cells (nilRow 13) 42)) := hT.below hB3
        have hG3 : ((w2.setCell ⟨w1.heap.size, 0, none⟩ (.slice (some ⟨w2.heap.size, 0, none⟩) 13 13)).alloc (.cells (nilRow 13) 42)).heap[w2.heap.size]? = some (.cells (nilRow 13) 42 (0, 0)) := by have := heap_alloc_new (w2.setCell ⟨w1.heap.size, 0, none⟩ (.slice (some ⟨w2.heap.size, 0, none⟩) 13 13)) (.cells (nilRow 13) 42); simpa using this
        have hX3 : ((w2.setCell ⟨w1.heap.size, 0, none⟩ (.slice (some ⟨w2.heap.size, 0, none⟩) 13 13)).alloc (.cells (nilRow 13) 42)).heap[w1.heap.size]? = some (.cells #[.slice (some ⟨w2.heap.size, 0, none⟩) 13 13, .int .i64 p.futs, .int .i64 p.depth, .int .i64 p.fuel] 24 (0, 0)) := by
          rw [Below.heap_alloc _ _ _ (by simp [World.setCell]; omega), heap_setCell_same _ _ _ _ _ _ hx2]
          rfl
        go_wp2_with fail
        refine (Put_any ⟨List.replicate 13 [], p.futs, p.depth, p.fuel⟩ _ _ hT3 (slF_nils hG3) (by simp) (by intro f hf; simp at hf; subst hf; simp)).mono ?_
        rintro e w3 ⟨rfl, hb4⟩
        rw [big13]
        generalize strB (putT ⟨List.replicate 13 [], p.futs, p.depth, p.fuel⟩) = S3
        have hx4 := (hb4.block _ (lt_of_block hX3)).trans hX3
        have hB4 := hB3.trans (hb4.mono hB3.size)
        have hz4 := lt_of_block hx4
        clear hb4 hG3 hT3 hX3 hB3 c0 c1 c2 c3 f0 hx2
        have c0 := cell_of_row w3 _ 0 _ _ _ hx4
        have c1 := cell_of_row w3 _ 1 _ _ _ hx4
        have c2 := cell_of_row w3 _ 2 _ _ _ hx4
        have c3 := cell_of_row w3 _ 3 _ _ _ hx4
        have f0 := frozen_of_row w3 _ 0 _ _ hx4
        simp at c0 c1 c2 c3
        have hB5 : Below w.heap.size w (((w3.setCell ⟨w1.heap.size, 0, none⟩ (.slice (some ⟨w3.heap.size + 1, 0, none⟩) 1 1)).alloc (.cells (zeroRow 41) 26)).alloc (.cells #[.slice (some ⟨w3.heap.size, 0, none⟩) 41 41] 42)) := ((hB4.setCell (p := ⟨w1.heap.size, 0, none⟩) hz1 _).alloc (by simp [World.setCell]; omega) _).alloc (by simp [World.setCell]; omega) _
        have hT5 : Tab (((w3.setCell ⟨w1.heap.size, 0, none⟩ (.slice (some ⟨w3.heap.size + 1, 0, none⟩) 1 1)).alloc (.cells (zeroRow 41) 26)).alloc (.cells #[.slice (some ⟨w3.heap.size, 0, none⟩) 41 41] 42)) := hT.below hB5
        have hG5 : (((w3.setCell ⟨w1.heap.size, 0, none⟩ (.slice (some ⟨w3.heap.size + 1, 0, none⟩) 1 1)).alloc (.cells (zeroRow 41) 26)).alloc (.cells #[.slice (some ⟨w3.heap.size, 0, none⟩) 41 41] 42)).heap[w3.heap.size]? = some (.cells (zeroRow 41) 26 (0, 0)) := by
          rw [Below.heap_alloc _ _ _ (by simp [World.setCell])]
          have := heap_alloc_new (w3.setCell ⟨w1.heap.size, 0, none⟩ (.slice (some ⟨w3.heap.size + 1, 0, none⟩) 1 1)) (.cells (zeroRow 41) 26)
          simpa using this
        have hH5 : (((w3.setCell ⟨w1.heap.size, 0, none⟩ (.slice (some ⟨w3.heap.size + 1, 0, none⟩) 1 1)).alloc (.cells (zeroRow 41) 26)).alloc (.cells #[.slice (some ⟨w3.heap.size, 0, none⟩) 41 41] 42)).cell? ⟨w3.heap.size + 1, 0 + 0, none⟩ = some (.slice (some ⟨w3.heap.size, 0, none⟩) 41 41) := by
          have := heap_alloc_new ((w3.setCell ⟨w1.heap.size, 0, none⟩ (.slice (some ⟨w3.heap.size + 1, 0, none⟩) 1 1)).alloc (.cells (zeroRow 41) 26)) (.cells #[.slice (some ⟨w3.heap.size, 0, none⟩) 41 41] 42)
          have h2 : (((w3.setCell ⟨w1.heap.size, 0, none⟩ (.slice (some ⟨w3.heap.size + 1, 0, none⟩) 1 1)).alloc (.cells (zeroRow 41) 26)).alloc (.cells #[.slice (some ⟨w3.heap.size, 0, none⟩) 41 41] 42)).heap[w3.heap.size + 1]? = some (.cells #[.slice (some ⟨w3.heap.size, 0, none⟩) 41 41] 42 (0, 0)) := by simpa using this
          rw [cell_of_row _ _ _ _ _ _ h2]
          rfl
        have hF5 : SlF (((w3.setCell ⟨w1.heap.size, 0, none⟩ (.slice (some ⟨w3.heap.size + 1, 0, none⟩) 1 1)).alloc (.cells (zeroRow 41) 26)).alloc (.cells #[.slice (some ⟨w3.heap.size, 0, none⟩) 41 41] 42)) (.slice (some ⟨w3.heap.size + 1, 0, none⟩) 1 1) [List.replicate 41 ⟨0, 0, 0, 0⟩] := ⟨_, 1, rfl, fun k hk => by
          obtain rfl : k = 0 := by simp at hk; exact hk
          exact ⟨_, 0, _, rfl, hH5, slI_zeros hG5⟩⟩
        clear hG5 hH5
        go_wp2_with fail
        refine (Put_any ⟨[List.replicate 41 ⟨0, 0, 0, 0⟩], p.futs, p.depth, p.fuel⟩ _ _ hT5 hF5 (by simp) (by intro f hf; simp at hf; subst hf; simp)).mono ?_
        rintro e w4 ⟨rfl, hb6⟩
        rw [big41]
        generalize strB (putT ⟨[List.replicate 41 ⟨0, 0, 0, 0⟩], p.futs, p.depth, p.fuel⟩) = S5
        have hB6 := hB5.trans (hb6.mono hB5.size)
        clear hb6 hT5 hF5 hB5
        go_wp2_with fail
        refine (awake_any _ (hT.below hB6)).mono ?_
        rintro e w6 ⟨rfl, hb7⟩
        go_wp2_with fail
        go_ret
        exact ⟨rfl, hB6.trans (hb7.mono hB6.size)⟩
end Go.Proofs.YtjaiicjnabpapaaDoor
