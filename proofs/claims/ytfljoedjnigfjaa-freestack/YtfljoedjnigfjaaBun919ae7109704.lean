/-
  Helpers: FrT, FrU.
-/
import Derived.Test.YtfljoedjnigfjaaBuna75fe8cbcebc
import Derived.Test.YtfljoedjnigfjaaBuna1b37bebfd83
import Derived.Deep.CutBlock
import Derived.Deep.DeepCutAuto
import Derived.Deep.Grids
namespace Go.Proofs.Ytfljoedjnigfjaa
open Go.RowKit
open A9 (Ab ArAt ArMem FrA Ar rawA useA ptrA New9 new9 intsV SrcN own_kept own_base infoInt intsV_one src_one isTab tab_lt htab_keep own_cell own_form own_any)
open H8 (HTab below_then)

/-- an argument's bools -/
def BAt (w : World) (ad : Option Addr) (len : Nat) : Prop := ∀ k, k < len → ∃ b o x, ad = some ⟨b, o, none⟩ ∧ w.cell? ⟨b, o + k, none⟩ = some (.bool x)
theorem BAt.low {W w' : World} {ad : Option Addr} {len : Nat} (h : BAt W ad len) (hb : Below W.heap.size W w') : BAt w' ad len := fun k hk => by
  obtain ⟨b, o, z, h1, h3⟩ := h k hk
  exact ⟨b, o, z, h1, (hb.cell (p := ⟨b, o + k, none⟩) (block_lt_of_cell h3)).trans h3⟩
theorem cellsBool : Try.prog.cellsOf 4 = 1 := by kernel_rfl
theorem bools_in {H : Type} {enc : TypeId × Value → H} {W : World} {v : Value} {d : DataW H} {ps : List MemPlace} (hv : ∃ a len cap, v = .slice a len cap) (h : DataW.Trod enc Try.prog W 0 (fun _ => true) true 51 v d ps) : ∃ ad len cap, v = .slice ad len cap ∧ len ≤ 9223372036854775807 ∧ BAt W ad len := by
  obtain ⟨a0, len, cap, rfl⟩ := hv
  obtain ⟨fuel, hf⟩ := h
  rcases Go.Deep.open_bools Try.underlying51 Try.underlying4 cellsBool hf with ⟨hcs, -⟩ | ⟨a, len', cap', F, hcs, -, hl, hm, -, hcell⟩
  · simp [Value.cells] at hcs
    obtain ⟨rfl, rfl, rfl⟩ := hcs
    exact ⟨none, 0, 0, rfl, by omega, fun k hk => by omega⟩
  · simp [Value.cells] at hcs
    obtain ⟨rfl, rfl, rfl⟩ := hcs
    unfold maxLen at hm
    refine ⟨some a, len, cap, rfl, by omega, fun k hk => ?_⟩
    have h0 := hcell 0 (by omega)
    obtain ⟨b, off, spot⟩ := a
    have hspot : spot = none := by simpa [Addr.add] using World.cell?_spot h0
    subst hspot
    exact ⟨b, off, F k, rfl, by rw [← Go.WideShapes.add_plain]; exact hcell k (by omega)⟩
/-- an arena, its places, and a row of the call's own -/
structure Tg (B : Ab) (W w : World) (s : Ar) (g : Nat) (p : Pl5) (lv : Value) (xs : List Nat) : Prop where
  wk : Wk B W w s g p
  ow : w.ownsRow W.heap.size 3 1 lv xs.length (intsV (basesF xs))
  nb : ∀ r, lv.ownBlock = some r → ¬ B.has r ∧ r ≠ g
section
variable {B : Ab} {W w w' : World} {s s' : Ar} {g q : Nat} {p : Pl5} {lv : Value} {xs : List Nat}
theorem Tg.nil (h : Wk B W w s g p) : Tg B W w s g p (.slice none 0 0) [] := ⟨h, World.ownsRow_nil _ _ _ _, fun r hr => by simp [Value.ownBlock] at hr⟩
theorem Tg.below (h : Tg B W w s g p lv xs) (hb : Below w.heap.size w w') : Tg B W w' s g p lv xs := ⟨h.wk.below hb, own_kept h.ow fun r hr => hb.block r (h.ow.lt r hr).2, h.nb⟩
theorem Tg.arena (h : Tg B W w s g p lv xs) (hA : ArAt B w' s') (hF : FrA B w w') : Tg B W w' s' g p lv xs := ⟨h.wk.arena hA hF, own_kept h.ow fun r hr => hF.block r (h.ow.lt r hr).2 (h.nb r hr).1, h.nb⟩
theorem Tg.step (h : Tg B W w s g p lv xs) (hW : Wk B W w' s' g p) (hF : FrS (fun k => B.has k ∨ k = q) w w') (hq : lv.ownBlock ≠ some q) : Tg B W w' s' g p lv xs :=
  ⟨hW, own_kept h.ow fun r hr => hF.block r (h.ow.lt r hr).2 fun hh => hh.elim (h.nb r hr).1 fun e => hq (by rw [hr, e]), h.nb⟩
theorem Tg.far (h : Tg B W w s g p lv xs) (hq : w.heap.size ≤ q) : lv.ownBlock ≠ some q := fun e => by have := (h.ow.lt q e).2; omega
theorem Tg.hT (h : Tg B W w s g p lv xs) (hTW : HTab W) : HTab w := hTW.below h.wk.low
theorem Tg.app (ty : TypeId) (h : Tg B W w s g p lv xs) (hTW : ∀ k, isTab k → k < W.heap.size) {ad : Option Addr} {cap : Nat} {x : Nat} (hs : SrcN w ad 1 [8 * (x : Int)]) (hn : xs.length ≤ 1000) :
    ∃ v' w', (Builtin.append_ #[22, 22] ty #[lv, .slice ad 1 cap]).run Try.prog w = .ok v' w' ∧ Tg B W w' s g p v' (xs ++ [x]) := by
  obtain ⟨i, hi, hz, hz1, hz2⟩ := infoInt
  obtain ⟨hl, a, rfl, hc⟩ := hs
  have hxl : (basesF xs).length = xs.length := basesF_len xs
  obtain ⟨v', w', hr, h2, h3, -, h5⟩ := run_append_own_at (P := Try.prog) w W.heap.size 22 ty 3 i (.int .i64 0) 1 8 Try.underlying22 hi hz hz1 hz2 rfl (by decide) lv xs.length (intsV (basesF xs)) h.ow a 1 cap (intsV [8 * (x : Int)]) (by simp [intsV]) hc intsV_one (by unfold maxLen; omega) (by omega) h.wk.low.size
  have hbk : ∀ k, k < w.heap.size → lv.ownBlock ≠ some k → w'.heap[k]? = w.heap[k]? := fun k hk hne => h3.block k hk fun e => hne e.symm
  have hlo : ∀ k, k < W.heap.size → w'.heap[k]? = w.heap[k]? := fun k hk => hbk k (Nat.lt_of_lt_of_le hk h.wk.low.size) fun e => by have := (h.ow.lt k e).1; omega
  have hA : ArAt B w' s := ⟨h.wk.ar.toArMem.same (fun k hk => hbk k (h.wk.ar.lt hk) fun e => (h.nb k e).1 hk) (htab_keep h.wk.ar.tab fun k hk => hlo k (hTW k hk)), h.wk.ar.ok⟩
  have hgl := h.wk.glt
  refine ⟨v', w', hr, ⟨hA, h.wk.low.grown h3 h.wk.low.size fun b hb => (h.ow.lt b hb).1, h.wk.own, (hbk g hgl fun e => (h.nb g e).2 rfl).trans h.wk.bx, h.wk.gB, h.wk.gW⟩, ?_, fun r hr => ?_⟩
  · rw [List.length_append, show intsV (basesF (xs ++ [x])) = intsV (basesF xs) ++ intsV [8 * (x : Int)] by simp [intsV, basesF]]
    exact h2
  · rcases h5 with h5 | h5
    · exact h.nb r (by rw [← h5]; exact hr)
    · rw [h5] at hr
      have e : w.heap.size = r := Option.some.inj hr
      exact ⟨fun hb => by have := h.wk.ar.lt hb; omega, by omega⟩
theorem list_appT {ops : Array Oper} {rest : List Oper} {o : Oper} {a : Act} {Q : Exit → Act → World → Prop} (hgd : o.guard = none) (x y : Operand)
    (ho : o.op = .call { callee := .builtin .append, args := #[x, y], argTypes := #[22, 22] }) (h : Tg B W w s g p lv xs) (hTW : ∀ k, isTab k → k < W.heap.size) {ad : Option Addr} {cap : Nat} {z : Nat} (hx : a.eval x = lv) (hy : a.eval y = .slice ad 1 cap) (hs : SrcN w ad 1 [8 * (z : Int)]) (hn : xs.length ≤ 1000)
    (hK : ∀ v' w', Tg B W w' s g p v' (xs ++ [z]) → wpList Try.prog ops Q rest (a.put o.dst v') w') : wpList Try.prog ops Q (o :: rest) a w := by
  refine wpList_plain hgd fun K' hK' => ?_
  obtain ⟨v', w', hr, h2⟩ := h.app o.type hTW (cap := cap) hs hn
  unfold Oper.wp execOp
  simp only [ho, resolve, invoke, builtin, Sem.run_bind, Sem.run_pure, Result.andThen_ok, List.map_toArray, List.map_cons, List.map_nil, hx, hy, hr]
  exact hK' _ _ (hK v' w' h2)
/-- the row's last one gone -/
theorem Tg.shrink {r cap n : Nat} (h : Tg B W w s g p (.slice (some ⟨r, 0, none⟩) (n + 1) cap) xs) (hl : xs.length = n + 1) : Tg B W w s g p (.slice (some ⟨r, 0, none⟩) n cap) (xs.take n) := by
  have ho := h.ow
  rw [hl] at ho
  have h2 := own_shrink ho (Nat.le_succ n)
  refine ⟨h.wk, ?_, h.nb⟩
  rw [List.length_take, hl, show min n (n + 1) = n by omega, show basesF (xs.take n) = (basesF xs).take n by simp [basesF]]
  exact h2
end
/-! ### plainly -/
theorem chn_rev {lk : Nat → Int} : ∀ {a : List Nat} {x y : Nat} {c : List Nat}, Chn lk (a ++ x :: y :: c) → lk x = (y : Int) + 1
  | [], _, _, _, h => h.1
  | _ :: _, _, _, _, h => chn_rev h.2
theorem rev_link {lk : Nat → Int} {xs : List Nat} (h : Chn lk xs.reverse) {k : Nat} (h1 : k + 1 < xs.length) : lk xs[k + 1] = (xs[k] : Int) + 1 := by
  have e : xs = xs.take k ++ xs[k] :: xs[k + 1] :: xs.drop (k + 2) := by
    rw [List.getElem_cons_drop, List.getElem_cons_drop, List.take_append_drop]
  rw [e] at h
  simp only [List.reverse_append, List.reverse_cons, List.append_assoc, List.cons_append, List.nil_append] at h
  exact chn_rev (a := (xs.drop (k + 2)).reverse) (by simpa using h)
/-- what is known of the lists -/
def TgP (s : Ar) (xs : List Nat) (nx tg : Nat) : Prop := ∃ hd lk ls, Lst 4 64 s hd lk ls tg ∧ ls 3 = xs.reverse ∧ (∀ j, j ≠ 3 → ls j = []) ∧ tagF (hd 3) = tg ∧ (∀ b ∈ xs, b < nx) ∧ nx ≤ 60
theorem TgP.new : TgP (new9 133 512 false) [] 0 0 := ⟨_, _, _, Lst.new (K := 4) (M := 64) 133 512 false (by decide) (by decide), rfl, fun _ _ => rfl, rfl, fun _ h => by simp at h, by omega⟩
end Go.Proofs.Ytfljoedjnigfjaa
namespace Go.Proofs.Ytfljoedjnigfjaa
open Go.RowKit
open A9 (Ab ArAt ArMem FrA Ar rawA useA ptrA New9 new9 intsV SrcN own_kept own_base src_one isTab tab_lt own_cell own_form own_any)
open H8 (HTab below_then)

/-- all that holds at a round's head -/
def TgR (B : Ab) (W : World) (g : Nat) (lv : Value) (nx tg : Nat) (w : World) : Prop := ∃ s xs, Tg B W w s g enP lv xs ∧ TgP s xs nx tg ∧ s.bad = false ∧ xs.length ≤ nx
theorem en_pl {g : Nat} {w : World} (h : plS g enP w) : w.cell? ⟨g, 0, none⟩ = some (.int .i64 1) ∧ w.cell? ⟨g, 1, none⟩ = some (.int .i64 0) ∧ w.cell? ⟨g, 2, none⟩ = some (.int .i64 4) ∧ w.cell? ⟨g, 3, none⟩ = some (.int .i64 68) ∧ w.cell? ⟨g, 4, none⟩ = some (.int .i64 132) := h
set_option maxHeartbeats 8000000 in
set_option maxRecDepth 4000 in
theorem tags_walk (ad : Option Addr) (len cap : Nat) (hl : len ≤ 9223372036854775807) (w : World) (hN : BAt w ad len) (hT : HTab w) : Calls Try.prog 6 #[.slice ad len cap] w fun e w' => e = .returned (.bool true) ∧ Below w.heap.size w w' := by
  have kR := fun wx => Raw_at (a := 1) (n := 512) enP 133 rfl rfl (by omega) (by omega) wx
  have kN := fun wx (hx : HTab wx) => A9.New_any 133 512 false wx hx
  have HP0 : Hid (TgP (new9 133 512 false) [] 0 0 ∧ (new9 133 512 false).bad = false) := ⟨TgP.new, rfl⟩
  have hh : headF enP 0 3 = 3 := headF_eq (K := 4) (p := enP) ⟨rfl, rfl⟩ (by omega) (by omega) (by omega) (by omega)
  have nx' : ∀ (b : Nat), b < 60 → ∀ wx, Calls Try.prog 12 #[.agg #[.int .i64 1, .int .i64 0, .int .i64 4, .int .i64 68, .int .i64 132], .int .i64 0, .int .i64 3, .int .i64 (8 * (b : Int))] wx (NewPuPost wx enP ((b : Int) + 1) 3) := fun b hb wx => by
    have h := NewPush_any enP 0 3 (8 * (b : Int)) (by omega) (by omega) wx
    rw [hh, show 8 * (b : Int) / 8 + 1 = (b : Int) + 1 by omega] at h
    exact h
  have ny : ∀ wx, Calls Try.prog 13 #[.agg #[.int .i64 1, .int .i64 0, .int .i64 4, .int .i64 68, .int .i64 132], .int .i64 0, .int .i64 3] wx (NewPoPost wx enP 3) := fun wx => by
    have h := NewPop_any enP 0 3 wx
    rw [hh] at h
    exact h
  have ka := fun wx (hx : HTab wx) => awake_any wx hx
  have HT : Hid (HTab w) := hT
  generalize new9 133 512 false = s0 at *
  clear hT hh
  unfold Pl5.v enP at kR
  go_enter Try.func6, Try.ntmps6
  go_wp2_with fail
  refine (kR _).mono ?_
  rintro e w1 ⟨rfl, hb1⟩
  go_wp2_with fail
  refine (kN _ (tab_new HT.out hb1)).mono ?_
  rintro e w2 ⟨B, rfl, hA2, hb2, hlB⟩
  have hW2 : Wk B w w2 s0 w1.heap.size enP := Wk.begin hb1 hA2 hb2 hlB
  clear hA2 hb2 hlB hb1 kR kN
  generalize w1.heap.size = g at *
  have HR0 : Hid (TgR B w g (.slice none 0 0) 0 0 w2) := ⟨s0, [], .nil hW2, HP0.out.1, HP0.out.2, Nat.le_refl _⟩
  clear hW2 HP0
  go_wp2_with fail
  go_loopw [6, 7, 8, 9] (fun lv tv nv iv wr => ∃ i nx tg : Nat, i ≤ 60 ∧ i ≤ len ∧ nx ≤ 60 ∧ tg ≤ i ∧ iv = .int .i64 i ∧ tv = .int .i64 tg ∧ nv = .int .i64 nx ∧ TgR B w g lv nx tg wr) (fun _ _ _ iv _ => 60 - (intOf iv).toNat)
  case atStart => exact ⟨0, 0, 0, by omega, by omega, by omega, by omega, rfl, rfl, rfl, HR0.out⟩
  case round =>
    obtain ⟨i, nx, tg, hi, hil, hnx, htg, rfl, rfl, rfl, s, xs, hTg, hP, hbad, hxn⟩ := hrel
    clear HR0
    obtain ⟨wq, rfl⟩ : ∃ W, W = wr := ⟨wr, rfl⟩
    by_cases hlt : i < len ∧ i < 60
    · obtain ⟨hlt, hlt60⟩ := hlt
      obtain ⟨b, o, x, rfl, hc⟩ := hN.low hTg.wk.low i hlt
      have HN : Hid (BAt w (some ⟨b, o, none⟩) len) := hN
      have hli : (i : Int) < (len : Int) := by omega
      have hli6 : (i : Int) < 60 := by omega
      clear hN
      go_upto_region 10 with fail
      go_cut [38] (fun cv wx => cv = .bool (x && decide (nx < 60)) ∧ wx = wq)
      case first =>
        cases x with
        | false =>
          go_wp2_with fail
          go_meet
          exact ⟨rfl, rfl⟩
        | true =>
          by_cases h60 : nx < 60
          · have hi : (nx : Int) < 60 := by omega
            have hd : decide (nx < 60) = true := by simpa using h60
            go_wp2_with fail
            go_meet
            exact ⟨by rw [hd]; rfl, rfl⟩
          · have hi : ¬ (nx : Int) < 60 := by omega
            have hi2 : decide ((nx : Int) < 60) = false := by simpa using hi
            have hd : decide (nx < 60) = false := by simpa using h60
            go_wp2_with fail
            go_meet
            exact ⟨by rw [hd]; rfl, rfl⟩
      case rest =>
        obtain ⟨rfl, rfl⟩ := hcut
        obtain ⟨c, hcd⟩ : ∃ c, c = (x && decide (nx < 60)) := ⟨_, rfl⟩
        rw [← hcd]
        have HC : Hid (c = true → nx < 60) := fun h => by rw [hcd] at h; simp at h; exact h.2
        clear hcd hc
        have HTab : Hid (∀ j, isTab j → j < w.heap.size) := tab_lt HT.out
        obtain ⟨wq, rfl⟩ : ∃ W, W = wc := ⟨wc, rfl⟩
        go_upto_if 38 with fail
        go_cut [6, 7, 8] (fun lv tv nv wx => ∃ nx' tg' : Nat, nx' ≤ 60 ∧ tg' ≤ i + 1 ∧ tv = .int .i64 tg' ∧ nv = .int .i64 nx' ∧ TgR B w g lv nx' tg' wx)
        case first =>
          obtain ⟨hd, lk, ls, hL, hl3, hlo, htag, hxb, -⟩ := hP
          cases c with
          | true =>
            have h60 := HC.out rfl
            obtain ⟨c0, c1, c2, c3, c4⟩ := en_pl hTg.wk.pl
            have kn := nx' nx h60 wq
            have HL : Hid (Lst 4 64 s hd lk ls tg ∧ ls 3 = xs.reverse ∧ (∀ j, j ≠ 3 → ls j = []) ∧ tagF (hd 3) = tg ∧ (∀ b ∈ xs, b < nx) ∧ s.bad = false ∧ xs.length ≤ nx) := ⟨hL, hl3, hlo, htag, hxb, hbad, hxn⟩
            have HTg : Hid (Tg B w wq s g enP u6 xs) := hTg
            clear hL hl3 hlo htag hxb hbad hxn hTg nx' ny
            go_wp2_with fail
            refine kn.mono ?_
            rintro e w3 ⟨q, rfl, hq3, hb3, lq⟩
            have hT3 := HTg.out.below hb3
            have kp := doPushW (K := 4) (M := 64) (k := 3) (b := nx) hT3.wk HL.out.1 ⟨rfl, rfl⟩ (fun hb => by have := HTg.out.wk.ar.lt hb; omega) (noT_new (HTg.out.hT HT.out) lq) (by have := HTg.out.wk.low.size; omega) (by have := HTg.out.wk.glt; omega) (by omega) (by omega) (fun j _ h => by
              by_cases e : j = 3
              · subst e
                rw [HL.out.2.1] at h
                have := HL.out.2.2.2.2.1 _ (List.mem_reverse.1 h)
                omega
              · rw [HL.out.2.2.1 j e] at h
                simp at h) (by omega) hq3
            have hfar := HTg.out.far lq
            clear kn c0 c1 c2 c3 c4 hq3
            go_wp2_with fail
            refine kp.mono ?_
            rintro e w4 ⟨rfl, s4, -, hW4, hB4, hL4, hF4, -⟩
            have hT4 := hT3.step hW4 hF4 hfar
            have HL4 : Hid (TgP s4 (xs ++ [nx]) (nx + 1) (tg + 1) ∧ s4.bad = false ∧ (xs ++ [nx]).length ≤ nx + 1) := by
              refine ⟨⟨_, _, _, hL4, ?_, ?_, ?_, ?_, by omega⟩, hB4.trans HL.out.2.2.2.2.2.1, by have := HL.out.2.2.2.2.2.2; simp; omega⟩
              · rw [upLs_same, HL.out.2.1]
                simp
              · intro j hj
                rw [upLs_other _ _ hj]
                exact HL.out.2.2.1 j hj
              · rw [upH_same, tag_mk (by omega) (by omega), HL.out.2.2.2.1]
                omega
              · intro b hb
                rcases List.mem_append.1 hb with h | h
                · have := HL.out.2.2.2.2.1 b h
                  omega
                · simp at h
                  omega
            have hxl : xs.length ≤ 1000 := by have := HL.out.2.2.2.2.2.2; omega
            clear kp hT3 hW4 hB4 hL4 hF4 hfar
            go_wp2_with (refine list_appT rfl _ _ rfl (hT4.below ((Below.refl _ _).alloc (Nat.le_refl _) _)) HTab.out rfl rfl (src_one _ _) hxl ?_; intro v5 w5 hT5)
            go_meet
            exact ⟨nx + 1, tg + 1, by omega, by omega, by go_num, by go_num, s4, _, hT5, HL4.out.1, HL4.out.2.1, HL4.out.2.2⟩
          | false =>
            clear HC
            obtain ⟨c0, c1, c2, c3, c4⟩ := en_pl hTg.wk.pl
            have kn := ny wq
            have HL : Hid (Lst 4 64 s hd lk ls tg ∧ ls 3 = xs.reverse ∧ (∀ j, j ≠ 3 → ls j = []) ∧ tagF (hd 3) = tg ∧ (∀ b ∈ xs, b < nx) ∧ s.bad = false ∧ xs.length ≤ nx) := ⟨hL, hl3, hlo, htag, hxb, hbad, hxn⟩
            have HTg : Hid (Tg B w wq s g enP u6 xs) := hTg
            clear hL hl3 hlo htag hxb hbad hxn hTg nx' ny
            go_wp2_with fail
            refine kn.mono ?_
            rintro e w3 ⟨q, rfl, hq3, hb3, lq⟩
            have hT3 := HTg.out.below hb3
            have hfar := HTg.out.far lq
            have hn1 : ¬ B.has q := fun hb => by have := HTg.out.wk.ar.lt hb; omega
            have hn2 := noT_new (HTg.out.hT HT.out) lq
            have hn3 : w.heap.size ≤ q := by have := HTg.out.wk.low.size; omega
            have hn4 : g ≠ q := by have := HTg.out.wk.glt; omega
            clear kn c0 c1 c2 c3 c4 lq hb3
            rcases List.eq_nil_or_concat xs with hx | ⟨ys, b, hx⟩
            · have kp := doPop0W (K := 4) (M := 64) (k := 3) hT3.wk HL.out.1 hn1 hn2 hn3 hn4 (by omega) (by rw [HL.out.2.1, hx]; rfl) hq3
              have ho := hT3.ow
              rw [hx] at ho
              obtain ⟨la, lc, rfl⟩ := own_any ho
              clear hq3 ho
              go_wp2_with fail
              refine kp.mono ?_
              rintro e w4 ⟨rfl, s4, t4, -, hW4, hB4, hL4, hF4, -⟩
              have hT4 := hT3.step hW4 hF4 hfar
              have HL4 : Hid (TgP s4 xs nx tg ∧ s4.bad = false ∧ xs.length ≤ nx) := ⟨⟨_, _, _, hL4, HL.out.2.1, HL.out.2.2.1, HL.out.2.2.2.1, HL.out.2.2.2.2.1, hnx⟩, hB4.trans HL.out.2.2.2.2.2.1, HL.out.2.2.2.2.2.2⟩
              clear kp hT3 hW4 hB4 hL4 hF4 hfar hx
              simp only
              go_wp2_with fail
              go_meet
              exact ⟨nx, tg, by omega, by omega, rfl, rfl, s4, _, hT4, HL4.out.1, HL4.out.2.1, HL4.out.2.2⟩
            · rw [List.concat_eq_append] at hx
              have kp := doPopW (K := 4) (M := 64) (k := 3) (b := b) (r := ys.reverse) hT3.wk HL.out.1 ⟨rfl, rfl⟩ hn1 hn2 hn3 hn4 (by omega) (by rw [HL.out.2.1, hx]; simp) (by omega) hq3
              obtain ⟨n, hn⟩ : ∃ n, ys.length = n := ⟨_, rfl⟩
              have hxl : xs.length = n + 1 := by rw [hx]; simp [hn]
              have ho := hT3.ow
              rw [hxl] at ho
              obtain ⟨r, cp, rfl, hcp, hcm⟩ := own_form ho (by omega)
              have hyt : xs.take n = ys := by rw [hx, ← hn]; simp
              have HX : Hid (xs = ys ++ [b] ∧ xs.length = n + 1 ∧ xs.take n = ys) := ⟨hx, hxl, hyt⟩
              have hn0 : 0 < ((n + 1 : Nat) : Int) := by omega
              have hni : ((n + 1 : Nat) : Int) - 1 = (n : Int) := by omega
              unfold maxLen at hcm
              clear hq3 ho hx hxl hyt hn
              go_wp2_with fail
              refine kp.mono ?_
              rintro e w4 ⟨rfl, s4, t4, -, hW4, hB4, hL4, hF4, -⟩
              have hT4 := hT3.step hW4 hF4 hfar
              have hT5 := hT4.shrink HX.out.2.1
              rw [HX.out.2.2] at hT5
              have HL4 : Hid (TgP s4 ys nx (tg + 1) ∧ s4.bad = false ∧ ys.length ≤ nx) := by
                have hbd := (HL.out.1.L 3 (by omega))
                have hb64 : b < 64 := hbd.lt b (by rw [HL.out.2.1, HX.out.1]; simp)
                have hlb := hbd.lb b hb64
                refine ⟨⟨_, _, _, hL4, upLs_same _ _ _, fun j hj => ?_, ?_, fun c hc => HL.out.2.2.2.2.1 c (by rw [HX.out.1]; exact List.mem_append_left _ hc), hnx⟩, hB4.trans HL.out.2.2.2.2.2.1, ?_⟩
                · rw [upLs_other _ _ hj]
                  exact HL.out.2.2.1 j hj
                · rw [upH_same, tag_mk (by omega) (by omega), HL.out.2.2.2.1]
                  omega
                · have h1 := HL.out.2.2.2.2.2.2
                  rw [HX.out.1] at h1
                  simp at h1
                  omega
              clear kp hT3 hT4 hW4 hB4 hL4 hF4 hfar
              go_wp2_with fail
              go_meet
              exact ⟨nx, tg + 1, by omega, by omega, by go_num, by go_num, s4, _, hT5, HL4.out.1, HL4.out.2.1, HL4.out.2.2⟩
        case rest =>
          obtain ⟨nx2, tg2, hnx2, htg2, rfl, rfl, s2, ys, hT2, hP2, hbad2, hyn⟩ := hcut
          clear hTg hP hbad hxn HC
          obtain ⟨hd, lk, ls, hL, hl3, hlo, htag, hyb, -⟩ := hP2
          have kr := A9.Raw_any hT2.wk.ar 3
          have e3 : A9.rawA s2 3 = (useA s2, hd 3) := rawA_head (k := 3) hL.toRwL (by omega)
          rw [e3] at kr
          have hhd : hd 3 = (tg2 : Int) * 131072 + nxt ys.reverse := by
            have := mk_parts (hd 3)
            rw [htag, (hL.L 3 (by omega)).head, hl3] at this
            unfold mkF at this
            omega
          rw [hhd] at kr
          obtain ⟨n, hn⟩ : ∃ n, ys.length = n := ⟨_, rfl⟩
          have ho := hT2.ow
          rw [hn] at ho
          obtain ⟨wq2, rfl⟩ : ∃ W, W = wc := ⟨wc, rfl⟩
          obtain ⟨la, lc, rfl⟩ := own_any ho
          have HT2 : Hid (Tg B w wq2 s2 g enP (.slice la n lc) ys) := hT2
          have HL2 : Hid (Lst 4 64 s2 hd lk ls tg2 ∧ ls 3 = ys.reverse ∧ (∀ j, j ≠ 3 → ls j = []) ∧ tagF (hd 3) = tg2 ∧ (∀ b ∈ ys, b < nx2) ∧ s2.bad = false ∧ ys.length ≤ nx2 ∧ ys.length = n) := ⟨hL, hl3, hlo, htag, hyb, hbad2, hyn, hn⟩
          obtain ⟨H3, hH3⟩ : ∃ H, Hid (H = (tg2 : Int) * 131072 + nxt ys.reverse) := ⟨_, rfl⟩
          rw [← hH3.out] at kr
          obtain ⟨c0, c1, c2, c3, c4⟩ := en_pl hT2.wk.pl
          clear hT2 hL hl3 hlo htag hyb hbad2 hyn hn e3 hhd
          have HO : Hid (wq2.ownsRow w.heap.size 3 1 (.slice la n lc) n (intsV (basesF ys))) := ho
          clear ho
          go_upto_if 81 with fail
          go_cut [11] (fun v wx => v = .int .i64 H3 ∧ wx = wq2)
          case first =>
            clear kr c0 c1 c2 c3 c4
            rcases List.eq_nil_or_concat ys with hx | ⟨zs, b, hx⟩
            · have hn0 : n = 0 := by have := HL2.out.2.2.2.2.2.2.2; rw [hx] at this; exact this.symm
              have hH : H3 = (tg2 : Int) * 131072 := by have := hH3.out; rw [hx] at this; simpa [nxt] using this
              subst hn0
              go_wp2_with fail
              go_meet
              exact ⟨by rw [hH], rfl⟩
            · rw [List.concat_eq_append] at hx
              have hH : H3 = (tg2 : Int) * 131072 + (b : Int) + 1 := by have := hH3.out; rw [hx, List.reverse_append] at this; simp [nxt] at this; omega
              obtain ⟨m, hm⟩ : ∃ m, zs.length = m := ⟨_, rfl⟩
              have hnm : n = m + 1 := by have := HL2.out.2.2.2.2.2.2.2; rw [hx] at this; simp [hm] at this; omega
              have ho := HO.out
              have hbn : (b : Int) < 64 := by have := HL2.out.2.2.2.2.1 b (by rw [hx]; simp); omega
              have hm60 : (m : Int) ≤ 60 := by have := HL2.out.2.2.2.2.2.2.1; have := HL2.out.2.2.2.2.2.2.2; omega
              have hb0 : 0 ≤ (b : Int) := by omega
              clear HO
              subst hnm
              obtain ⟨r, cp, e, hcp, hcm⟩ := own_form ho (by omega)
              cases e
              have cb : wq2.cell? ⟨r, m, none⟩ = some (.int .i64 (8 * (b : Int))) := own_cell ho (by rw [hx]; simp [basesF, hm])
              have hm0 : 0 < ((m + 1 : Nat) : Int) := by omega
              have hni : ((m + 1 : Nat) : Int) - 1 = (m : Int) := by omega
              have hmi : (m : Int) < ((m + 1 : Nat) : Int) := by omega
              clear ho hx hm HT2 HL2 hH3
              go_wp2_with fail
              go_meet
              exact ⟨by rw [hH], rfl⟩
          case rest =>
            obtain ⟨rfl, rfl⟩ := hcut
            obtain ⟨wq2, rfl⟩ : ∃ W, W = wc := ⟨wc, rfl⟩
            go_wp2_with fail
            refine kr.mono ?_
            rintro e w6 ⟨rfl, hA6, hF6⟩
            have HT6 : Hid (Tg B w w6 (usedA s2 (wrap64 (s2.uses + 1))) g enP (.slice la n lc) ys) := HT2.out.arena hA6 hF6
            clear kr c0 c1 c2 c3 c4 hA6 hF6 HO
            go_wp2_with fail
            go_loopw [12] (fun kv wr => ∃ (k : Nat) (u : Int), 1 ≤ k ∧ k ≤ 1 + n ∧ kv = .int .i64 k ∧ Tg B w wr (usedA s2 u) g enP (.slice la n lc) ys) (fun kv _ => n - (intOf kv).toNat)
            case atStart => exact ⟨1, _, by omega, by omega, rfl, HT6.out⟩
            case round =>
              obtain ⟨k, u, hk1, hk2, rfl, hT⟩ := hrel
              clear HT6
              by_cases hkn : k < n
              · have hn := HL2.out.2.2.2.2.2.2.2
                have ho := hT.ow
                rw [hn] at ho
                obtain ⟨r, cp, e, hcp, hcm⟩ := own_form ho (by omega)
                cases e
                obtain ⟨m, rfl⟩ : ∃ m, k = m + 1 := ⟨k - 1, by omega⟩
                have hy : m < ys.length := by omega
                have hz : m + 1 < ys.length := by omega
                have cy : wr.cell? ⟨r, m, none⟩ = some (.int .i64 (8 * (ys[m] : Int))) := own_cell ho (by simp [basesF, hy])
                have cz : wr.cell? ⟨r, m + 1, none⟩ = some (.int .i64 (8 * (ys[m + 1] : Int))) := own_cell ho (by simp [basesF, hz])
                have hch := (HL2.out.1.L 3 (by omega)).chain
                rw [HL2.out.2.1] at hch
                have hlk := rev_link hch hz
                have hy60 := HL2.out.2.2.2.2.1 _ (List.getElem_mem hy)
                have hz60 := HL2.out.2.2.2.2.1 _ (List.getElem_mem hz)
                have kr : ∀ wx, ArAt B wx (usedA s2 u) → Calls Try.prog 21 #[ptrA B, .int .i64 (4 + (ys[m + 1] : Int))] wx (A9.Left9 B wx (.int .i64 ((ys[m] : Int) + 1)) (usedA s2 (wrap64 (u + 1)))) := fun wx hx => by
                  have kr := A9.Raw_any hx (linkF enP ((ys[m + 1] : Int) + 1))
                  rw [rawA_link (s := usedA s2 u) (HL2.out.1.used u).toRwL ⟨rfl, rfl⟩ (by omega), linkF_eq (K := 4) ⟨rfl, rfl⟩ (by omega) (by omega) (by omega), hlk, show ((4 : Nat) : Int) + ((ys[m + 1] : Int) + 1) - 1 = 4 + (ys[m + 1] : Int) by omega] at kr
                  exact kr
                have HTr : Hid (Tg B w wr (usedA s2 u) g enP (.slice (some ⟨r, 0, none⟩) n lc) ys) := hT
                obtain ⟨c0, c1, c2, c3, c4⟩ := en_pl hT.wk.pl
                generalize hyy : ys[m] = y at *
                generalize hzz : ys[m + 1] = z at *
                have hy0 : (0 : Int) ≤ y := by omega
                have hy1 : (y : Int) < 60 := by omega
                have hz0 : (0 : Int) ≤ z := by omega
                have hz1 : (z : Int) < 60 := by omega
                have hkn1 : ((m + 1 : Nat) : Int) < (n : Int) := by omega
                have hm0 : ((m + 1 : Nat) : Int) - 1 = (m : Int) := by omega
                have hmn : (m : Int) < (n : Int) := by omega
                have hkn3 : (m : Int) + 1 < (n : Int) := by omega
                have hkn4 : (0 : Int) ≤ (m : Int) + 1 := by omega
                have hnn : (n : Int) ≤ 60 := by have := HL2.out.2.2.2.2.2.2.1; omega
                have hw5 : IntKind.i64.wrap (m : Int) = m := by rw [IntKind.wrap_i64]; omega
                have hw1 : IntKind.i64.wrap (y : Int) = y := by rw [IntKind.wrap_i64]; omega
                have hw2 : IntKind.i64.wrap ((y : Int) + 1) = (y : Int) + 1 := by rw [IntKind.wrap_i64]; omega
                have hw3 : IntKind.i64.wrap (z : Int) = z := by rw [IntKind.wrap_i64]; omega
                have hw4 : IntKind.i64.wrap (4 + (z : Int)) = 4 + (z : Int) := by rw [IntKind.wrap_i64]; omega
                clear hT ho hch hlk hyy hzz hy hz hn
                obtain ⟨wr, rfl⟩ : ∃ W, W = wr := ⟨wr, rfl⟩
                go_upto_region 28 with fail
                go_region_held3 (fun w' => w'.cell? ⟨g, 2, none⟩ = some (.int .i64 4) ∧ w'.cell? ⟨r, m, none⟩ = some (.int .i64 (8 * (y : Int))) ∧ w'.cell? ⟨r, m + 1, none⟩ = some (.int .i64 (8 * (z : Int)))) (first | exact ⟨c2, cy, cz⟩ | exact ⟨d2, dy, dz⟩) (first
                  | (go_at_call 21; refine (kr _ (by first | exact HTr.out.wk.ar | exact HTr.out.wk.ar.drew)).mono ?_; rintro e w7 ⟨rfl, hA7, hF7⟩; have hF7' : FrA B wr w7 := (by first | exact hF7 | exact (FrA.refl B wr).drew.trans hF7); have d2 := (hF7'.cell (f := 2) HTr.out.wk.glt HTr.out.wk.gB).trans c2; have dy := (hF7'.cell (f := m) (block_lt_of_cell cy) (HTr.out.nb r rfl).1).trans cy; have dz := (hF7'.cell (f := m + 1) (block_lt_of_cell cz) (HTr.out.nb r rfl).1).trans cz))
                all_goals
                  have hT7 := HTr.out.arena hA7 hF7'
                  clear d2 dy dz hA7 hF7 hF7' kr HTr c0 c1 c2 c3 c4 cy cz
                  go_wp2_with fail
                  go_roundw
                  case rel => exact ⟨m + 2, _, by omega, by omega, by go_num, hT7⟩
                  case measure => simp [intOf]; omega
              · have hkn2 : ¬ (k : Int) < (n : Int) := by omega
                have HR : Hid (TgR B w g (.slice la n lc) nx2 tg2 wr) := ⟨_, ys, hT, ⟨hd, lk, ls, HL2.out.1.used u, HL2.out.2.1, HL2.out.2.2.1, HL2.out.2.2.2.1, HL2.out.2.2.2.2.1, hnx2⟩, HL2.out.2.2.2.2.2.1, HL2.out.2.2.2.2.2.2.1⟩
                clear hT HL2
                obtain ⟨wr, rfl⟩ : ∃ W, W = wr := ⟨wr, rfl⟩
                go_wp2_with fail
                go_roundw
                case rel => exact ⟨i + 1, nx2, tg2, by omega, by omega, hnx2, htg2, by go_num, rfl, rfl, HR.out⟩
                case measure => simp [intOf]; omega
    · have HE : Hid (Below w.heap.size w wq ∧ HTab wq) := ⟨hTg.wk.low, hTg.hT HT.out⟩
      have kf := A9.Fault_any hTg.wk.ar
      rw [hbad] at kf
      clear hTg hP
      by_cases h1 : i < len
      · have h1i : (i : Int) < (len : Int) := by omega
        have h2i : ¬ (i : Int) < 60 := by omega
        have h2d : decide ((i : Int) < 60) = false := by simpa using h2i
        go_wp2_with fail
        refine kf.mono ?_
        rintro e wq ⟨rfl, rfl⟩
        go_wp2_with fail
        refine (ka _ HE.out.2).mono ?_
        rintro e w4 ⟨rfl, hb4⟩
        go_wp2_with fail
        go_ret
        exact ⟨rfl, below_then HE.out.1 hb4⟩
      · have h1i : ¬ (i : Int) < (len : Int) := by omega
        have h1d : decide ((i : Int) < (len : Int)) = false := by simpa using h1i
        go_wp2_with fail
        refine kf.mono ?_
        rintro e wq ⟨rfl, rfl⟩
        go_wp2_with fail
        refine (ka _ HE.out.2).mono ?_
        rintro e w4 ⟨rfl, hb4⟩
        go_wp2_with fail
        go_ret
        exact ⟨rfl, below_then HE.out.1 hb4⟩
end Go.Proofs.Ytfljoedjnigfjaa
