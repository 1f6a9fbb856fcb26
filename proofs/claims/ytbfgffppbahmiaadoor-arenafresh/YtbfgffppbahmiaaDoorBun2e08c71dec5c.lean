/-
  Helpers: ArH, ArJ, ArK.
-/
import Derived.Test.YtbfgffppbahmiaaDoorBun52fb0ca5dcb5
namespace Go.Proofs.YtbfgffppbahmiaaDoor
open Go.RowKit
open H8 (okP packV opB isH sizeF HTab below_then placeI placeI_bd place_any)

def like (s : Ar) (m : Nat → Int) (u : Int) : Ar := { s with mem := m, uses := u }
theorem atW_nat (h : Int) (j : Nat) : atW h j = bN h + j := by unfold atW; omega
theorem load_like {s : Ar} {h : Int} {j : Nat} {m : Nat → Int} {u : Int} (hi : inW s h j) : loadA (like s m u) h j = (like s m (wrap64 (u + 1)), m (bN h + j)) := by
  rw [load_in (show inW (like s m u) h j from hi), atW_nat]
  rfl
theorem store_like {s : Ar} {h : Int} {j : Nat} {m : Nat → Int} {u : Int} (v : Int) (hi : inW s h j) : storeA (like s m u) h j v = like s (upN m (bN h + j) v) (wrap64 (u + 1)) := by
  rw [store_in (show inW (like s m u) h j from hi), atW_nat]
  rfl
theorem add_like {s : Ar} {h : Int} {j : Nat} {m : Nat → Int} {u : Int} (v : Int) (hi : inW s h j) : addA (like s m u) h j v = (like s (upN m (bN h + j) (wrap64 (m (bN h + j) + v))) (wrap64 (u + 1)), m (bN h + j)) := by
  unfold addA
  rw [if_pos (show inW (like s m u) h j from hi), atW_nat]
  rfl
theorem swap_like {s : Ar} {h : Int} {j : Nat} {m : Nat → Int} {u : Int} {o : Int} (v : Int) (hi : inW s h j) (ho : m (bN h + j) = o) : swapA (like s m u) h j o v = (like s (upN m (bN h + j) v) (wrap64 (u + 1)), true) := by
  unfold swapA
  rw [if_pos (show inW (like s m u) h j from hi), atW_nat]
  rw [if_pos (show (like s m u).mem (bN h + j) = o from ho)]
  rfl
/-- two arenas, and a row beside them -/
structure Tw (A B : Ab) (q n : Nat) (T : TypeId) (W w : World) (sa sb : Ar) (g : Nat → Value) : Prop where
  a : ArAt A w sa
  b : ArAt B w sb
  row : w.rowIs q T n g
  low : Below W.heap.size W w
/-- .. of what blocks -/
structure TwB (A B : Ab) (q : Nat) (W : World) : Prop where
  ab : ∀ k, A.has k → ¬ B.has k
  la : ∀ k, A.has k → W.heap.size ≤ k
  lb : ∀ k, B.has k → W.heap.size ≤ k
  qa : ¬ A.has q
  qb : ¬ B.has q
  lq : W.heap.size ≤ q
  tab : 1 < W.heap.size ∧ 0 < W.heap.size
section
variable {A B : Ab} {q n : Nat} {T : TypeId} {W w w' : World} {sa sb : Ar} {g : Nat → Value}
theorem Tw.onA (h : Tw A B q n T W w sa sb g) (hB : TwB A B q W) {sa' : Ar} (hA : ArAt A w' sa') (hF : FrA A w w') : Tw A B q n T W w' sa' sb g :=
  ⟨hA, h.b.frame hF (fun k hk hh => hB.ab k hh hk) (fun hh => by have := hB.la _ hh; have := hB.tab.1; omega) (fun hh => by have := hB.la _ hh; have := hB.tab.2; omega), h.row.of_block (hF.block q h.row.lt hB.qa), step_low h.low hF hB.la⟩
theorem Tw.onB (h : Tw A B q n T W w sa sb g) (hB : TwB A B q W) {sb' : Ar} (hA : ArAt B w' sb') (hF : FrA B w w') : Tw A B q n T W w' sa sb' g :=
  ⟨h.a.frame hF hB.ab (fun hh => by have := hB.lb _ hh; have := hB.tab.1; omega) (fun hh => by have := hB.lb _ hh; have := hB.tab.2; omega), hA, h.row.of_block (hF.block q h.row.lt hB.qb), step_low h.low hF hB.lb⟩
theorem Tw.below (h : Tw A B q n T W w sa sb g) (hb : Below w.heap.size w w') : Tw A B q n T W w' sa sb g := ⟨h.a.below hb, h.b.below hb, h.row.of_block (hb.block q h.row.lt), below_then h.low hb⟩
theorem Tw.set (h : Tw A B q n T W w sa sb g) (hB : TwB A B q W) (j : Nat) (v : Value) : Tw A B q n T W (w.setCell ⟨q, j, none⟩ v) sa sb fun k => if k = j then v else g k :=
  ⟨h.a.setOther hB.qa (by have := hB.lq; have := hB.tab.1; omega) (by have := hB.lq; have := hB.tab.2; omega) _ _, h.b.setOther hB.qb (by have := hB.lq; have := hB.tab.1; omega) (by have := hB.lq; have := hB.tab.2; omega) _ _, h.row.set j v, h.low.setCell (p := ⟨q, j, none⟩) hB.lq v⟩
theorem Tw.congr (h : Tw A B q n T W w sa sb g) {g' : Nat → Value} (e : ∀ i, i < n → g i = g' i) : Tw A B q n T W w sa sb g' := ⟨h.a, h.b, h.row.congr e, h.low⟩
end
end Go.Proofs.YtbfgffppbahmiaaDoor
namespace Go.Proofs.YtbfgffppbahmiaaDoor
open Go.RowKit
open H8 (okP packV opB isH sizeF HTab below_then placeI placeI_bd place_any)

/-- nothing is alive; the gens of the sixteen bases -/
structure Idle (s : Ar) (g : Nat → Nat) : Prop where
  st : ∀ h, s.st h = 0
  tak : ∀ p, s.tak p = false
  gen : ∀ k, k < 16 → s.gen ((8 * k : Nat) : Int) = g k
  nw : s.nw = 128
  bad : s.bad = false
def nmF (k e : Nat) : Int := packV ((8 * k : Nat) : Int) e 0
def upG (g : Nat → Nat) (k : Nat) : Nat → Nat := fun j => if j = k then g k + 1 else g j
theorem nm_ok {k e : Nat} (hk : k < 16) (he : 1 ≤ e) (he2 : e ≤ 60) : okP ((8 * k : Nat) : Int) e 0 := ⟨by omega, by omega, by omega, by omega, by omega, by omega⟩
theorem nm_at {k e : Nat} (hk : k < 16) (he : 1 ≤ e) (he2 : e ≤ 60) : isH (nmF k e) ∧ bN (nmF k e) = 8 * k ∧ zN (nmF k e) = 8 ∧ opB (nmF k e) = e := by
  have ho := nm_ok hk he he2
  refine ⟨isH_pack ho, ?_, ?_, opB_pack ho⟩
  · have := bN_pack ho
    unfold nmF
    rw [this]
    omega
  · exact zN_pack ho
section
variable {s : Ar} {g : Nat → Nat} {k : Nat}
theorem Idle.born (h : Idle s g) (hk : k < 16) (hg : g k < 60) : bornA s (nmF k (g k + 1)) = (bornS s (nmF k (g k + 1)), true) := by
  obtain ⟨h1, h2, h3, h4⟩ := nm_at hk (show 1 ≤ g k + 1 by omega) (by omega)
  refine okB_of h1 (by rw [h2, h3, h.nw]; omega) ?_ fun p _ => h.tak p
  rw [h2, h4, h.gen k hk]
  omega
theorem fresh_in (hk : k < 16) (hg : g k < 60) (j : Nat) (hj : j < 8) : inW (bornS s (nmF k (g k + 1))) (nmF k (g k + 1)) j := by
  obtain ⟨-, -, h3, -⟩ := nm_at hk (show 1 ≤ g k + 1 by omega) (by omega)
  exact ⟨by rw [born_st]; decide, by omega, by rw [h3]; omega⟩
def endF (s : Ar) (h : Int) (m : Nat → Int) (u : Int) : Ar := diedS (retireS (like (bornS s h) m u) h) h
theorem Idle.round (h : Idle s g) (hk : k < 16) (hg : g k < 60) (m : Nat → Int) (u u' : Int) : Idle (diedS (like (retireS (like (bornS s (nmF k (g k + 1))) m u) (nmF k (g k + 1))) m u') (nmF k (g k + 1))) (upG g k) := by
  obtain ⟨h1, h2, h3, h4⟩ := nm_at hk (show 1 ≤ g k + 1 by omega) (by omega)
  generalize nmF k (g k + 1) = H at *
  refine ⟨fun j => ?_, fun p => ?_, fun l hl => ?_, h.nw, h.bad⟩
  · show upI (upI (upI s.st H 1) H 2) H 0 j = 0
    by_cases e : j = H
    · rw [e, upI_same]
    · rw [upI_other _ _ e, upI_other _ _ e, upI_other _ _ e]
      exact h.st j
  · show (if inS H p then false else if inS H p then true else s.tak p) = false
    by_cases e : inS H p
    · rw [if_pos e]
    · rw [if_neg e, if_neg e]
      exact h.tak p
  · show upI s.gen (bN H) (opB H) ((8 * l : Nat) : Int) = (upG g k l : Nat)
    unfold upG
    rw [h2, h4]
    by_cases e : l = k
    · subst e
      rw [upI_same, if_pos rfl]
    · rw [upI_other _ _ (by omega), if_neg e]
      exact h.gen l hl
theorem words_next {m : Nat → Int} {b j : Nat} {v : Int} (h : ∀ l, l < j → m (b + l) = v + l) : ∀ l, l < j + 1 → upN m (b + j) (v + j) (b + l) = v + l := fun l hl => by
  by_cases e : l = j
  · rw [e, upN_same]
  · rw [upN_other _ _ (by omega)]
    exact h l (by omega)
theorem words_turn {m : Nat → Int} {b j : Nat} {v i x : Int} (h : ∀ l, l < 8 → m (b + l) = if l < j then i else v + l) : ∀ l, l < 8 → upN (upN m (b + j) x) (b + j) i (b + l) = if l < j + 1 then i else v + l := fun l hl => by
  by_cases e : l = j
  · rw [e, upN_same, if_pos (by omega)]
  · rw [upN_other _ _ (by omega), upN_other _ _ (by omega), h l hl]
    by_cases e2 : l < j
    · rw [if_pos e2, if_pos (by omega)]
    · rw [if_neg e2, if_neg (by omega)]
end
end Go.Proofs.YtbfgffppbahmiaaDoor
namespace Go.Proofs.YtbfgffppbahmiaaDoor
open Go.RowKit
open H8 (okP packV opB isH sizeF HTab below_then placeI placeI_bd place_any)

def valN (g : Nat → Nat) : Nat → Value := fun j => .int .i64 (g j)
theorem valN_up (g : Nat → Nat) (k : Nat) : (fun j => if j = k then Value.int .i64 ((g k + 1 : Nat) : Int) else valN g j) = valN (upG g k) := by
  funext j
  unfold valN upG
  by_cases e : j = k
  · rw [if_pos e, if_pos e]
  · rw [if_neg e, if_neg e]
theorem retire_like {s : Ar} {H : Int} {m : Nat → Int} {u : Int} (h : s.st H = 1) : retireA (like s m u) H = (retireS (like s m u) H, true) := retire_of h
set_option maxHeartbeats 8000000 in
set_option maxRecDepth 8000 in
theorem fresh_walk (ad : Option Addr) (len cap : Nat) (hl : len ≤ 9223372036854775807) (w : World) (hN : NAt w ad len) (hT : HTab w) : Calls Tryd.prog 7 #[.slice ad len cap] w fun e w' => e = .returned (.bool true) ∧ Below w.heap.size w w' := by
  have Pv := fun z wx => place_any z 1048576 wx (by omega) (by omega)
  have h0 := New_any 0 128 false w hT
  have h1 := fun wx hx => New_any 0 128 true wx hx
  have hI0 : Idle (new9 0 128 false) fun _ => 0 := ⟨fun _ => rfl, fun _ => rfl, fun _ _ => rfl, rfl, rfl⟩
  have hI1 : Idle (new9 0 128 true) fun _ => 0 := ⟨fun _ => rfl, fun _ => rfl, fun _ _ => rfl, rfl, rfl⟩
  have hW : (new9 0 128 false).was = (new9 0 128 true).was ∧ (new9 0 128 false).cC = (new9 0 128 true).cC := ⟨rfl, rfl⟩
  generalize new9 0 128 false = a0 at *
  generalize new9 0 128 true = b0 at *
  have HI : Hid (Idle a0 (fun _ => 0) ∧ Idle b0 (fun _ => 0) ∧ a0.was = b0.was ∧ a0.cC = b0.cC) := ⟨hI0, hI1, hW⟩
  have HT : Hid (HTab w) := hT
  clear hT hI0 hI1 hW
  go_enter Tryd.func7, Tryd.ntmps7
  go_wp2_with fail
  refine h0.mono ?_
  rintro e w1 ⟨A, rfl, hA, hb, hla⟩
  go_wp2_with fail
  refine (h1 w1 hA.tab).mono ?_
  rintro e w2 ⟨B, rfl, hB, hb2, hlb⟩
  go_wp2_with fail
  have hp := (HT.out).pos
  have hBT : TwB A B w2.heap.size w := ⟨fun k hk hh => by have := hA.lt hk; have := hlb k hh; omega, hla, fun k hk => by have := hlb k hk; have := hb.size; omega, fun hh => by have := hA.lt hh; have := hb2.size; omega, fun hh => by have := hB.lt hh; omega, by have := hb.size; have := hb2.size; omega, ⟨hp.1, hp.2⟩⟩
  have HTw : Hid (Tw A B w2.heap.size 16 45 w (w2.alloc (.cells (Array.replicate 16 (.int .i64 0)) 45 (0, 0))) a0 b0 (valN fun _ => 0)) := ⟨(hA.below hb2).alloc _, hB.alloc _, row_new w2 _ 16 _ _ rfl, (below_then hb hb2).alloc (below_then hb hb2).size _⟩
  have HBT : Hid (TwB A B w2.heap.size w) := hBT
  clear hBT hA hB hb hb2 hla hlb h0 h1 hp
  go_loopw [6] (fun iv wr => ∃ (i : Nat) (g : Nat → Nat) (sa sb : Ar), i ≤ 60 ∧ i ≤ len ∧ iv = .int .i64 i ∧ Tw A B w2.heap.size 16 45 w wr sa sb (valN g) ∧ Idle sa g ∧ Idle sb g ∧ sa.was = sb.was ∧ sa.cC = sb.cC ∧ ∀ k, g k ≤ i) (fun iv _ => 60 - (intOf iv).toNat)
  case atStart => exact ⟨0, _, _, _, by omega, by omega, rfl, HTw.out, HI.out.1, HI.out.2.1, HI.out.2.2.1, HI.out.2.2.2, fun _ => by omega⟩
  case round =>
    obtain ⟨i, g, sa, sb, hi, hil, rfl, hTw, hIa, hIb, hwas, hcC, hgi⟩ := hrel
    clear HTw HI
    generalize w2.heap.size = q at *
    obtain ⟨wq, rfl⟩ : ∃ W, W = wr := ⟨wr, rfl⟩
    by_cases hlt : i < len ∧ i < 60
    · obtain ⟨hlt, hlt60⟩ := hlt
      obtain ⟨b, o, z, rfl, hc⟩ := hN.low hTw.low i hlt
      have HN : Hid (NAt w (some ⟨b, o, none⟩) len) := hN
      have hli : (i : Int) < (len : Int) := by omega
      have hli6 : (i : Int) < 60 := by omega
      obtain ⟨v1, v2⟩ := placeI_bd z 1048576 (by omega)
      have Pz := fun wx => Pv z wx
      generalize placeI z 1048576 = v at *
      obtain ⟨k, hk⟩ : ∃ k : Nat, v % 16 = k := ⟨(v % 16).toNat, by omega⟩
      have hk16 : k < 16 := by omega
      have hki : (k : Int) < 16 := by omega
      have hgk := hgi k
      have cq : wq.cell? ⟨q, k, none⟩ = some (.int .i64 (g k)) := hTw.row.cell hk16
      have fq : wq.frozen? ⟨q, k, none⟩ = false := hTw.row.frozen _
      have hgb : (g k : Int) + 1 ≤ 60 := by omega
      have hT1 := hTw.set HBT.out k (.int .i64 ((g k + 1 : Nat) : Int))
      rw [valN_up] at hT1
      rw [show ((g k + 1 : Nat) : Int) = (g k : Int) + 1 by omega] at hT1
      have hP : ∀ wx, HTab wx → Calls Tryd.prog 13 #[.int .i64 (8 * (k : Int)), .int .i64 ((g k : Int) + 1), .int .i64 0] wx fun e w' => e = .returned (.int .i64 (nmF k (g k + 1))) ∧ Below wx.heap.size wx w' := fun wx hx => by
        have := H8.Pack_ok (nm_ok hk16 (show 1 ≤ g k + 1 by omega) (by omega)) wx hx
        rw [show ((8 * k : Nat) : Int) = 8 * (k : Int) by omega, show ((g k + 1 : Nat) : Int) = (g k : Int) + 1 by omega] at this
        exact this
      have HT1 : Hid (Tw A B q 16 45 w (wq.setCell ⟨q, k, none⟩ (.int .i64 ((g k : Int) + 1))) sa sb (valN (upG g k))) := hT1
      have hPk := hP _ hT1.a.tab
      have HG : Hid (Idle sa g ∧ Idle sb g ∧ sa.was = sb.was ∧ sa.cC = sb.cC ∧ ∀ k, g k ≤ i) := ⟨hIa, hIb, hwas, hcC, hgi⟩
      clear hN hTw hIa hIb hwas hcC hgi hT1 hP Pv
      go_wp2_with fail
      refine (Pz _).mono ?_
      rintro e w3 ⟨rfl, rfl⟩
      go_wp2_with fail
      refine hPk.mono ?_
      rintro e w4 ⟨rfl, hb4⟩
      have hT4 := HT1.out.below hb4
      have kA := Born_any hT4.a (nmF k (g k + 1))
      rw [HG.out.1.born hk16 (by omega)] at kA
      clear cq fq hPk HT1 hb4
      go_wp2_with fail
      refine kA.mono ?_
      rintro e w5 ⟨rfl, hA5, hF5⟩
      have hT5 := hT4.onA HBT.out hA5 hF5
      have kB := Born_any hT5.b (nmF k (g k + 1))
      rw [HG.out.2.1.born hk16 (by omega)] at kB
      clear hA5 hF5 kA hT4
      go_wp2_with fail
      refine kB.mono ?_
      rintro e w6 ⟨rfl, hB6, hF6⟩
      have hT6 := hT5.onB HBT.out hB6 hF6
      have hin := fresh_in (s := sa) (g := g) hk16 (by omega)
      have hin2 := fresh_in (s := sb) (g := g) hk16 (by omega)
      have hst : (bornS sa (nmF k (g k + 1))).st (nmF k (g k + 1)) = 1 := born_st _ _
      have hst2 : (bornS sb (nmF k (g k + 1))).st (nmF k (g k + 1)) = 1 := born_st _ _
      have HI : Hid (∀ m u u', Idle (diedS (like (retireS (like (bornS sa (nmF k (g k + 1))) m u) (nmF k (g k + 1))) m u') (nmF k (g k + 1))) (upG g k)) := HG.out.1.round hk16 (by omega)
      have HI2 : Hid (∀ m u u', Idle (diedS (like (retireS (like (bornS sb (nmF k (g k + 1))) m u) (nmF k (g k + 1))) m u') (nmF k (g k + 1))) (upG g k)) := HG.out.2.1.round hk16 (by omega)
      have HW : Hid ((bornS sa (nmF k (g k + 1))).was = (bornS sb (nmF k (g k + 1))).was ∧ (bornS sa (nmF k (g k + 1))).cC = (bornS sb (nmF k (g k + 1))).cC) := by
        refine ⟨?_, ?_⟩
        · simp only [bornS, HG.out.2.2.1]
        · simp only [bornS, HG.out.2.2.1, HG.out.2.2.2.1]
      have HGi : Hid (∀ l, upG g k l ≤ i + 1) := fun l => by
        unfold upG
        have h1 := HG.out.2.2.2.2 l
        have h2 := HG.out.2.2.2.2 k
        split <;> omega
      have HS : Hid (∃ ma ua mb ub, Tw A B q 16 45 w w6 (like (bornS sa (nmF k (g k + 1))) ma ua) (like (bornS sb (nmF k (g k + 1))) mb ub) (valN (upG g k))) := ⟨_, _, _, _, hT6⟩
      clear hB6 hF6 kB hT5 hT6 HG hgb hgk
      generalize bornS sa (nmF k (g k + 1)) = s1 at *
      generalize bornS sb (nmF k (g k + 1)) = s2 at *
      generalize hH : nmF k (g k + 1) = H at *
      generalize upG g k = g2 at *
      clear hH
      go_wp2_with fail
      go_loopw [10] (fun jv wr => ∃ (j : Nat) (ma : Nat → Int) (ua : Int) (mb : Nat → Int) (ub : Int), j ≤ 8 ∧ jv = .int .i64 j ∧ Tw A B q 16 45 w wr (like s1 ma ua) (like s2 mb ub) (valN g2) ∧ (∀ l, l < j → ma (bN H + l) = v + l) ∧ ∀ l, l < j → mb (bN H + l) = v + l) (fun jv _ => 8 - (intOf jv).toNat)
      case atStart =>
        obtain ⟨ma, ua, mb, ub, h⟩ := HS.out
        exact ⟨0, ma, ua, mb, ub, by omega, rfl, h, fun l hl => by omega, fun l hl => by omega⟩
      case round =>
        obtain ⟨j, ma, ua, mb, ub, hj, rfl, hT, hma, hmb⟩ := hrel
        clear HS
        obtain ⟨wj, rfl⟩ : ∃ W, W = wr := ⟨wr, rfl⟩
        by_cases hj8 : j < 8
        · have hj8i : (j : Int) < 8 := by omega
          have kA := Store_any hT.a H j (v + j)
          rw [store_like _ (hin j hj8)] at kA
          have hvj : v + (j : Int) ≤ 2000000 := by omega
          have HA : Hid (∀ l, l < j + 1 → upN ma (bN H + j) (v + j) (bN H + l) = v + l) := words_next hma
          have HB : Hid (∀ l, l < j + 1 → upN mb (bN H + j) (v + j) (bN H + l) = v + l) := words_next hmb
          clear hma hmb
          go_wp2_with fail
          refine kA.mono ?_
          rintro e w7 ⟨rfl, hA7, hF7⟩
          have hT7 := hT.onA HBT.out hA7 hF7
          have kB := Store_any hT7.b H j (v + j)
          rw [store_like _ (hin2 j hj8)] at kB
          clear hA7 hF7 kA hT
          go_wp2_with fail
          refine kB.mono ?_
          rintro e w8 ⟨rfl, hB8, hF8⟩
          have hT8 := hT7.onB HBT.out hB8 hF8
          clear hB8 hF8 kB hT7
          go_wp2_with fail
          go_roundw
          case rel => exact ⟨j + 1, _, _, _, _, by omega, by go_num, hT8, HA.out, HB.out⟩
          case measure => simp [intOf]; omega
        · have hj0 : j = 8 := by omega
          subst hj0
          have HS : Hid (∃ ma ua mb ub, Tw A B q 16 45 w wj (like s1 ma ua) (like s2 mb ub) (valN g2) ∧ (∀ l, l < 8 → ma (bN H + l) = if l < 0 then (i : Int) else v + l) ∧ ∀ l, l < 8 → mb (bN H + l) = if l < 0 then (i : Int) else v + l) := ⟨ma, ua, mb, ub, hT, fun l hl => by rw [if_neg (by omega)]; exact hma l hl, fun l hl => by rw [if_neg (by omega)]; exact hmb l hl⟩
          clear hT hma hmb hj hj8
          rw [show ((8 : Nat) : Int) = 8 from rfl]
          go_wp2_with fail
          go_loopw [11] (fun jv wr => ∃ (j : Nat) (ma : Nat → Int) (ua : Int) (mb : Nat → Int) (ub : Int), j ≤ 8 ∧ jv = .int .i64 j ∧ Tw A B q 16 45 w wr (like s1 ma ua) (like s2 mb ub) (valN g2) ∧ (∀ l, l < 8 → ma (bN H + l) = if l < j then (i : Int) else v + l) ∧ ∀ l, l < 8 → mb (bN H + l) = if l < j then (i : Int) else v + l) (fun jv _ => 8 - (intOf jv).toNat)
          case atStart =>
            obtain ⟨ma, ua, mb, ub, h1, h2, h3⟩ := HS.out
            exact ⟨0, ma, ua, mb, ub, by omega, rfl, h1, h2, h3⟩
          case round =>
            obtain ⟨j, ma, ua, mb, ub, hj, rfl, hT, hma, hmb⟩ := hrel
            clear HS
            obtain ⟨wj, rfl⟩ : ∃ W, W = wr := ⟨wr, rfl⟩
            by_cases hj8 : j < 8
            · have hj8i : (j : Int) < 8 := by omega
              have hvj : v + (j : Int) ≤ 2000000 := by omega
              have ea : ma (bN H + j) = v + j := by rw [hma j hj8, if_neg (by omega)]
              have eb : mb (bN H + j) = v + j := by rw [hmb j hj8, if_neg (by omega)]
              have ew : wrap64 (v + j + 1) = v + j + 1 := wr64_id (by omega) (by omega)
              have HA : Hid (∀ l, l < 8 → upN (upN ma (bN H + j) (v + j + 1)) (bN H + j) i (bN H + l) = if l < j + 1 then (i : Int) else v + l) := words_turn hma
              have HB : Hid (∀ l, l < 8 → upN (upN mb (bN H + j) (v + j + 1)) (bN H + j) i (bN H + l) = if l < j + 1 then (i : Int) else v + l) := words_turn hmb
              have K1 : Hid (∀ wx u, ArAt A wx (like s1 ma u) → Calls Tryd.prog 17 #[ptrA A, .int .i64 H, .int .i64 j] wx (Left9 A wx (.int .i64 (v + j)) (like s1 ma (wrap64 (u + 1))))) := fun wx u hx => by
                have := Load_any hx H j
                rw [load_like (hin j hj8), ea] at this
                exact this
              have K2 : Hid (∀ wx u, ArAt B wx (like s2 mb u) → Calls Tryd.prog 17 #[ptrA B, .int .i64 H, .int .i64 j] wx (Left9 B wx (.int .i64 (v + j)) (like s2 mb (wrap64 (u + 1))))) := fun wx u hx => by
                have := Load_any hx H j
                rw [load_like (hin2 j hj8), eb] at this
                exact this
              have K3 : Hid (∀ wx u, ArAt A wx (like s1 ma u) → Calls Tryd.prog 21 #[ptrA A, .int .i64 H, .int .i64 j, .int .i64 1] wx (Left9 A wx (.int .i64 (v + j)) (like s1 (upN ma (bN H + j) (v + j + 1)) (wrap64 (u + 1))))) := fun wx u hx => by
                have := Add_any hx H j 1
                rw [add_like _ (hin j hj8), ea, ew] at this
                exact this
              have K4 : Hid (∀ wx u, ArAt B wx (like s2 mb u) → Calls Tryd.prog 21 #[ptrA B, .int .i64 H, .int .i64 j, .int .i64 1] wx (Left9 B wx (.int .i64 (v + j)) (like s2 (upN mb (bN H + j) (v + j + 1)) (wrap64 (u + 1))))) := fun wx u hx => by
                have := Add_any hx H j 1
                rw [add_like _ (hin2 j hj8), eb, ew] at this
                exact this
              have K5 : Hid (∀ wx u, ArAt A wx (like s1 (upN ma (bN H + j) (v + j + 1)) u) → Calls Tryd.prog 23 #[ptrA A, .int .i64 H, .int .i64 j, .int .i64 (v + j + 1), .int .i64 i] wx (Left9 A wx (.bool true) (like s1 (upN (upN ma (bN H + j) (v + j + 1)) (bN H + j) i) (wrap64 (u + 1))))) := fun wx u hx => by
                have := Swap_any hx H j (v + j + 1) i
                rw [swap_like _ (hin j hj8) (upN_same _ _ _)] at this
                exact this
              have K6 : Hid (∀ wx u, ArAt B wx (like s2 (upN mb (bN H + j) (v + j + 1)) u) → Calls Tryd.prog 23 #[ptrA B, .int .i64 H, .int .i64 j, .int .i64 (v + j + 1), .int .i64 i] wx (Left9 B wx (.bool true) (like s2 (upN (upN mb (bN H + j) (v + j + 1)) (bN H + j) i) (wrap64 (u + 1))))) := fun wx u hx => by
                have := Swap_any hx H j (v + j + 1) i
                rw [swap_like _ (hin2 j hj8) (upN_same _ _ _)] at this
                exact this
              have K7 : Hid (∀ wx u, ArAt A wx (like s1 (upN (upN ma (bN H + j) (v + j + 1)) (bN H + j) i) u) → Calls Tryd.prog 17 #[ptrA A, .int .i64 H, .int .i64 j] wx (Left9 A wx (.int .i64 i) (like s1 (upN (upN ma (bN H + j) (v + j + 1)) (bN H + j) i) (wrap64 (u + 1))))) := fun wx u hx => by
                have := Load_any hx H j
                rw [load_like (hin j hj8), upN_same] at this
                exact this
              clear hma hmb ea eb ew
              generalize upN (upN ma (bN H + j) (v + j + 1)) (bN H + j) i = na at *
              generalize upN (upN mb (bN H + j) (v + j + 1)) (bN H + j) i = nb at *
              generalize upN ma (bN H + j) (v + j + 1) = xa at *
              generalize upN mb (bN H + j) (v + j + 1) = xb at *
              go_wp2_with fail
              refine (K1.out _ _ hT.a).mono ?_
              rintro e w21 ⟨rfl, hA21, hF21⟩
              replace hT := hT.onA HBT.out hA21 hF21
              clear hA21 hF21
              go_wp2_with fail
              refine (K2.out _ _ hT.b).mono ?_
              rintro e w22 ⟨rfl, hA22, hF22⟩
              replace hT := hT.onB HBT.out hA22 hF22
              clear hA22 hF22
              go_wp2_with fail
              refine (K3.out _ _ hT.a).mono ?_
              rintro e w23 ⟨rfl, hA23, hF23⟩
              replace hT := hT.onA HBT.out hA23 hF23
              clear hA23 hF23
              go_wp2_with fail
              refine (K4.out _ _ hT.b).mono ?_
              rintro e w24 ⟨rfl, hA24, hF24⟩
              replace hT := hT.onB HBT.out hA24 hF24
              clear hA24 hF24
              go_wp2_with fail
              refine (K5.out _ _ hT.a).mono ?_
              rintro e w25 ⟨rfl, hA25, hF25⟩
              replace hT := hT.onA HBT.out hA25 hF25
              clear hA25 hF25
              go_wp2_with fail
              refine (K6.out _ _ hT.b).mono ?_
              rintro e w26 ⟨rfl, hA26, hF26⟩
              replace hT := hT.onB HBT.out hA26 hF26
              clear hA26 hF26
              go_wp2_with fail
              refine (K7.out _ _ hT.a).mono ?_
              rintro e w27 ⟨rfl, hA27, hF27⟩
              replace hT := hT.onA HBT.out hA27 hF27
              clear hA27 hF27
              go_wp2_with fail
              go_roundw
              case rel => exact ⟨j + 1, _, _, _, _, by omega, by go_num, hT, HA.out, HB.out⟩
              case measure => simp [intOf]; omega
            · have hj0 : j = 8 := by omega
              subst hj0
              have ea : ma (bN H + 3) = (i : Int) := by rw [hma 3 (by omega), if_pos (by omega)]
              have eb : mb (bN H + 3) = (i : Int) := by rw [hmb 3 (by omega), if_pos (by omega)]
              have K1 : Hid (∀ wx u, ArAt A wx (like s1 ma u) → Calls Tryd.prog 10 #[ptrA A, .int .i64 H] wx (Left9 A wx (.bool true) (retireS (like s1 ma u) H))) := fun wx u hx => by
                have := Retire_any hx H
                rw [retire_like hst] at this
                exact this
              have K2 : Hid (∀ wx u, ArAt B wx (like s2 mb u) → Calls Tryd.prog 10 #[ptrA B, .int .i64 H] wx (Left9 B wx (.bool true) (retireS (like s2 mb u) H))) := fun wx u hx => by
                have := Retire_any hx H
                rw [retire_like hst2] at this
                exact this
              have K3 : Hid (∀ wx u, ArAt A wx (retireS (like s1 ma u) H) → Calls Tryd.prog 17 #[ptrA A, .int .i64 H, .int .i64 3] wx (Left9 A wx (.int .i64 i) (like (retireS (like s1 ma u) H) ma (wrap64 (u + 1))))) := fun wx u hx => by
                have := Load_any hx H 3
                have hi3 : inW (retireS (like s1 ma u) H) H 3 := ⟨by rw [retire_st]; decide, by decide, (hin 3 (by omega)).2.2⟩
                rw [load_in hi3, show atW H 3 = bN H + 3 from rfl, show (retireS (like s1 ma u) H).mem (bN H + 3) = ma (bN H + 3) from rfl, ea] at this
                exact this
              have K4 : Hid (∀ wx u, ArAt B wx (retireS (like s2 mb u) H) → Calls Tryd.prog 17 #[ptrA B, .int .i64 H, .int .i64 3] wx (Left9 B wx (.int .i64 i) (like (retireS (like s2 mb u) H) mb (wrap64 (u + 1))))) := fun wx u hx => by
                have := Load_any hx H 3
                have hi3 : inW (retireS (like s2 mb u) H) H 3 := ⟨by rw [retire_st]; decide, by decide, (hin2 3 (by omega)).2.2⟩
                rw [load_in hi3, show atW H 3 = bN H + 3 from rfl, show (retireS (like s2 mb u) H).mem (bN H + 3) = mb (bN H + 3) from rfl, eb] at this
                exact this
              have K5 : Hid (∀ wx u u', ArAt A wx (like (retireS (like s1 ma u) H) ma u') → Calls Tryd.prog 11 #[ptrA A, .int .i64 H] wx (Left9 A wx (.bool true) (diedS (like (retireS (like s1 ma u) H) ma u') H))) := fun wx u u' hx => by
                have := Died_any hx H
                rw [died_of (show (like (retireS (like s1 ma u) H) ma u').st H = 2 from retire_st _ _)] at this
                exact this
              have K6 : Hid (∀ wx u u', ArAt B wx (like (retireS (like s2 mb u) H) mb u') → Calls Tryd.prog 11 #[ptrA B, .int .i64 H] wx (Left9 B wx (.bool true) (diedS (like (retireS (like s2 mb u) H) mb u') H))) := fun wx u u' hx => by
                have := Died_any hx H
                rw [died_of (show (like (retireS (like s2 mb u) H) mb u').st H = 2 from retire_st _ _)] at this
                exact this
              clear hma hmb ea eb hj hj8 hin hin2 hst hst2
              go_wp2_with fail
              refine (K1.out _ _ hT.a).mono ?_
              rintro e w21 ⟨rfl, hA21, hF21⟩
              replace hT := hT.onA HBT.out hA21 hF21
              clear hA21 hF21
              go_wp2_with fail
              refine (K2.out _ _ hT.b).mono ?_
              rintro e w22 ⟨rfl, hA22, hF22⟩
              replace hT := hT.onB HBT.out hA22 hF22
              clear hA22 hF22
              go_wp2_with fail
              refine (K3.out _ _ hT.a).mono ?_
              rintro e w23 ⟨rfl, hA23, hF23⟩
              replace hT := hT.onA HBT.out hA23 hF23
              clear hA23 hF23
              go_wp2_with fail
              refine (K4.out _ _ hT.b).mono ?_
              rintro e w24 ⟨rfl, hA24, hF24⟩
              replace hT := hT.onB HBT.out hA24 hF24
              clear hA24 hF24
              go_wp2_with fail
              refine (K5.out _ _ _ hT.a).mono ?_
              rintro e w25 ⟨rfl, hA25, hF25⟩
              replace hT := hT.onA HBT.out hA25 hF25
              clear hA25 hF25
              go_wp2_with fail
              refine (K6.out _ _ _ hT.b).mono ?_
              rintro e w26 ⟨rfl, hA26, hF26⟩
              replace hT := hT.onB HBT.out hA26 hF26
              clear hA26 hF26
              go_wp2_with fail
              go_roundw
              case rel => exact ⟨i + 1, g2, _, _, by omega, by omega, by go_num, hT, HI.out _ _ _, HI2.out _ _ _, HW.out.1, HW.out.2, HGi.out⟩
              case measure => simp [intOf]; omega
    · have kA := Fault_any hTw.a
      have kB := Fault_any hTw.b
      rw [hIa.bad] at kA
      rw [hIb.bad] at kB
      have HC : Hid (∀ wx, Below wq.heap.size wq wx → Tw A B q 16 45 w wx sa sb (valN g)) := fun wx h => hTw.below h
      have HX : Hid (sa.cC = sb.cC) := hcC
      have hcase : (¬ (i : Int) < (len : Int)) ∨ ((i : Int) < (len : Int) ∧ ¬ (i : Int) < 60) := by omega
      have hCA := Count_any hTw.a
      unfold cntV at hCA
      have hxx : ∀ (x0 x1 x2 x3 : Int) (wx : World), (Instr.field 43 (.agg #[.int .i64 x0, .int .i64 x1, .int .i64 x2, .int .i64 x3]) 0).run Tryd.prog wx = .ok (.int .i64 x0) wx := fun _ _ _ _ _ => by kernel_rfl
      clear hTw hIa hIb hwas hcC hgi hlt hi hil Pv hN
      rcases hcase with h1 | ⟨h1, h2⟩
      all_goals
        go_wp2_with fail
        refine kA.mono ?_
        rintro e w5 ⟨rfl, rfl⟩
        go_wp2_with fail
        refine kB.mono ?_
        rintro e w5 ⟨rfl, rfl⟩
        go_wp2_with fail
        refine hCA.mono ?_
        rintro e w6 ⟨rfl, hb6⟩
        have hT6 := HC.out w6 hb6
        have hCB := Count_any hT6.b
        unfold cntV at hCB
        rw [← HX.out] at hCB
        go_wp2_with fail
        refine hCB.mono ?_
        rintro e w7 ⟨rfl, hb7⟩
        have hT7 := hT6.below hb7
        go_wp2_with fail
        refine (awake_any _ hT7.a.tab).mono ?_
        rintro e w8 ⟨rfl, hb8⟩
        have hlow := (hT7.below hb8).low
        go_wp2_with fail
        go_ret
        exact ⟨rfl, hlow⟩
end Go.Proofs.YtbfgffppbahmiaaDoor
