/-
  Helpers: V5Vh12, V5Vc, V5Vk, V5Vn.
-/
import Derived.Test.YtpmapdialjdcbaaDoorBun065f87cb621d
import Derived.Test.YtpmapdialjdcbaaDoorBun8d468342a468
namespace Go.Proofs.YtpmapdialjdcbaaDoor.V5
open Go.RowKit
open C2 (In Pr SlF SlI InsAt Tab BoxedP below_alloc below_then still_of_below)
set_option maxHeartbeats 1000000 in
theorem holds_12 (p : Pr) (fa : Option Addr) (fc : Nat) (v : Value) (xs : List In) (w : World) (hI : SlI w v xs) (hl : xs.length ≤ 1000000) :
    Calls Tryd.prog 46 #[.agg #[.int .i64 12, .func (.func 47) #[] #[], .func (.func 49) #[] #[]], .agg #[.slice fa p.fs.length fc, .int .i64 p.futs, .int .i64 p.depth, .int .i64 p.fuel], v] w fun e w' => e = .returned (.bool (holdsB 12 In.b p.futs xs)) ∧ Below w.heap.size w w' := by
  have hb1 := below_alloc (below_alloc (Below.refl w.heap.size w) (.cells #[.int .i64 12, .func (.func 47) #[] #[], .func (.func 49) #[] #[]] 99)) (.cells #[.slice fa p.fs.length fc, .int .i64 p.futs, .int .i64 p.depth, .int .i64 p.fuel] 24)
  obtain ⟨b0, b1, b2⟩ := bound_box w (.int .i64 12) (.func (.func 47) #[] #[]) (.func (.func 49) #[] #[]) (.cells #[.slice fa p.fs.length fc, .int .i64 p.futs, .int .i64 p.depth, .int .i64 p.fuel] 24)
  have hp : ((w.alloc (.cells #[.int .i64 12, .func (.func 47) #[] #[], .func (.func 49) #[] #[]] 99)).alloc (.cells #[.slice fa p.fs.length fc, .int .i64 p.futs, .int .i64 p.depth, .int .i64 p.fuel] 24)).heap[w.heap.size + 1]? = some (.cells #[.slice fa p.fs.length fc, .int .i64 p.futs, .int .i64 p.depth, .int .i64 p.fuel] 24 (0, 0)) := by simpa using heap_alloc_new (w.alloc (.cells #[.int .i64 12, .func (.func 47) #[] #[], .func (.func 49) #[] #[]] 99)) (.cells #[.slice fa p.fs.length fc, .int .i64 p.futs, .int .i64 p.depth, .int .i64 p.fuel] 24)
  obtain ⟨q0, q1, q2, q3⟩ := prog_cells hp
  have hI1 := hI.still (still_of_below hb1)
  obtain ⟨ia, ic, rfl, hk⟩ := hI1
  clear hI hp
  go_enter Tryd.func46, Tryd.ntmps46
  go_wp2_with fail
  generalize hW0 : (w.alloc (.cells #[.int .i64 12, .func (.func 47) #[] #[], .func (.func 49) #[] #[]] 99)).alloc (.cells #[.slice fa p.fs.length fc, .int .i64 p.futs, .int .i64 p.depth, .int .i64 p.fuel] 24) = W0 at *
  clear hW0
  go_loopw [11] (fun iv wr => ∃ i : Nat, i ≤ xs.length ∧ iv = .int .i64 i ∧ (∀ k (h : k < xs.length), k < i → xs[k].o = 12 → xs[k].b < p.futs) ∧ Below W0.heap.size W0 wr) (fun iv _ => xs.length - (intOf iv).toNat)
  case atStart => exact ⟨0, by omega, rfl, fun k _ hk => by omega, Below.refl _ _⟩
  case round =>
    obtain ⟨i, hi, rfl, hk0, hB⟩ := hrel
    have HK : Hid (∀ k (h : k < xs.length), k < i → xs[k].o = 12 → xs[k].b < p.futs) := hk0
    clear hk0
    by_cases hlt : i < xs.length
    · obtain ⟨g, f, rfl, hA⟩ := hk i hlt
      have st := still_of_below hB
      obtain ⟨x0, x1, x2, x3⟩ := hA.still st
      have st1 := still_of_below (below_alloc hB (.cells #[.int .i64 xs[i].o, .int .i64 xs[i].a, .int .i64 xs[i].b, .int .i64 xs[i].c] 54))
      obtain ⟨y0, y1, y2, y3⟩ := ins_box wr xs[i]
      have d0 := st1 _ _ b0
      have d1 := st1 _ _ b1
      have d2 := st1 _ _ b2
      have r0 := st1 _ _ q0
      have r1 := st1 _ _ q1
      have r2 := st1 _ _ q2
      have r3 := st1 _ _ q3
      have hBa := below_alloc hB (.cells #[.int .i64 xs[i].o, .int .i64 xs[i].a, .int .i64 xs[i].b, .int .i64 xs[i].c] 54)
      clear st st1 hA
      by_cases ho : xs[i].o = 12
      · have ho2 : (xs[i].o == 12) = true := by simp [ho]
        have HO : Hid (xs[i].o = 12) := ho
        clear ho
        go_wp2_with fail
        generalize wr.alloc (.cells #[.int .i64 xs[i].o, .int .i64 xs[i].a, .int .i64 xs[i].b, .int .i64 xs[i].c] 54) = Wa at *
        by_cases hge : p.futs ≤ xs[i].b
        · have hge2 : decide (p.futs ≤ xs[i].b) = true := by simpa using hge
          have HG : Hid (p.futs ≤ xs[i].b) := hge
          clear hge
          go_region_held3 (fun w' => w'.cell? ⟨w.heap.size, 0, none⟩ = some (.int .i64 12) ∧ w'.cell? ⟨w.heap.size, 1, none⟩ = some (.func (.func 47) #[] #[]) ∧ w'.cell? ⟨w.heap.size, 2, none⟩ = some (.func (.func 49) #[] #[]) ∧ w'.cell? ⟨w.heap.size + 1, 0, none⟩ = some (.slice fa p.fs.length fc) ∧ w'.cell? ⟨w.heap.size + 1, 1, none⟩ = some (.int .i64 p.futs) ∧ w'.cell? ⟨w.heap.size + 1, 2, none⟩ = some (.int .i64 p.depth) ∧ w'.cell? ⟨w.heap.size + 1, 3, none⟩ = some (.int .i64 p.fuel) ∧ w'.cell? ⟨wr.heap.size, 0, none⟩ = some (.int .i64 xs[i].o) ∧ w'.cell? ⟨wr.heap.size, 1, none⟩ = some (.int .i64 xs[i].a) ∧ w'.cell? ⟨wr.heap.size, 2, none⟩ = some (.int .i64 xs[i].b) ∧ w'.cell? ⟨wr.heap.size, 3, none⟩ = some (.int .i64 xs[i].c)) (first | exact ⟨d0, d1, d2, r0, r1, r2, r3, y0, y1, y2, y3⟩ | exact ⟨d05, d15, d25, r05, r15, r25, r35, y05, y15, y25, y35⟩ | exact ⟨d06, d16, d26, r06, r16, r26, r36, y06, y16, y26, y36⟩) (first | (go_at_call 47; refine (operandB_any xs[i] _).mono ?_; rintro e w5 ⟨rfl, hb5⟩; have hX5 : Below Wa.heap.size Wa w5 := (by first | exact below_then (Below.refl _ _).drew hb5 | exact below_then hX6 hb5); have d05 := still_of_below hX5 _ _ d0; have d15 := still_of_below hX5 _ _ d1; have d25 := still_of_below hX5 _ _ d2; have r05 := still_of_below hX5 _ _ r0; have r15 := still_of_below hX5 _ _ r1; have r25 := still_of_below hX5 _ _ r2; have r35 := still_of_below hX5 _ _ r3; have y05 := still_of_below hX5 _ _ y0; have y15 := still_of_below hX5 _ _ y1; have y25 := still_of_below hX5 _ _ y2; have y35 := still_of_below hX5 _ _ y3) | (go_at_call 49; refine (futures_any _ _ _ _ _ _).mono ?_; rintro e w6 ⟨rfl, hb6⟩; have hX6 : Below Wa.heap.size Wa w6 := (by first | exact below_then (Below.refl _ _).drew hb6 | exact below_then hX5 hb6); have d06 := still_of_below hX6 _ _ d0; have d16 := still_of_below hX6 _ _ d1; have d26 := still_of_below hX6 _ _ d2; have r06 := still_of_below hX6 _ _ r0; have r16 := still_of_below hX6 _ _ r1; have r26 := still_of_below hX6 _ _ r2; have r36 := still_of_below hX6 _ _ r3; have y06 := still_of_below hX6 _ _ y0; have y16 := still_of_below hX6 _ _ y1; have y26 := still_of_below hX6 _ _ y2; have y36 := still_of_below hX6 _ _ y3))
          all_goals
            go_wp2_with fail
            go_ret
            exact ⟨by rw [holds_not hlt HO.out HG.out]; rfl, below_then hb1 (below_then hBa (by assumption))⟩
        · have hge2 : decide (p.futs ≤ xs[i].b) = false := by simpa using hge
          have HG : Hid (¬ p.futs ≤ xs[i].b) := hge
          clear hge
          go_region_held3 (fun w' => w'.cell? ⟨w.heap.size, 0, none⟩ = some (.int .i64 12) ∧ w'.cell? ⟨w.heap.size, 1, none⟩ = some (.func (.func 47) #[] #[]) ∧ w'.cell? ⟨w.heap.size, 2, none⟩ = some (.func (.func 49) #[] #[]) ∧ w'.cell? ⟨w.heap.size + 1, 0, none⟩ = some (.slice fa p.fs.length fc) ∧ w'.cell? ⟨w.heap.size + 1, 1, none⟩ = some (.int .i64 p.futs) ∧ w'.cell? ⟨w.heap.size + 1, 2, none⟩ = some (.int .i64 p.depth) ∧ w'.cell? ⟨w.heap.size + 1, 3, none⟩ = some (.int .i64 p.fuel) ∧ w'.cell? ⟨wr.heap.size, 0, none⟩ = some (.int .i64 xs[i].o) ∧ w'.cell? ⟨wr.heap.size, 1, none⟩ = some (.int .i64 xs[i].a) ∧ w'.cell? ⟨wr.heap.size, 2, none⟩ = some (.int .i64 xs[i].b) ∧ w'.cell? ⟨wr.heap.size, 3, none⟩ = some (.int .i64 xs[i].c)) (first | exact ⟨d0, d1, d2, r0, r1, r2, r3, y0, y1, y2, y3⟩ | exact ⟨d05, d15, d25, r05, r15, r25, r35, y05, y15, y25, y35⟩ | exact ⟨d06, d16, d26, r06, r16, r26, r36, y06, y16, y26, y36⟩) (first | (go_at_call 47; refine (operandB_any xs[i] _).mono ?_; rintro e w5 ⟨rfl, hb5⟩; have hX5 : Below Wa.heap.size Wa w5 := (by first | exact below_then (Below.refl _ _).drew hb5 | exact below_then hX6 hb5); have d05 := still_of_below hX5 _ _ d0; have d15 := still_of_below hX5 _ _ d1; have d25 := still_of_below hX5 _ _ d2; have r05 := still_of_below hX5 _ _ r0; have r15 := still_of_below hX5 _ _ r1; have r25 := still_of_below hX5 _ _ r2; have r35 := still_of_below hX5 _ _ r3; have y05 := still_of_below hX5 _ _ y0; have y15 := still_of_below hX5 _ _ y1; have y25 := still_of_below hX5 _ _ y2; have y35 := still_of_below hX5 _ _ y3) | (go_at_call 49; refine (futures_any _ _ _ _ _ _).mono ?_; rintro e w6 ⟨rfl, hb6⟩; have hX6 : Below Wa.heap.size Wa w6 := (by first | exact below_then (Below.refl _ _).drew hb6 | exact below_then hX5 hb6); have d06 := still_of_below hX6 _ _ d0; have d16 := still_of_below hX6 _ _ d1; have d26 := still_of_below hX6 _ _ d2; have r06 := still_of_below hX6 _ _ r0; have r16 := still_of_below hX6 _ _ r1; have r26 := still_of_below hX6 _ _ r2; have r36 := still_of_below hX6 _ _ r3; have y06 := still_of_below hX6 _ _ y0; have y16 := still_of_below hX6 _ _ y1; have y26 := still_of_below hX6 _ _ y2; have y36 := still_of_below hX6 _ _ y3))
          all_goals
            go_wp2_with fail
            go_roundw
            case rel =>
              refine ⟨i + 1, by omega, by go_num, fun k h hk => ?_, below_then hBa (by assumption)⟩
              by_cases e : k = i
              · subst e; exact fun _ => (by have := HG.out; omega)
              · exact HK.out k h (by omega)
            case measure => simp [intOf]; omega
      · have ho2 : (xs[i].o == 12) = false := by simp [ho]
        have HO : Hid (¬ xs[i].o = 12) := ho
        clear ho
        go_wp2_with fail
        go_region
        all_goals
          go_wp2_with fail
          go_roundw
          case rel =>
            refine ⟨i + 1, by omega, by go_num, fun k h hk => ?_, hBa.drew⟩
            by_cases e : k = i
            · subst e; exact fun hh => absurd hh HO.out
            · exact HK.out k h (by omega)
          case measure => simp [intOf]; omega
    · go_wp2_with fail
      go_ret
      refine ⟨?_, below_then hb1 hB⟩
      rw [holds_all fun k hk => HK.out k hk (by omega)]
      rfl
end Go.Proofs.YtpmapdialjdcbaaDoor.V5
namespace Go.Proofs.YtpmapdialjdcbaaDoor.V5
open Go.RowKit
open C2 (In Pr SlF SlI InsAt Tab BoxedP below_alloc below_then still_of_below putE)

def bnd (op : Int) (f g : Nat) : Value := .func (.func 46) #[.agg #[.int .i64 op, .func (.func f) #[] #[], .func (.func g) #[] #[]]] #[]
def checksV : Array Value := #[.func (.func 42) #[] #[], .func (.func 43) #[] #[], bnd 7 44 45, bnd 8 47 45, bnd 9 47 48, bnd 11 44 49, bnd 12 47 49]
def ChecksPost (w : World) (e : Ending) (w' : World) : Prop := ∃ g, e = .returned (.slice (some ⟨g, 0, none⟩) 7 7) ∧ w'.heap[g]? = some (.cells checksV 78 (0, 0)) ∧ Below w.heap.size w w'
theorem checks_any (w : World) : Calls Tryd.prog 30 #[] w fun e w' => ChecksPost w e w' := by
  have hmf : ∀ (fn : Fn) (first cap : Array Value) (w : World), (Instr.makeFunc fn first cap).run Tryd.prog w = .ok (.func fn first cap) w := fun _ _ _ _ => rfl
  go_enter Tryd.func30, Tryd.ntmps30
  go_wp2_with fail
  go_ret
  exact ⟨_, rfl, heap_alloc_new _ _, below_alloc (Below.refl _ _) _⟩
theorem check_bad {p : Pr} {i : Nat} (h0 : putE p = 0) (h : i < p.fs.length) {k : Nat} (hk : k < 7) (hc : chkB p.fs.length p.futs p.fs[i] k = false) : checkF p = 5 := by
  have hn : fnB p.fs.length p.futs p.fs[i] = false := by
    rw [Bool.eq_false_iff]
    intro hh
    have := fn_iff.1 hh k hk
    rw [hc] at this
    simp at this
  unfold checkF
  rw [if_pos h0, if_neg]
  rintro ⟨-, ha⟩
  have := List.all_eq_true.1 ha _ (List.getElem_mem h)
  rw [hn] at this
  simp at this
theorem check_good {p : Pr} (h0 : putE p = 0) (h1 : 0 < p.fs.length) (h : ∀ i (hi : i < p.fs.length), ∀ k, k < 7 → chkB p.fs.length p.futs p.fs[i] k = true) : checkF p = 0 := by
  unfold checkF
  rw [if_pos h0, if_pos]
  refine ⟨h1, List.all_eq_true.2 fun f hf => ?_⟩
  obtain ⟨i, hi, rfl⟩ := List.getElem_of_mem hf
  exact fn_iff.2 (h i hi)
theorem check_none {p : Pr} (h0 : putE p = 0) (h1 : p.fs.length = 0) : checkF p = 5 := by
  unfold checkF
  rw [if_pos h0, if_neg]
  omega
theorem check_put {p : Pr} (h0 : ¬ putE p = 0) : checkF p = putE p := by
  unfold checkF
  rw [if_neg h0]
end Go.Proofs.YtpmapdialjdcbaaDoor.V5
namespace Go.Proofs.YtpmapdialjdcbaaDoor.V5
open Go.RowKit
open C2 (In Pr SlF SlI InsAt Tab BoxedP below_alloc below_then still_of_below putE)

theorem chk_cases {nf futs : Int} {f : List In} : chkB nf futs f 0 = decide (0 < f.length) ∧ chkB nf futs f 1 = endB f ∧ chkB nf futs f 2 = holdsB 7 In.a f.length f ∧ chkB nf futs f 3 = holdsB 8 In.b f.length f ∧ chkB nf futs f 4 = holdsB 9 In.b nf f ∧ chkB nf futs f 5 = holdsB 11 In.a futs f ∧ chkB nf futs f 6 = holdsB 12 In.b futs f := ⟨rfl, rfl, rfl, rfl, rfl, rfl, rfl⟩
set_option maxHeartbeats 2000000 in
theorem Check_any (p : Pr) (fv : Value) (w : World) (hT : Tab w) (hF : SlF w fv p.fs) (hn : p.fs.length ≤ 1000000) (hm : ∀ f ∈ p.fs, f.length ≤ 1000000) :
    Calls Tryd.prog 21 #[.agg #[fv, .int .i64 p.futs, .int .i64 p.depth, .int .i64 p.fuel]] w fun e w' => e = .returned (.int .i64 (checkF p)) ∧ Below w.heap.size w w' := by
  have hF0 := hF
  obtain ⟨fa, fc, rfl, -⟩ := hF0
  have hB := BoxedP.made hF
  have hb := below_alloc (Below.refl w.heap.size w) (.cells #[.slice fa p.fs.length fc, .int .i64 p.futs, .int .i64 p.depth, .int .i64 p.fuel] 24)
  clear hF
  go_enter Tryd.func21, Tryd.ntmps21
  obtain ⟨c0, c1, c2, c3⟩ := hB.cells
  go_wp2_with fail
  refine (C2.Put_any p _ _ (hT.below hb) hB.fns hn hm).mono ?_
  rintro e w1 ⟨rfl, hb1'⟩
  have hB1 := hB.kept hb1'
  have hb1 := below_then hb hb1'
  clear hb1' hB c0 c1 c2 c3 hb
  generalize C2.strB (C2.putT p) = T
  rcases C2.putE_cases p with he | he | he
  case inr.inl =>
    have hf : Hid (checkF p = 1) := (check_put (p := p) (by omega)).trans he
    rw [he]
    go_wp2_with fail
    go_ret
    exact ⟨by rw [hf.out]; rfl, hb1⟩
  case inr.inr =>
    have hf : Hid (checkF p = 2) := (check_put (p := p) (by omega)).trans he
    rw [he]
    go_wp2_with fail
    go_ret
    exact ⟨by rw [hf.out]; rfl, hb1⟩
  rw [he]
  have HE : Hid (putE p = 0) := he
  clear he
  obtain ⟨c0, c1, c2, c3⟩ := hB1.cells
  by_cases h0 : p.fs.length = 0
  · have hf : Hid (checkF p = 5) := check_none HE.out h0
    have h00 : ((p.fs.length : Int) == 0) = true := by simp [h0]
    clear h0
    go_wp2_with fail
    go_ret
    exact ⟨by rw [hf.out]; rfl, hb1⟩
  have h00 : ((p.fs.length : Int) == 0) = false := by simpa using h0
  have H0 : Hid (0 < p.fs.length) := (show 0 < p.fs.length by omega)
  clear h0
  go_wp2_with fail
  refine (checks_any _).mono ?_
  rintro e w2 ⟨G, rfl, hG, hb2'⟩
  have hB2 := hB1.kept hb2'
  have hb2 := below_then hb1 hb2'
  clear hb2' hB1 c0 c1 c2 c3 hb1
  obtain ⟨c0, c1, c2, c3⟩ := hB2.cells
  go_wp2_with fail
  go_loopw [26] (fun iv wr => ∃ i : Nat, i ≤ p.fs.length ∧ iv = .int .i64 i ∧ (∀ j (h : j < p.fs.length), j < i → ∀ k, k < 7 → chkB p.fs.length p.futs p.fs[j] k = true) ∧ Below w2.heap.size w2 wr) (fun iv _ => p.fs.length - (intOf iv).toNat)
  case atStart => exact ⟨0, by omega, rfl, fun j _ h => by omega, Below.refl _ _⟩
  case round =>
    obtain ⟨i, hi, rfl, hj, hBl⟩ := hrel
    have HJ : Hid (∀ j (h : j < p.fs.length), j < i → ∀ k, k < 7 → chkB p.fs.length p.futs p.fs[j] k = true) := hj
    clear hj
    have hB3 := hB2.kept hBl
    have hG3 := (hBl.block _ (lt_of_block hG)).trans hG
    by_cases hlt : i < p.fs.length
    · obtain ⟨fa', fc', he, hfx⟩ := hB3.fns
      obtain ⟨rfl, rfl⟩ : fa' = fa ∧ fc' = fc := by simp at he; exact ⟨he.1.symm, he.2.symm⟩
      clear he
      obtain ⟨g, f, u, rfl, hc, hI⟩ := hfx i hlt
      have hI0 := hI
      obtain ⟨xa, xc, rfl, -⟩ := hI0
      have hmi := hm _ (List.getElem_mem hlt)
      clear hfx
      obtain ⟨W, rfl⟩ : ∃ W, W = wr := ⟨wr, rfl⟩
      generalize hX : p.fs[i] = X at *
      have HX : Hid (p.fs[i] = X) := hX
      clear hX
      go_wp2_with fail
      go_loopw [32] (fun kv wr => ∃ k : Nat, k ≤ 7 ∧ kv = .int .i64 k ∧ (∀ m, m < k → chkB p.fs.length p.futs X m = true) ∧ Below W.heap.size W wr) (fun kv _ => 7 - (intOf kv).toNat)
      case atStart => exact ⟨0, by omega, rfl, fun m h => by omega, Below.refl _ _⟩
      case round =>
        obtain ⟨k, hk, rfl, hm', hBi⟩ := hrel
        have HM : Hid (∀ m, m < k → chkB p.fs.length p.futs X m = true) := hm'
        clear hm'
        have hB4 := hB3.kept hBi
        have hG4 := (hBi.block _ (lt_of_block hG3)).trans hG3
        have hI4 := hI.still (still_of_below hBi)
        obtain ⟨d0, d1, d2, d3⟩ := hB4.cells
        have hbe := below_then hb2 (below_then hBl hBi)
        have bad : ∀ b : Bool, k < 7 → chkB p.fs.length p.futs X k = b → b = false → Hid (checkF p = 5) := fun b h1 h2 h3 => check_bad HE.out hlt h1 (by rw [HX.out, h2, h3])
        have next : ∀ b : Bool, chkB p.fs.length p.futs X k = b → b = true → Hid (∀ m, m < k + 1 → chkB p.fs.length p.futs X m = true) := fun b h2 h3 m hm => by
          by_cases e : m = k
          · subst e; rw [h2, h3]
          · exact HM.out m (by omega)
        have HBAD : Hid (∀ b : Bool, k < 7 → chkB p.fs.length p.futs X k = b → b = false → Hid (checkF p = 5)) := bad
        have HNEXT : Hid (∀ b : Bool, chkB p.fs.length p.futs X k = b → b = true → Hid (∀ m, m < k + 1 → chkB p.fs.length p.futs X m = true)) := next
        clear bad next
        obtain ⟨q0, q1, q2, q3, q4, q5, q6⟩ := chk_cases (nf := p.fs.length) (futs := p.futs) (f := X)
        have v := cell_of_row _ _ k _ _ _ hG4
        rcases (by omega : k = 7 ∨ k = 0 ∨ k = 1 ∨ k = 2 ∨ k = 3 ∨ k = 4 ∨ k = 5 ∨ k = 6) with rfl | rfl | rfl | rfl | rfl | rfl | rfl | rfl
        · clear v q0 q1 q2 q3 q4 q5 q6
          go_wp2_with fail
          go_roundw
          case rel =>
            refine ⟨i + 1, by omega, by go_num, fun j h hj => ?_, below_then hBl hBi⟩
            by_cases e : j = i
            · subst e; rw [HX.out]; exact HM.out
            · exact HJ.out j h (by omega)
          case measure => simp [intOf]; omega
        · have e : checksV[0]? = some (checksV[0]'(by decide)) := rfl
          simp only [checksV, bnd] at v
          simp at v
          have Q : Hid (chkB p.fs.length p.futs X 0 = _) := q0
          clear q0 q1 q2 q3 q4 q5 q6 e
          go_wp2_with fail
          refine (hasIns_any _ _ _ _ _ _ _ _).mono ?_
          rintro e w5 ⟨rfl, hb5⟩
          revert Q
          generalize decide (0 < X.length) = b
          intro Q
          cases b
          · have hbad := HBAD.out _ (by omega) Q.out rfl
            go_wp2_with fail
            go_ret
            refine ⟨?_, below_then hbe hb5⟩
            rw [hbad.out]
            rfl
          · have hnx := HNEXT.out _ Q.out rfl
            go_wp2_with fail
            go_roundw
            case rel => exact ⟨1, by omega, by go_num, hnx.out, below_then hBi hb5⟩
            case measure => simp [intOf]
        · have e : checksV[1]? = some (checksV[1]'(by decide)) := rfl
          simp only [checksV, bnd] at v
          simp at v
          have Q : Hid (chkB p.fs.length p.futs X 1 = _) := q1
          clear q0 q1 q2 q3 q4 q5 q6 e
          have hpos : 0 < X.length := by have := HM.out 0 (by omega); rw [chk_cases.1] at this; simpa using this
          go_wp2_with fail
          refine (ends_any _ _ _ _ _ X _ hI4 hpos hmi).mono ?_
          rintro e w5 ⟨rfl, hb5⟩
          revert Q
          generalize endB X = b
          intro Q
          cases b
          · have hbad := HBAD.out _ (by omega) Q.out rfl
            go_wp2_with fail
            go_ret
            refine ⟨?_, below_then hbe hb5⟩
            rw [hbad.out]
            rfl
          · have hnx := HNEXT.out _ Q.out rfl
            go_wp2_with fail
            go_roundw
            case rel => exact ⟨2, by omega, by go_num, hnx.out, below_then hBi hb5⟩
            case measure => simp [intOf]
        · have e : checksV[2]? = some (checksV[2]'(by decide)) := rfl
          simp only [checksV, bnd] at v
          simp at v
          have Q : Hid (chkB p.fs.length p.futs X 2 = _) := q2
          clear q0 q1 q2 q3 q4 q5 q6 e
          go_wp2_with fail
          refine (holds_7 p _ _ _ X _ hI4 hmi).mono ?_
          rintro e w5 ⟨rfl, hb5⟩
          revert Q
          generalize holdsB 7 In.a X.length X = b
          intro Q
          cases b
          · have hbad := HBAD.out _ (by omega) Q.out rfl
            go_wp2_with fail
            go_ret
            refine ⟨?_, below_then hbe hb5⟩
            rw [hbad.out]
            rfl
          · have hnx := HNEXT.out _ Q.out rfl
            go_wp2_with fail
            go_roundw
            case rel => exact ⟨3, by omega, by go_num, hnx.out, below_then hBi hb5⟩
            case measure => simp [intOf]
        · have e : checksV[3]? = some (checksV[3]'(by decide)) := rfl
          simp only [checksV, bnd] at v
          simp at v
          have Q : Hid (chkB p.fs.length p.futs X 3 = _) := q3
          clear q0 q1 q2 q3 q4 q5 q6 e
          go_wp2_with fail
          refine (holds_8 p _ _ _ X _ hI4 hmi).mono ?_
          rintro e w5 ⟨rfl, hb5⟩
          revert Q
          generalize holdsB 8 In.b X.length X = b
          intro Q
          cases b
          · have hbad := HBAD.out _ (by omega) Q.out rfl
            go_wp2_with fail
            go_ret
            refine ⟨?_, below_then hbe hb5⟩
            rw [hbad.out]
            rfl
          · have hnx := HNEXT.out _ Q.out rfl
            go_wp2_with fail
            go_roundw
            case rel => exact ⟨4, by omega, by go_num, hnx.out, below_then hBi hb5⟩
            case measure => simp [intOf]
        · have e : checksV[4]? = some (checksV[4]'(by decide)) := rfl
          simp only [checksV, bnd] at v
          simp at v
          have Q : Hid (chkB p.fs.length p.futs X 4 = _) := q4
          clear q0 q1 q2 q3 q4 q5 q6 e
          go_wp2_with fail
          refine (holds_9 p _ _ _ X _ hI4 hmi).mono ?_
          rintro e w5 ⟨rfl, hb5⟩
          revert Q
          generalize holdsB 9 In.b p.fs.length X = b
          intro Q
          cases b
          · have hbad := HBAD.out _ (by omega) Q.out rfl
            go_wp2_with fail
            go_ret
            refine ⟨?_, below_then hbe hb5⟩
            rw [hbad.out]
            rfl
          · have hnx := HNEXT.out _ Q.out rfl
            go_wp2_with fail
            go_roundw
            case rel => exact ⟨5, by omega, by go_num, hnx.out, below_then hBi hb5⟩
            case measure => simp [intOf]
        · have e : checksV[5]? = some (checksV[5]'(by decide)) := rfl
          simp only [checksV, bnd] at v
          simp at v
          have Q : Hid (chkB p.fs.length p.futs X 5 = _) := q5
          clear q0 q1 q2 q3 q4 q5 q6 e
          go_wp2_with fail
          refine (holds_11 p _ _ _ X _ hI4 hmi).mono ?_
          rintro e w5 ⟨rfl, hb5⟩
          revert Q
          generalize holdsB 11 In.a p.futs X = b
          intro Q
          cases b
          · have hbad := HBAD.out _ (by omega) Q.out rfl
            go_wp2_with fail
            go_ret
            refine ⟨?_, below_then hbe hb5⟩
            rw [hbad.out]
            rfl
          · have hnx := HNEXT.out _ Q.out rfl
            go_wp2_with fail
            go_roundw
            case rel => exact ⟨6, by omega, by go_num, hnx.out, below_then hBi hb5⟩
            case measure => simp [intOf]
        · have e : checksV[6]? = some (checksV[6]'(by decide)) := rfl
          simp only [checksV, bnd] at v
          simp at v
          have Q : Hid (chkB p.fs.length p.futs X 6 = _) := q6
          clear q0 q1 q2 q3 q4 q5 q6 e
          go_wp2_with fail
          refine (holds_12 p _ _ _ X _ hI4 hmi).mono ?_
          rintro e w5 ⟨rfl, hb5⟩
          revert Q
          generalize holdsB 12 In.b p.futs X = b
          intro Q
          cases b
          · have hbad := HBAD.out _ (by omega) Q.out rfl
            go_wp2_with fail
            go_ret
            refine ⟨?_, below_then hbe hb5⟩
            rw [hbad.out]
            rfl
          · have hnx := HNEXT.out _ Q.out rfl
            go_wp2_with fail
            go_roundw
            case rel => exact ⟨7, by omega, by go_num, hnx.out, below_then hBi hb5⟩
            case measure => simp [intOf]
    · go_wp2_with fail
      go_ret
      refine ⟨?_, below_then hb2 hBl⟩
      rw [check_good HE.out H0.out fun j hj => HJ.out j hj (by omega)]
      rfl
end Go.Proofs.YtpmapdialjdcbaaDoor.V5
namespace Go.Proofs.YtpmapdialjdcbaaDoor.V5
open Go.RowKit
open C2 (In Pr SlF SlI InsAt Tab BoxedP below_alloc below_then still_of_below Still)

/-- a slice of numbers -/
def SlN (w : World) (v : Value) (xs : List Int) : Prop :=
  ∃ ad cap, v = .slice ad xs.length cap ∧ ∀ k (h : k < xs.length), ∃ g f, ad = some ⟨g, f, none⟩ ∧ w.cell? ⟨g, f + k, none⟩ = some (.int .i64 xs[k])
theorem SlN.still {w w' : World} {v : Value} {xs : List Int} (h : SlN w v xs) (hs : Still w w') : SlN w' v xs := by
  obtain ⟨ad, cap, hv, hx⟩ := h
  refine ⟨ad, cap, hv, fun k hk => ?_⟩
  obtain ⟨g, f, h1, h2⟩ := hx k hk
  exact ⟨g, f, h1, hs _ _ h2⟩
theorem SlN.kept {w w' : World} {v : Value} {xs : List Int} (h : SlN w v xs) (hb : Below w.heap.size w w') : SlN w' v xs := h.still (still_of_below hb)
def numV (x : Int) : Value := .int .i64 x
theorem slN_block {w : World} {g c : Nat} {cs : Array Value} {t : TypeId} {f : Nat × Nat} {xs : List Int} (h : w.heap[g]? = some (.cells cs t f)) (hx : ∀ k (h : k < xs.length), cs[k]? = some (.int .i64 xs[k])) : SlN w (.slice (some ⟨g, 0, none⟩) xs.length c) xs :=
  ⟨_, _, rfl, fun k hk => ⟨g, 0, rfl, by rw [Nat.zero_add, cell_of_row _ _ _ _ _ _ h, hx k hk]⟩⟩
/-- how many instructions of a kind -/
def cntF (op : Int) (f : List In) : Nat := (f.filter fun x => decide (x.o = op)).length
theorem cnt_step {op : Int} {f : List In} {i : Nat} (h : i < f.length) : cntF op (f.take (i + 1)) = cntF op (f.take i) + if f[i].o = op then 1 else 0 := by
  rw [List.take_succ_eq_append_getElem h, cntF, cntF, List.filter_append, List.length_append]
  by_cases e : f[i].o = op <;> simp [e]
theorem cnt_le (op : Int) (f : List In) : cntF op f ≤ f.length := List.length_filter_le _ _
theorem cnt_take (op : Int) (f : List In) (i : Nat) (h : i ≤ f.length) : cntF op (f.take i) ≤ i := by
  have := cnt_le op (f.take i)
  rw [List.length_take] at this
  omega
def forksF (fs : List (List In)) : List Int := fs.map fun f => (cntF 9 f : Int)
def cancelsF (fs : List (List In)) : Bool := fs.any fun f => f.any fun x => decide (x.o = 13)
theorem cnt_any (f : List In) : 0 < cntF 13 f ↔ (f.any fun x => decide (x.o = 13)) = true := by
  rw [cntF, List.length_pos_iff, List.any_eq_true]
  constructor
  · intro h
    obtain ⟨x, hx⟩ := List.exists_mem_of_ne_nil _ h
    rw [List.mem_filter] at hx
    exact ⟨x, hx.1, hx.2⟩
  · rintro ⟨x, hx, ho⟩ h
    have : x ∈ (f.filter fun x => decide (x.o = 13)) := List.mem_filter.2 ⟨hx, ho⟩
    rw [h] at this
    simp at this
def sumF (fs : List (List In)) : Nat := (fs.map (cntF 13)).sum
theorem sum_step {fs : List (List In)} {i : Nat} (h : i < fs.length) : sumF (fs.take (i + 1)) = sumF (fs.take i) + cntF 13 fs[i] := by
  rw [List.take_succ_eq_append_getElem h, sumF, sumF, List.map_append, List.sum_append]
  simp
theorem sum_any (fs : List (List In)) : decide (0 < sumF fs) = cancelsF fs := by
  induction fs with
  | nil => rfl
  | cons f fs ih =>
    have e : sumF (f :: fs) = cntF 13 f + sumF fs := by simp [sumF]
    have e2 : cancelsF (f :: fs) = ((f.any fun x => decide (x.o = 13)) || cancelsF fs) := rfl
    rw [e, e2, ← ih]
    have h := cnt_any f
    by_cases h0 : 0 < cntF 13 f
    · rw [h.1 h0]; simp; omega
    · have h1 : (f.any fun x => decide (x.o = 13)) = false := by rw [Bool.eq_false_iff]; exact fun hh => h0 (h.2 hh)
      rw [h1]
      have h2 : cntF 13 f = 0 := by omega
      rw [h2, Nat.zero_add, Bool.false_or]
theorem sum_le {fs : List (List In)} {n : Nat} (h : ∀ f ∈ fs, f.length ≤ n) : sumF fs ≤ n * fs.length := by
  induction fs with
  | nil => simp [sumF]
  | cons f fs ih =>
    have e : sumF (f :: fs) = cntF 13 f + sumF fs := by simp [sumF]
    have h1 := ih fun x hx => h x (by simp [hx])
    have h2 := h f (by simp)
    have h3 := cnt_le 13 f
    rw [e, List.length_cons, Nat.mul_succ]
    omega
set_option maxHeartbeats 400000 in
theorem sameInts_any (v u : Value) (xs ys : List Int) (w : World) (hv : SlN w v xs) (hu : SlN w u ys) (hx : xs.length ≤ 1000000) (hy : ys.length ≤ 1000000) :
    Calls Tryd.prog 17 #[v, u] w fun e w' => e = .returned (.bool (decide (xs = ys))) ∧ Below w.heap.size w w' := by
  obtain ⟨a, c, rfl, hk⟩ := hv
  obtain ⟨b, d, rfl, hl⟩ := hu
  by_cases h : xs.length = ys.length
  · have hne : ((xs.length : Int) != (ys.length : Int)) = false := by simp [h]
    go_enter Tryd.func17, Tryd.ntmps17
    go_wp2_with fail
    go_loopw [5] (fun iv wr => ∃ i : Nat, i ≤ xs.length ∧ iv = .int .i64 i ∧ (∀ k (h1 : k < xs.length) (h2 : k < ys.length), k < i → xs[k] = ys[k]) ∧ Below w.heap.size w wr) (fun iv _ => xs.length - (intOf iv).toNat)
    case atStart => exact ⟨0, by omega, rfl, fun k _ _ h => by omega, Below.refl _ _⟩
    case round =>
      obtain ⟨i, hi, rfl, he, hB⟩ := hrel
      have HE : Hid (∀ k (h1 : k < xs.length) (h2 : k < ys.length), k < i → xs[k] = ys[k]) := he
      clear he
      by_cases hlt : i < xs.length
      · have hlt2 : i < ys.length := by omega
        obtain ⟨g, f, rfl, cx⟩ := hk i hlt
        obtain ⟨g2, f2, rfl, cy⟩ := hl i hlt2
        have dx := still_of_below hB _ _ cx
        have dy := still_of_below hB _ _ cy
        clear cx cy hk hl
        generalize hX : xs[i] = X at *
        generalize hY : ys[i] = Y at *
        have HX : Hid (xs[i] = X) := hX
        have HY : Hid (ys[i] = Y) := hY
        clear hX hY
        by_cases e : X = Y
        · have e1 : (X != Y) = false := by simp [e]
          have HXY : Hid (X = Y) := e
          clear e
          go_wp2_with fail
          go_region
          all_goals
            go_wp2_with fail
            go_roundw
            case rel =>
              refine ⟨i + 1, by omega, by go_num, fun k h1 h2 hk => ?_, hB.drew⟩
              by_cases e : k = i
              · subst e; rw [HX.out, HY.out]; exact HXY.out
              · exact HE.out k h1 h2 (by omega)
            case measure => simp [intOf]; omega
        · have e1 : (X != Y) = true := by simp [e]
          have HXY : Hid (¬ X = Y) := e
          clear e
          go_wp2_with fail
          go_region
          all_goals
            go_wp2_with fail
            go_ret
            refine ⟨?_, hB.drew⟩
            have : ¬ xs = ys := fun e => HXY.out (by rw [← HX.out, ← HY.out]; subst e; rfl)
            rw [decide_eq_false this]
            rfl
      · go_wp2_with fail
        go_ret
        refine ⟨?_, hB⟩
        have : xs = ys := List.ext_getElem h fun k h1 h2 => HE.out k h1 h2 (by omega)
        rw [decide_eq_true this]
        rfl
  · have hne : ((xs.length : Int) != (ys.length : Int)) = true := by simp; omega
    have H : Hid (¬ xs = ys) := fun e => h (by rw [e])
    clear h
    go_enter Tryd.func17, Tryd.ntmps17
    go_wp2_with fail
    go_ret
    refine ⟨?_, Below.refl _ _⟩
    rw [decide_eq_false H.out]
    rfl
end Go.Proofs.YtpmapdialjdcbaaDoor.V5
