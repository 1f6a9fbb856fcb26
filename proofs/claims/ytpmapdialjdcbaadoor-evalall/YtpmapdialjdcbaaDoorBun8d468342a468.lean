/-
  Helpers: V5Vh7, V5Vh8, V5Vh9, V5Vh11.
-/
import Derived.Test.YtpmapdialjdcbaaDoorBun065f87cb621d
namespace Go.Proofs.YtpmapdialjdcbaaDoor.V5
open Go.RowKit
open C2 (In Pr SlF SlI InsAt Tab BoxedP below_alloc below_then still_of_below)
set_option maxHeartbeats 1000000 in
theorem holds_7 (p : Pr) (fa : Option Addr) (fc : Nat) (v : Value) (xs : List In) (w : World) (hI : SlI w v xs) (hl : xs.length ≤ 1000000) :
    Calls Tryd.prog 46 #[.agg #[.int .i64 7, .func (.func 44) #[] #[], .func (.func 45) #[] #[]], .agg #[.slice fa p.fs.length fc, .int .i64 p.futs, .int .i64 p.depth, .int .i64 p.fuel], v] w fun e w' => e = .returned (.bool (holdsB 7 In.a (xs.length : Int) xs)) ∧ Below w.heap.size w w' := by
  have hb1 := below_alloc (below_alloc (Below.refl w.heap.size w) (.cells #[.int .i64 7, .func (.func 44) #[] #[], .func (.func 45) #[] #[]] 99)) (.cells #[.slice fa p.fs.length fc, .int .i64 p.futs, .int .i64 p.depth, .int .i64 p.fuel] 24)
  obtain ⟨b0, b1, b2⟩ := bound_box w (.int .i64 7) (.func (.func 44) #[] #[]) (.func (.func 45) #[] #[]) (.cells #[.slice fa p.fs.length fc, .int .i64 p.futs, .int .i64 p.depth, .int .i64 p.fuel] 24)
  have hp : ((w.alloc (.cells #[.int .i64 7, .func (.func 44) #[] #[], .func (.func 45) #[] #[]] 99)).alloc (.cells #[.slice fa p.fs.length fc, .int .i64 p.futs, .int .i64 p.depth, .int .i64 p.fuel] 24)).heap[w.heap.size + 1]? = some (.cells #[.slice fa p.fs.length fc, .int .i64 p.futs, .int .i64 p.depth, .int .i64 p.fuel] 24 (0, 0)) := by simpa using heap_alloc_new (w.alloc (.cells #[.int .i64 7, .func (.func 44) #[] #[], .func (.func 45) #[] #[]] 99)) (.cells #[.slice fa p.fs.length fc, .int .i64 p.futs, .int .i64 p.depth, .int .i64 p.fuel] 24)
  obtain ⟨q0, q1, q2, q3⟩ := prog_cells hp
  have hI1 := hI.still (still_of_below hb1)
  obtain ⟨ia, ic, rfl, hk⟩ := hI1
  clear hI hp
  go_enter Tryd.func46, Tryd.ntmps46
  go_wp2_with fail
  generalize hW0 : (w.alloc (.cells #[.int .i64 7, .func (.func 44) #[] #[], .func (.func 45) #[] #[]] 99)).alloc (.cells #[.slice fa p.fs.length fc, .int .i64 p.futs, .int .i64 p.depth, .int .i64 p.fuel] 24) = W0 at *
  clear hW0
  go_loopw [11] (fun iv wr => ∃ i : Nat, i ≤ xs.length ∧ iv = .int .i64 i ∧ (∀ k (h : k < xs.length), k < i → xs[k].o = 7 → xs[k].a < (xs.length : Int)) ∧ Below W0.heap.size W0 wr) (fun iv _ => xs.length - (intOf iv).toNat)
  case atStart => exact ⟨0, by omega, rfl, fun k _ hk => by omega, Below.refl _ _⟩
  case round =>
    obtain ⟨i, hi, rfl, hk0, hB⟩ := hrel
    have HK : Hid (∀ k (h : k < xs.length), k < i → xs[k].o = 7 → xs[k].a < (xs.length : Int)) := hk0
    clear hk0
    by_cases hlt : i < xs.length
    · obtain ⟨g, f, rfl, hA⟩ := hk i hlt
      have st := still_of_below hB
      obtain ⟨x0, x1, x2, x3⟩ := hA.still st
      have st1 := still_of_below (below_alloc hB (.cells #[.int .i64 xs[i].o, .int .i64 xs[i].a, .int .i64 xs[i].b, .int .i64 xs[i].c] 54))
      obtain ⟨y0, y1, y2, y3⟩ := ins_box wr xs[i]
      have d0 := st1 _ _ b0
      have d1 := st1 _ _ b1
      have d2 := st1 _ _ b2
      have r0 := st1 _ _ q0
      have r1 := st1 _ _ q1
      have r2 := st1 _ _ q2
      have r3 := st1 _ _ q3
      have hBa := below_alloc hB (.cells #[.int .i64 xs[i].o, .int .i64 xs[i].a, .int .i64 xs[i].b, .int .i64 xs[i].c] 54)
      clear st st1 hA
      by_cases ho : xs[i].o = 7
      · have ho2 : (xs[i].o == 7) = true := by simp [ho]
        have HO : Hid (xs[i].o = 7) := ho
        clear ho
        go_wp2_with fail
        generalize wr.alloc (.cells #[.int .i64 xs[i].o, .int .i64 xs[i].a, .int .i64 xs[i].b, .int .i64 xs[i].c] 54) = Wa at *
        by_cases hge : (xs.length : Int) ≤ xs[i].a
        · have hge2 : decide ((xs.length : Int) ≤ xs[i].a) = true := by simpa using hge
          have HG : Hid ((xs.length : Int) ≤ xs[i].a) := hge
          clear hge
          go_region_held3 (fun w' => w'.cell? ⟨w.heap.size, 0, none⟩ = some (.int .i64 7) ∧ w'.cell? ⟨w.heap.size, 1, none⟩ = some (.func (.func 44) #[] #[]) ∧ w'.cell? ⟨w.heap.size, 2, none⟩ = some (.func (.func 45) #[] #[]) ∧ w'.cell? ⟨w.heap.size + 1, 0, none⟩ = some (.slice fa p.fs.length fc) ∧ w'.cell? ⟨w.heap.size + 1, 1, none⟩ = some (.int .i64 p.futs) ∧ w'.cell? ⟨w.heap.size + 1, 2, none⟩ = some (.int .i64 p.depth) ∧ w'.cell? ⟨w.heap.size + 1, 3, none⟩ = some (.int .i64 p.fuel) ∧ w'.cell? ⟨wr.heap.size, 0, none⟩ = some (.int .i64 xs[i].o) ∧ w'.cell? ⟨wr.heap.size, 1, none⟩ = some (.int .i64 xs[i].a) ∧ w'.cell? ⟨wr.heap.size, 2, none⟩ = some (.int .i64 xs[i].b) ∧ w'.cell? ⟨wr.heap.size, 3, none⟩ = some (.int .i64 xs[i].c)) (first | exact ⟨d0, d1, d2, r0, r1, r2, r3, y0, y1, y2, y3⟩ | exact ⟨d05, d15, d25, r05, r15, r25, r35, y05, y15, y25, y35⟩ | exact ⟨d06, d16, d26, r06, r16, r26, r36, y06, y16, y26, y36⟩) (first | (go_at_call 44; refine (operandA_any xs[i] _).mono ?_; rintro e w5 ⟨rfl, hb5⟩; have hX5 : Below Wa.heap.size Wa w5 := (by first | exact below_then (Below.refl _ _).drew hb5 | exact below_then hX6 hb5); have d05 := still_of_below hX5 _ _ d0; have d15 := still_of_below hX5 _ _ d1; have d25 := still_of_below hX5 _ _ d2; have r05 := still_of_below hX5 _ _ r0; have r15 := still_of_below hX5 _ _ r1; have r25 := still_of_below hX5 _ _ r2; have r35 := still_of_below hX5 _ _ r3; have y05 := still_of_below hX5 _ _ y0; have y15 := still_of_below hX5 _ _ y1; have y25 := still_of_below hX5 _ _ y2; have y35 := still_of_below hX5 _ _ y3) | (go_at_call 45; refine (places_any _ _ _ _ _ _ _ _).mono ?_; rintro e w6 ⟨rfl, hb6⟩; have hX6 : Below Wa.heap.size Wa w6 := (by first | exact below_then (Below.refl _ _).drew hb6 | exact below_then hX5 hb6); have d06 := still_of_below hX6 _ _ d0; have d16 := still_of_below hX6 _ _ d1; have d26 := still_of_below hX6 _ _ d2; have r06 := still_of_below hX6 _ _ r0; have r16 := still_of_below hX6 _ _ r1; have r26 := still_of_below hX6 _ _ r2; have r36 := still_of_below hX6 _ _ r3; have y06 := still_of_below hX6 _ _ y0; have y16 := still_of_below hX6 _ _ y1; have y26 := still_of_below hX6 _ _ y2; have y36 := still_of_below hX6 _ _ y3))
          all_goals
            go_wp2_with fail
            go_ret
            exact ⟨by rw [holds_not hlt HO.out HG.out]; rfl, below_then hb1 (below_then hBa (by assumption))⟩
        · have hge2 : decide ((xs.length : Int) ≤ xs[i].a) = false := by simpa using hge
          have HG : Hid (¬ (xs.length : Int) ≤ xs[i].a) := hge
          clear hge
          go_region_held3 (fun w' => w'.cell? ⟨w.heap.size, 0, none⟩ = some (.int .i64 7) ∧ w'.cell? ⟨w.heap.size, 1, none⟩ = some (.func (.func 44) #[] #[]) ∧ w'.cell? ⟨w.heap.size, 2, none⟩ = some (.func (.func 45) #[] #[]) ∧ w'.cell? ⟨w.heap.size + 1, 0, none⟩ = some (.slice fa p.fs.length fc) ∧ w'.cell? ⟨w.heap.size + 1, 1, none⟩ = some (.int .i64 p.futs) ∧ w'.cell? ⟨w.heap.size + 1, 2, none⟩ = some (.int .i64 p.depth) ∧ w'.cell? ⟨w.heap.size + 1, 3, none⟩ = some (.int .i64 p.fuel) ∧ w'.cell? ⟨wr.heap.size, 0, none⟩ = some (.int .i64 xs[i].o) ∧ w'.cell? ⟨wr.heap.size, 1, none⟩ = some (.int .i64 xs[i].a) ∧ w'.cell? ⟨wr.heap.size, 2, none⟩ = some (.int .i64 xs[i].b) ∧ w'.cell? ⟨wr.heap.size, 3, none⟩ = some (.int .i64 xs[i].c)) (first | exact ⟨d0, d1, d2, r0, r1, r2, r3, y0, y1, y2, y3⟩ | exact ⟨d05, d15, d25, r05, r15, r25, r35, y05, y15, y25, y35⟩ | exact ⟨d06, d16, d26, r06, r16, r26, r36, y06, y16, y26, y36⟩) (first | (go_at_call 44; refine (operandA_any xs[i] _).mono ?_; rintro e w5 ⟨rfl, hb5⟩; have hX5 : Below Wa.heap.size Wa w5 := (by first | exact below_then (Below.refl _ _).drew hb5 | exact below_then hX6 hb5); have d05 := still_of_below hX5 _ _ d0; have d15 := still_of_below hX5 _ _ d1; have d25 := still_of_below hX5 _ _ d2; have r05 := still_of_below hX5 _ _ r0; have r15 := still_of_below hX5 _ _ r1; have r25 := still_of_below hX5 _ _ r2; have r35 := still_of_below hX5 _ _ r3; have y05 := still_of_below hX5 _ _ y0; have y15 := still_of_below hX5 _ _ y1; have y25 := still_of_below hX5 _ _ y2; have y35 := still_of_below hX5 _ _ y3) | (go_at_call 45; refine (places_any _ _ _ _ _ _ _ _).mono ?_; rintro e w6 ⟨rfl, hb6⟩; have hX6 : Below Wa.heap.size Wa w6 := (by first | exact below_then (Below.refl _ _).drew hb6 | exact below_then hX5 hb6); have d06 := still_of_below hX6 _ _ d0; have d16 := still_of_below hX6 _ _ d1; have d26 := still_of_below hX6 _ _ d2; have r06 := still_of_below hX6 _ _ r0; have r16 := still_of_below hX6 _ _ r1; have r26 := still_of_below hX6 _ _ r2; have r36 := still_of_below hX6 _ _ r3; have y06 := still_of_below hX6 _ _ y0; have y16 := still_of_below hX6 _ _ y1; have y26 := still_of_below hX6 _ _ y2; have y36 := still_of_below hX6 _ _ y3))
          all_goals
            go_wp2_with fail
            go_roundw
            case rel =>
              refine ⟨i + 1, by omega, by go_num, fun k h hk => ?_, below_then hBa (by assumption)⟩
              by_cases e : k = i
              · subst e; exact fun _ => (by have := HG.out; omega)
              · exact HK.out k h (by omega)
            case measure => simp [intOf]; omega
      · have ho2 : (xs[i].o == 7) = false := by simp [ho]
        have HO : Hid (¬ xs[i].o = 7) := ho
        clear ho
        go_wp2_with fail
        go_region
        all_goals
          go_wp2_with fail
          go_roundw
          case rel =>
            refine ⟨i + 1, by omega, by go_num, fun k h hk => ?_, hBa.drew⟩
            by_cases e : k = i
            · subst e; exact fun hh => absurd hh HO.out
            · exact HK.out k h (by omega)
          case measure => simp [intOf]; omega
    · go_wp2_with fail
      go_ret
      refine ⟨?_, below_then hb1 hB⟩
      rw [holds_all fun k hk => HK.out k hk (by omega)]
      rfl
end Go.Proofs.YtpmapdialjdcbaaDoor.V5
namespace Go.Proofs.YtpmapdialjdcbaaDoor.V5
open Go.RowKit
open C2 (In Pr SlF SlI InsAt Tab BoxedP below_alloc below_then still_of_below)
set_option maxHeartbeats 1000000 in
theorem holds_8 (p : Pr) (fa : Option Addr) (fc : Nat) (v : Value) (xs : List In) (w : World) (hI : SlI w v xs) (hl : xs.length ≤ 1000000) :
    Calls Tryd.prog 46 #[.agg #[.int .i64 8, .func (.func 47) #[] #[], .func (.func 45) #[] #[]], .agg #[.slice fa p.fs.length fc, .int .i64 p.futs, .int .i64 p.depth, .int .i64 p.fuel], v] w fun e w' => e = .returned (.bool (holdsB 8 In.b (xs.length : Int) xs)) ∧ Below w.heap.size w w' := by
  have hb1 := below_alloc (below_alloc (Below.refl w.heap.size w) (.cells #[.int .i64 8, .func (.func 47) #[] #[], .func (.func 45) #[] #[]] 99)) (.cells #[.slice fa p.fs.length fc, .int .i64 p.futs, .int .i64 p.depth, .int .i64 p.fuel] 24)
  obtain ⟨b0, b1, b2⟩ := bound_box w (.int .i64 8) (.func (.func 47) #[] #[]) (.func (.func 45) #[] #[]) (.cells #[.slice fa p.fs.length fc, .int .i64 p.futs, .int .i64 p.depth, .int .i64 p.fuel] 24)
  have hp : ((w.alloc (.cells #[.int .i64 8, .func (.func 47) #[] #[], .func (.func 45) #[] #[]] 99)).alloc (.cells #[.slice fa p.fs.length fc, .int .i64 p.futs, .int .i64 p.depth, .int .i64 p.fuel] 24)).heap[w.heap.size + 1]? = some (.cells #[.slice fa p.fs.length fc, .int .i64 p.futs, .int .i64 p.depth, .int .i64 p.fuel] 24 (0, 0)) := by simpa using heap_alloc_new (w.alloc (.cells #[.int .i64 8, .func (.func 47) #[] #[], .func (.func 45) #[] #[]] 99)) (.cells #[.slice fa p.fs.length fc, .int .i64 p.futs, .int .i64 p.depth, .int .i64 p.fuel] 24)
  obtain ⟨q0, q1, q2, q3⟩ := prog_cells hp
  have hI1 := hI.still (still_of_below hb1)
  obtain ⟨ia, ic, rfl, hk⟩ := hI1
  clear hI hp
  go_enter Tryd.func46, Tryd.ntmps46
  go_wp2_with fail
  generalize hW0 : (w.alloc (.cells #[.int .i64 8, .func (.func 47) #[] #[], .func (.func 45) #[] #[]] 99)).alloc (.cells #[.slice fa p.fs.length fc, .int .i64 p.futs, .int .i64 p.depth, .int .i64 p.fuel] 24) = W0 at *
  clear hW0
  go_loopw [11] (fun iv wr => ∃ i : Nat, i ≤ xs.length ∧ iv = .int .i64 i ∧ (∀ k (h : k < xs.length), k < i → xs[k].o = 8 → xs[k].b < (xs.length : Int)) ∧ Below W0.heap.size W0 wr) (fun iv _ => xs.length - (intOf iv).toNat)
  case atStart => exact ⟨0, by omega, rfl, fun k _ hk => by omega, Below.refl _ _⟩
  case round =>
    obtain ⟨i, hi, rfl, hk0, hB⟩ := hrel
    have HK : Hid (∀ k (h : k < xs.length), k < i → xs[k].o = 8 → xs[k].b < (xs.length : Int)) := hk0
    clear hk0
    by_cases hlt : i < xs.length
    · obtain ⟨g, f, rfl, hA⟩ := hk i hlt
      have st := still_of_below hB
      obtain ⟨x0, x1, x2, x3⟩ := hA.still st
      have st1 := still_of_below (below_alloc hB (.cells #[.int .i64 xs[i].o, .int .i64 xs[i].a, .int .i64 xs[i].b, .int .i64 xs[i].c] 54))
      obtain ⟨y0, y1, y2, y3⟩ := ins_box wr xs[i]
      have d0 := st1 _ _ b0
      have d1 := st1 _ _ b1
      have d2 := st1 _ _ b2
      have r0 := st1 _ _ q0
      have r1 := st1 _ _ q1
      have r2 := st1 _ _ q2
      have r3 := st1 _ _ q3
      have hBa := below_alloc hB (.cells #[.int .i64 xs[i].o, .int .i64 xs[i].a, .int .i64 xs[i].b, .int .i64 xs[i].c] 54)
      clear st st1 hA
      by_cases ho : xs[i].o = 8
      · have ho2 : (xs[i].o == 8) = true := by simp [ho]
        have HO : Hid (xs[i].o = 8) := ho
        clear ho
        go_wp2_with fail
        generalize wr.alloc (.cells #[.int .i64 xs[i].o, .int .i64 xs[i].a, .int .i64 xs[i].b, .int .i64 xs[i].c] 54) = Wa at *
        by_cases hge : (xs.length : Int) ≤ xs[i].b
        · have hge2 : decide ((xs.length : Int) ≤ xs[i].b) = true := by simpa using hge
          have HG : Hid ((xs.length : Int) ≤ xs[i].b) := hge
          clear hge
          go_region_held3 (fun w' => w'.cell? ⟨w.heap.size, 0, none⟩ = some (.int .i64 8) ∧ w'.cell? ⟨w.heap.size, 1, none⟩ = some (.func (.func 47) #[] #[]) ∧ w'.cell? ⟨w.heap.size, 2, none⟩ = some (.func (.func 45) #[] #[]) ∧ w'.cell? ⟨w.heap.size + 1, 0, none⟩ = some (.slice fa p.fs.length fc) ∧ w'.cell? ⟨w.heap.size + 1, 1, none⟩ = some (.int .i64 p.futs) ∧ w'.cell? ⟨w.heap.size + 1, 2, none⟩ = some (.int .i64 p.depth) ∧ w'.cell? ⟨w.heap.size + 1, 3, none⟩ = some (.int .i64 p.fuel) ∧ w'.cell? ⟨wr.heap.size, 0, none⟩ = some (.int .i64 xs[i].o) ∧ w'.cell? ⟨wr.heap.size, 1, none⟩ = some (.int .i64 xs[i].a) ∧ w'.cell? ⟨wr.heap.size, 2, none⟩ = some (.int .i64 xs[i].b) ∧ w'.cell? ⟨wr.heap.size, 3, none⟩ = some (.int .i64 xs[i].c)) (first | exact ⟨d0, d1, d2, r0, r1, r2, r3, y0, y1, y2, y3⟩ | exact ⟨d05, d15, d25, r05, r15, r25, r35, y05, y15, y25, y35⟩ | exact ⟨d06, d16, d26, r06, r16, r26, r36, y06, y16, y26, y36⟩) (first | (go_at_call 47; refine (operandB_any xs[i] _).mono ?_; rintro e w5 ⟨rfl, hb5⟩; have hX5 : Below Wa.heap.size Wa w5 := (by first | exact below_then (Below.refl _ _).drew hb5 | exact below_then hX6 hb5); have d05 := still_of_below hX5 _ _ d0; have d15 := still_of_below hX5 _ _ d1; have d25 := still_of_below hX5 _ _ d2; have r05 := still_of_below hX5 _ _ r0; have r15 := still_of_below hX5 _ _ r1; have r25 := still_of_below hX5 _ _ r2; have r35 := still_of_below hX5 _ _ r3; have y05 := still_of_below hX5 _ _ y0; have y15 := still_of_below hX5 _ _ y1; have y25 := still_of_below hX5 _ _ y2; have y35 := still_of_below hX5 _ _ y3) | (go_at_call 45; refine (places_any _ _ _ _ _ _ _ _).mono ?_; rintro e w6 ⟨rfl, hb6⟩; have hX6 : Below Wa.heap.size Wa w6 := (by first | exact below_then (Below.refl _ _).drew hb6 | exact below_then hX5 hb6); have d06 := still_of_below hX6 _ _ d0; have d16 := still_of_below hX6 _ _ d1; have d26 := still_of_below hX6 _ _ d2; have r06 := still_of_below hX6 _ _ r0; have r16 := still_of_below hX6 _ _ r1; have r26 := still_of_below hX6 _ _ r2; have r36 := still_of_below hX6 _ _ r3; have y06 := still_of_below hX6 _ _ y0; have y16 := still_of_below hX6 _ _ y1; have y26 := still_of_below hX6 _ _ y2; have y36 := still_of_below hX6 _ _ y3))
          all_goals
            go_wp2_with fail
            go_ret
            exact ⟨by rw [holds_not hlt HO.out HG.out]; rfl, below_then hb1 (below_then hBa (by assumption))⟩
        · have hge2 : decide ((xs.length : Int) ≤ xs[i].b) = false := by simpa using hge
          have HG : Hid (¬ (xs.length : Int) ≤ xs[i].b) := hge
          clear hge
          go_region_held3 (fun w' => w'.cell? ⟨w.heap.size, 0, none⟩ = some (.int .i64 8) ∧ w'.cell? ⟨w.heap.size, 1, none⟩ = some (.func (.func 47) #[] #[]) ∧ w'.cell? ⟨w.heap.size, 2, none⟩ = some (.func (.func 45) #[] #[]) ∧ w'.cell? ⟨w.heap.size + 1, 0, none⟩ = some (.slice fa p.fs.length fc) ∧ w'.cell? ⟨w.heap.size + 1, 1, none⟩ = some (.int .i64 p.futs) ∧ w'.cell? ⟨w.heap.size + 1, 2, none⟩ = some (.int .i64 p.depth) ∧ w'.cell? ⟨w.heap.size + 1, 3, none⟩ = some (.int .i64 p.fuel) ∧ w'.cell? ⟨wr.heap.size, 0, none⟩ = some (.int .i64 xs[i].o) ∧ w'.cell? ⟨wr.heap.size, 1, none⟩ = some (.int .i64 xs[i].a) ∧ w'.cell? ⟨wr.heap.size, 2, none⟩ = some (.int .i64 xs[i].b) ∧ w'.cell? ⟨wr.heap.size, 3, none⟩ = some (.int .i64 xs[i].c)) (first | exact ⟨d0, d1, d2, r0, r1, r2, r3, y0, y1, y2, y3⟩ | exact ⟨d05, d15, d25, r05, r15, r25, r35, y05, y15, y25, y35⟩ | exact ⟨d06, d16, d26, r06, r16, r26, r36, y06, y16, y26, y36⟩) (first | (go_at_call 47; refine (operandB_any xs[i] _).mono ?_; rintro e w5 ⟨rfl, hb5⟩; have hX5 : Below Wa.heap.size Wa w5 := (by first | exact below_then (Below.refl _ _).drew hb5 | exact below_then hX6 hb5); have d05 := still_of_below hX5 _ _ d0; have d15 := still_of_below hX5 _ _ d1; have d25 := still_of_below hX5 _ _ d2; have r05 := still_of_below hX5 _ _ r0; have r15 := still_of_below hX5 _ _ r1; have r25 := still_of_below hX5 _ _ r2; have r35 := still_of_below hX5 _ _ r3; have y05 := still_of_below hX5 _ _ y0; have y15 := still_of_below hX5 _ _ y1; have y25 := still_of_below hX5 _ _ y2; have y35 := still_of_below hX5 _ _ y3) | (go_at_call 45; refine (places_any _ _ _ _ _ _ _ _).mono ?_; rintro e w6 ⟨rfl, hb6⟩; have hX6 : Below Wa.heap.size Wa w6 := (by first | exact below_then (Below.refl _ _).drew hb6 | exact below_then hX5 hb6); have d06 := still_of_below hX6 _ _ d0; have d16 := still_of_below hX6 _ _ d1; have d26 := still_of_below hX6 _ _ d2; have r06 := still_of_below hX6 _ _ r0; have r16 := still_of_below hX6 _ _ r1; have r26 := still_of_below hX6 _ _ r2; have r36 := still_of_below hX6 _ _ r3; have y06 := still_of_below hX6 _ _ y0; have y16 := still_of_below hX6 _ _ y1; have y26 := still_of_below hX6 _ _ y2; have y36 := still_of_below hX6 _ _ y3))
          all_goals
            go_wp2_with fail
            go_roundw
            case rel =>
              refine ⟨i + 1, by omega, by go_num, fun k h hk => ?_, below_then hBa (by assumption)⟩
              by_cases e : k = i
              · subst e; exact fun _ => (by have := HG.out; omega)
              · exact HK.out k h (by omega)
            case measure => simp [intOf]; omega
      · have ho2 : (xs[i].o == 8) = false := by simp [ho]
        have HO : Hid (¬ xs[i].o = 8) := ho
        clear ho
        go_wp2_with fail
        go_region
        all_goals
          go_wp2_with fail
          go_roundw
          case rel =>
            refine ⟨i + 1, by omega, by go_num, fun k h hk => ?_, hBa.drew⟩
            by_cases e : k = i
            · subst e; exact fun hh => absurd hh HO.out
            · exact HK.out k h (by omega)
          case measure => simp [intOf]; omega
    · go_wp2_with fail
      go_ret
      refine ⟨?_, below_then hb1 hB⟩
      rw [holds_all fun k hk => HK.out k hk (by omega)]
      rfl
end Go.Proofs.YtpmapdialjdcbaaDoor.V5
namespace Go.Proofs.YtpmapdialjdcbaaDoor.V5
open Go.RowKit
open C2 (In Pr SlF SlI InsAt Tab BoxedP below_alloc below_then still_of_below)
set_option maxHeartbeats 1000000 in
theorem holds_9 (p : Pr) (fa : Option Addr) (fc : Nat) (v : Value) (xs : List In) (w : World) (hI : SlI w v xs) (hl : xs.length ≤ 1000000) :
    Calls Tryd.prog 46 #[.agg #[.int .i64 9, .func (.func 47) #[] #[], .func (.func 48) #[] #[]], .agg #[.slice fa p.fs.length fc, .int .i64 p.futs, .int .i64 p.depth, .int .i64 p.fuel], v] w fun e w' => e = .returned (.bool (holdsB 9 In.b (p.fs.length : Int) xs)) ∧ Below w.heap.size w w' := by
  have hb1 := below_alloc (below_alloc (Below.refl w.heap.size w) (.cells #[.int .i64 9, .func (.func 47) #[] #[], .func (.func 48) #[] #[]] 99)) (.cells #[.slice fa p.fs.length fc, .int .i64 p.futs, .int .i64 p.depth, .int .i64 p.fuel] 24)
  obtain ⟨b0, b1, b2⟩ := bound_box w (.int .i64 9) (.func (.func 47) #[] #[]) (.func (.func 48) #[] #[]) (.cells #[.slice fa p.fs.length fc, .int .i64 p.futs, .int .i64 p.depth, .int .i64 p.fuel] 24)
  have hp : ((w.alloc (.cells #[.int .i64 9, .func (.func 47) #[] #[], .func (.func 48) #[] #[]] 99)).alloc (.cells #[.slice fa p.fs.length fc, .int .i64 p.futs, .int .i64 p.depth, .int .i64 p.fuel] 24)).heap[w.heap.size + 1]? = some (.cells #[.slice fa p.fs.length fc, .int .i64 p.futs, .int .i64 p.depth, .int .i64 p.fuel] 24 (0, 0)) := by simpa using heap_alloc_new (w.alloc (.cells #[.int .i64 9, .func (.func 47) #[] #[], .func (.func 48) #[] #[]] 99)) (.cells #[.slice fa p.fs.length fc, .int .i64 p.futs, .int .i64 p.depth, .int .i64 p.fuel] 24)
  obtain ⟨q0, q1, q2, q3⟩ := prog_cells hp
  have hI1 := hI.still (still_of_below hb1)
  obtain ⟨ia, ic, rfl, hk⟩ := hI1
  clear hI hp
  go_enter Tryd.func46, Tryd.ntmps46
  go_wp2_with fail
  generalize hW0 : (w.alloc (.cells #[.int .i64 9, .func (.func 47) #[] #[], .func (.func 48) #[] #[]] 99)).alloc (.cells #[.slice fa p.fs.length fc, .int .i64 p.futs, .int .i64 p.depth, .int .i64 p.fuel] 24) = W0 at *
  clear hW0
  go_loopw [11] (fun iv wr => ∃ i : Nat, i ≤ xs.length ∧ iv = .int .i64 i ∧ (∀ k (h : k < xs.length), k < i → xs[k].o = 9 → xs[k].b < (p.fs.length : Int)) ∧ Below W0.heap.size W0 wr) (fun iv _ => xs.length - (intOf iv).toNat)
  case atStart => exact ⟨0, by omega, rfl, fun k _ hk => by omega, Below.refl _ _⟩
  case round =>
    obtain ⟨i, hi, rfl, hk0, hB⟩ := hrel
    have HK : Hid (∀ k (h : k < xs.length), k < i → xs[k].o = 9 → xs[k].b < (p.fs.length : Int)) := hk0
    clear hk0
    by_cases hlt : i < xs.length
    · obtain ⟨g, f, rfl, hA⟩ := hk i hlt
      have st := still_of_below hB
      obtain ⟨x0, x1, x2, x3⟩ := hA.still st
      have st1 := still_of_below (below_alloc hB (.cells #[.int .i64 xs[i].o, .int .i64 xs[i].a, .int .i64 xs[i].b, .int .i64 xs[i].c] 54))
      obtain ⟨y0, y1, y2, y3⟩ := ins_box wr xs[i]
      have d0 := st1 _ _ b0
      have d1 := st1 _ _ b1
      have d2 := st1 _ _ b2
      have r0 := st1 _ _ q0
      have r1 := st1 _ _ q1
      have r2 := st1 _ _ q2
      have r3 := st1 _ _ q3
      have hBa := below_alloc hB (.cells #[.int .i64 xs[i].o, .int .i64 xs[i].a, .int .i64 xs[i].b, .int .i64 xs[i].c] 54)
      clear st st1 hA
      by_cases ho : xs[i].o = 9
      · have ho2 : (xs[i].o == 9) = true := by simp [ho]
        have HO : Hid (xs[i].o = 9) := ho
        clear ho
        go_wp2_with fail
        generalize wr.alloc (.cells #[.int .i64 xs[i].o, .int .i64 xs[i].a, .int .i64 xs[i].b, .int .i64 xs[i].c] 54) = Wa at *
        by_cases hge : (p.fs.length : Int) ≤ xs[i].b
        · have hge2 : decide ((p.fs.length : Int) ≤ xs[i].b) = true := by simpa using hge
          have HG : Hid ((p.fs.length : Int) ≤ xs[i].b) := hge
          clear hge
          go_region_held3 (fun w' => w'.cell? ⟨w.heap.size, 0, none⟩ = some (.int .i64 9) ∧ w'.cell? ⟨w.heap.size, 1, none⟩ = some (.func (.func 47) #[] #[]) ∧ w'.cell? ⟨w.heap.size, 2, none⟩ = some (.func (.func 48) #[] #[]) ∧ w'.cell? ⟨w.heap.size + 1, 0, none⟩ = some (.slice fa p.fs.length fc) ∧ w'.cell? ⟨w.heap.size + 1, 1, none⟩ = some (.int .i64 p.futs) ∧ w'.cell? ⟨w.heap.size + 1, 2, none⟩ = some (.int .i64 p.depth) ∧ w'.cell? ⟨w.heap.size + 1, 3, none⟩ = some (.int .i64 p.fuel) ∧ w'.cell? ⟨wr.heap.size, 0, none⟩ = some (.int .i64 xs[i].o) ∧ w'.cell? ⟨wr.heap.size, 1, none⟩ = some (.int .i64 xs[i].a) ∧ w'.cell? ⟨wr.heap.size, 2, none⟩ = some (.int .i64 xs[i].b) ∧ w'.cell? ⟨wr.heap.size, 3, none⟩ = some (.int .i64 xs[i].c)) (first | exact ⟨d0, d1, d2, r0, r1, r2, r3, y0, y1, y2, y3⟩ | exact ⟨d05, d15, d25, r05, r15, r25, r35, y05, y15, y25, y35⟩ | exact ⟨d06, d16, d26, r06, r16, r26, r36, y06, y16, y26, y36⟩) (first | (go_at_call 47; refine (operandB_any xs[i] _).mono ?_; rintro e w5 ⟨rfl, hb5⟩; have hX5 : Below Wa.heap.size Wa w5 := (by first | exact below_then (Below.refl _ _).drew hb5 | exact below_then hX6 hb5); have d05 := still_of_below hX5 _ _ d0; have d15 := still_of_below hX5 _ _ d1; have d25 := still_of_below hX5 _ _ d2; have r05 := still_of_below hX5 _ _ r0; have r15 := still_of_below hX5 _ _ r1; have r25 := still_of_below hX5 _ _ r2; have r35 := still_of_below hX5 _ _ r3; have y05 := still_of_below hX5 _ _ y0; have y15 := still_of_below hX5 _ _ y1; have y25 := still_of_below hX5 _ _ y2; have y35 := still_of_below hX5 _ _ y3) | (go_at_call 48; refine (functions_any _ _ _ _ _ _ _ _).mono ?_; rintro e w6 ⟨rfl, hb6⟩; have hX6 : Below Wa.heap.size Wa w6 := (by first | exact below_then (Below.refl _ _).drew hb6 | exact below_then hX5 hb6); have d06 := still_of_below hX6 _ _ d0; have d16 := still_of_below hX6 _ _ d1; have d26 := still_of_below hX6 _ _ d2; have r06 := still_of_below hX6 _ _ r0; have r16 := still_of_below hX6 _ _ r1; have r26 := still_of_below hX6 _ _ r2; have r36 := still_of_below hX6 _ _ r3; have y06 := still_of_below hX6 _ _ y0; have y16 := still_of_below hX6 _ _ y1; have y26 := still_of_below hX6 _ _ y2; have y36 := still_of_below hX6 _ _ y3))
          all_goals
            go_wp2_with fail
            go_ret
            exact ⟨by rw [holds_not hlt HO.out HG.out]; rfl, below_then hb1 (below_then hBa (by assumption))⟩
        · have hge2 : decide ((p.fs.length : Int) ≤ xs[i].b) = false := by simpa using hge
          have HG : Hid (¬ (p.fs.length : Int) ≤ xs[i].b) := hge
          clear hge
          go_region_held3 (fun w' => w'.cell? ⟨w.heap.size, 0, none⟩ = some (.int .i64 9) ∧ w'.cell? ⟨w.heap.size, 1, none⟩ = some (.func (.func 47) #[] #[]) ∧ w'.cell? ⟨w.heap.size, 2, none⟩ = some (.func (.func 48) #[] #[]) ∧ w'.cell? ⟨w.heap.size + 1, 0, none⟩ = some (.slice fa p.fs.length fc) ∧ w'.cell? ⟨w.heap.size + 1, 1, none⟩ = some (.int .i64 p.futs) ∧ w'.cell? ⟨w.heap.size + 1, 2, none⟩ = some (.int .i64 p.depth) ∧ w'.cell? ⟨w.heap.size + 1, 3, none⟩ = some (.int .i64 p.fuel) ∧ w'.cell? ⟨wr.heap.size, 0, none⟩ = some (.int .i64 xs[i].o) ∧ w'.cell? ⟨wr.heap.size, 1, none⟩ = some (.int .i64 xs[i].a) ∧ w'.cell? ⟨wr.heap.size, 2, none⟩ = some (.int .i64 xs[i].b) ∧ w'.cell? ⟨wr.heap.size, 3, none⟩ = some (.int .i64 xs[i].c)) (first | exact ⟨d0, d1, d2, r0, r1, r2, r3, y0, y1, y2, y3⟩ | exact ⟨d05, d15, d25, r05, r15, r25, r35, y05, y15, y25, y35⟩ | exact ⟨d06, d16, d26, r06, r16, r26, r36, y06, y16, y26, y36⟩) (first | (go_at_call 47; refine (operandB_any xs[i] _).mono ?_; rintro e w5 ⟨rfl, hb5⟩; have hX5 : Below Wa.heap.size Wa w5 := (by first | exact below_then (Below.refl _ _).drew hb5 | exact below_then hX6 hb5); have d05 := still_of_below hX5 _ _ d0; have d15 := still_of_below hX5 _ _ d1; have d25 := still_of_below hX5 _ _ d2; have r05 := still_of_below hX5 _ _ r0; have r15 := still_of_below hX5 _ _ r1; have r25 := still_of_below hX5 _ _ r2; have r35 := still_of_below hX5 _ _ r3; have y05 := still_of_below hX5 _ _ y0; have y15 := still_of_below hX5 _ _ y1; have y25 := still_of_below hX5 _ _ y2; have y35 := still_of_below hX5 _ _ y3) | (go_at_call 48; refine (functions_any _ _ _ _ _ _ _ _).mono ?_; rintro e w6 ⟨rfl, hb6⟩; have hX6 : Below Wa.heap.size Wa w6 := (by first | exact below_then (Below.refl _ _).drew hb6 | exact below_then hX5 hb6); have d06 := still_of_below hX6 _ _ d0; have d16 := still_of_below hX6 _ _ d1; have d26 := still_of_below hX6 _ _ d2; have r06 := still_of_below hX6 _ _ r0; have r16 := still_of_below hX6 _ _ r1; have r26 := still_of_below hX6 _ _ r2; have r36 := still_of_below hX6 _ _ r3; have y06 := still_of_below hX6 _ _ y0; have y16 := still_of_below hX6 _ _ y1; have y26 := still_of_below hX6 _ _ y2; have y36 := still_of_below hX6 _ _ y3))
          all_goals
            go_wp2_with fail
            go_roundw
            case rel =>
              refine ⟨i + 1, by omega, by go_num, fun k h hk => ?_, below_then hBa (by assumption)⟩
              by_cases e : k = i
              · subst e; exact fun _ => (by have := HG.out; omega)
              · exact HK.out k h (by omega)
            case measure => simp [intOf]; omega
      · have ho2 : (xs[i].o == 9) = false := by simp [ho]
        have HO : Hid (¬ xs[i].o = 9) := ho
        clear ho
        go_wp2_with fail
        go_region
        all_goals
          go_wp2_with fail
          go_roundw
          case rel =>
            refine ⟨i + 1, by omega, by go_num, fun k h hk => ?_, hBa.drew⟩
            by_cases e : k = i
            · subst e; exact fun hh => absurd hh HO.out
            · exact HK.out k h (by omega)
          case measure => simp [intOf]; omega
    · go_wp2_with fail
      go_ret
      refine ⟨?_, below_then hb1 hB⟩
      rw [holds_all fun k hk => HK.out k hk (by omega)]
      rfl
end Go.Proofs.YtpmapdialjdcbaaDoor.V5
namespace Go.Proofs.YtpmapdialjdcbaaDoor.V5
open Go.RowKit
open C2 (In Pr SlF SlI InsAt Tab BoxedP below_alloc below_then still_of_below)
set_option maxHeartbeats 1000000 in
theorem holds_11 (p : Pr) (fa : Option Addr) (fc : Nat) (v : Value) (xs : List In) (w : World) (hI : SlI w v xs) (hl : xs.length ≤ 1000000) :
    Calls Tryd.prog 46 #[.agg #[.int .i64 11, .func (.func 44) #[] #[], .func (.func 49) #[] #[]], .agg #[.slice fa p.fs.length fc, .int .i64 p.futs, .int .i64 p.depth, .int .i64 p.fuel], v] w fun e w' => e = .returned (.bool (holdsB 11 In.a p.futs xs)) ∧ Below w.heap.size w w' := by
  have hb1 := below_alloc (below_alloc (Below.refl w.heap.size w) (.cells #[.int .i64 11, .func (.func 44) #[] #[], .func (.func 49) #[] #[]] 99)) (.cells #[.slice fa p.fs.length fc, .int .i64 p.futs, .int .i64 p.depth, .int .i64 p.fuel] 24)
  obtain ⟨b0, b1, b2⟩ := bound_box w (.int .i64 11) (.func (.func 44) #[] #[]) (.func (.func 49) #[] #[]) (.cells #[.slice fa p.fs.length fc, .int .i64 p.futs, .int .i64 p.depth, .int .i64 p.fuel] 24)
  have hp : ((w.alloc (.cells #[.int .i64 11, .func (.func 44) #[] #[], .func (.func 49) #[] #[]] 99)).alloc (.cells #[.slice fa p.fs.length fc, .int .i64 p.futs, .int .i64 p.depth, .int .i64 p.fuel] 24)).heap[w.heap.size + 1]? = some (.cells #[.slice fa p.fs.length fc, .int .i64 p.futs, .int .i64 p.depth, .int .i64 p.fuel] 24 (0, 0)) := by simpa using heap_alloc_new (w.alloc (.cells #[.int .i64 11, .func (.func 44) #[] #[], .func (.func 49) #[] #[]] 99)) (.cells #[.slice fa p.fs.length fc, .int .i64 p.futs, .int .i64 p.depth, .int .i64 p.fuel] 24)
  obtain ⟨q0, q1, q2, q3⟩ := prog_cells hp
  have hI1 := hI.still (still_of_below hb1)
  obtain ⟨ia, ic, rfl, hk⟩ := hI1
  clear hI hp
  go_enter Tryd.func46, Tryd.ntmps46
  go_wp2_with fail
  generalize hW0 : (w.alloc (.cells #[.int .i64 11, .func (.func 44) #[] #[], .func (.func 49) #[] #[]] 99)).alloc (.cells #[.slice fa p.fs.length fc, .int .i64 p.futs, .int .i64 p.depth, .int .i64 p.fuel] 24) = W0 at *
  clear hW0
  go_loopw [11] (fun iv wr => ∃ i : Nat, i ≤ xs.length ∧ iv = .int .i64 i ∧ (∀ k (h : k < xs.length), k < i → xs[k].o = 11 → xs[k].a < p.futs) ∧ Below W0.heap.size W0 wr) (fun iv _ => xs.length - (intOf iv).toNat)
  case atStart => exact ⟨0, by omega, rfl, fun k _ hk => by omega, Below.refl _ _⟩
  case round =>
    obtain ⟨i, hi, rfl, hk0, hB⟩ := hrel
    have HK : Hid (∀ k (h : k < xs.length), k < i → xs[k].o = 11 → xs[k].a < p.futs) := hk0
    clear hk0
    by_cases hlt : i < xs.length
    · obtain ⟨g, f, rfl, hA⟩ := hk i hlt
      have st := still_of_below hB
      obtain ⟨x0, x1, x2, x3⟩ := hA.still st
      have st1 := still_of_below (below_alloc hB (.cells #[.int .i64 xs[i].o, .int .i64 xs[i].a, .int .i64 xs[i].b, .int .i64 xs[i].c] 54))
      obtain ⟨y0, y1, y2, y3⟩ := ins_box wr xs[i]
      have d0 := st1 _ _ b0
      have d1 := st1 _ _ b1
      have d2 := st1 _ _ b2
      have r0 := st1 _ _ q0
      have r1 := st1 _ _ q1
      have r2 := st1 _ _ q2
      have r3 := st1 _ _ q3
      have hBa := below_alloc hB (.cells #[.int .i64 xs[i].o, .int .i64 xs[i].a, .int .i64 xs[i].b, .int .i64 xs[i].c] 54)
      clear st st1 hA
      by_cases ho : xs[i].o = 11
      · have ho2 : (xs[i].o == 11) = true := by simp [ho]
        have HO : Hid (xs[i].o = 11) := ho
        clear ho
        go_wp2_with fail
        generalize wr.alloc (.cells #[.int .i64 xs[i].o, .int .i64 xs[i].a, .int .i64 xs[i].b, .int .i64 xs[i].c] 54) = Wa at *
        by_cases hge : p.futs ≤ xs[i].a
        · have hge2 : decide (p.futs ≤ xs[i].a) = true := by simpa using hge
          have HG : Hid (p.futs ≤ xs[i].a) := hge
          clear hge
          go_region_held3 (fun w' => w'.cell? ⟨w.heap.size, 0, none⟩ = some (.int .i64 11) ∧ w'.cell? ⟨w.heap.size, 1, none⟩ = some (.func (.func 44) #[] #[]) ∧ w'.cell? ⟨w.heap.size, 2, none⟩ = some (.func (.func 49) #[] #[]) ∧ w'.cell? ⟨w.heap.size + 1, 0, none⟩ = some (.slice fa p.fs.length fc) ∧ w'.cell? ⟨w.heap.size + 1, 1, none⟩ = some (.int .i64 p.futs) ∧ w'.cell? ⟨w.heap.size + 1, 2, none⟩ = some (.int .i64 p.depth) ∧ w'.cell? ⟨w.heap.size + 1, 3, none⟩ = some (.int .i64 p.fuel) ∧ w'.cell? ⟨wr.heap.size, 0, none⟩ = some (.int .i64 xs[i].o) ∧ w'.cell? ⟨wr.heap.size, 1, none⟩ = some (.int .i64 xs[i].a) ∧ w'.cell? ⟨wr.heap.size, 2, none⟩ = some (.int .i64 xs[i].b) ∧ w'.cell? ⟨wr.heap.size, 3, none⟩ = some (.int .i64 xs[i].c)) (first | exact ⟨d0, d1, d2, r0, r1, r2, r3, y0, y1, y2, y3⟩ | exact ⟨d05, d15, d25, r05, r15, r25, r35, y05, y15, y25, y35⟩ | exact ⟨d06, d16, d26, r06, r16, r26, r36, y06, y16, y26, y36⟩) (first | (go_at_call 44; refine (operandA_any xs[i] _).mono ?_; rintro e w5 ⟨rfl, hb5⟩; have hX5 : Below Wa.heap.size Wa w5 := (by first | exact below_then (Below.refl _ _).drew hb5 | exact below_then hX6 hb5); have d05 := still_of_below hX5 _ _ d0; have d15 := still_of_below hX5 _ _ d1; have d25 := still_of_below hX5 _ _ d2; have r05 := still_of_below hX5 _ _ r0; have r15 := still_of_below hX5 _ _ r1; have r25 := still_of_below hX5 _ _ r2; have r35 := still_of_below hX5 _ _ r3; have y05 := still_of_below hX5 _ _ y0; have y15 := still_of_below hX5 _ _ y1; have y25 := still_of_below hX5 _ _ y2; have y35 := still_of_below hX5 _ _ y3) | (go_at_call 49; refine (futures_any _ _ _ _ _ _).mono ?_; rintro e w6 ⟨rfl, hb6⟩; have hX6 : Below Wa.heap.size Wa w6 := (by first | exact below_then (Below.refl _ _).drew hb6 | exact below_then hX5 hb6); have d06 := still_of_below hX6 _ _ d0; have d16 := still_of_below hX6 _ _ d1; have d26 := still_of_below hX6 _ _ d2; have r06 := still_of_below hX6 _ _ r0; have r16 := still_of_below hX6 _ _ r1; have r26 := still_of_below hX6 _ _ r2; have r36 := still_of_below hX6 _ _ r3; have y06 := still_of_below hX6 _ _ y0; have y16 := still_of_below hX6 _ _ y1; have y26 := still_of_below hX6 _ _ y2; have y36 := still_of_below hX6 _ _ y3))
          all_goals
            go_wp2_with fail
            go_ret
            exact ⟨by rw [holds_not hlt HO.out HG.out]; rfl, below_then hb1 (below_then hBa (by assumption))⟩
        · have hge2 : decide (p.futs ≤ xs[i].a) = false := by simpa using hge
          have HG : Hid (¬ p.futs ≤ xs[i].a) := hge
          clear hge
          go_region_held3 (fun w' => w'.cell? ⟨w.heap.size, 0, none⟩ = some (.int .i64 11) ∧ w'.cell? ⟨w.heap.size, 1, none⟩ = some (.func (.func 44) #[] #[]) ∧ w'.cell? ⟨w.heap.size, 2, none⟩ = some (.func (.func 49) #[] #[]) ∧ w'.cell? ⟨w.heap.size + 1, 0, none⟩ = some (.slice fa p.fs.length fc) ∧ w'.cell? ⟨w.heap.size + 1, 1, none⟩ = some (.int .i64 p.futs) ∧ w'.cell? ⟨w.heap.size + 1, 2, none⟩ = some (.int .i64 p.depth) ∧ w'.cell? ⟨w.heap.size + 1, 3, none⟩ = some (.int .i64 p.fuel) ∧ w'.cell? ⟨wr.heap.size, 0, none⟩ = some (.int .i64 xs[i].o) ∧ w'.cell? ⟨wr.heap.size, 1, none⟩ = some (.int .i64 xs[i].a) ∧ w'.cell? ⟨wr.heap.size, 2, none⟩ = some (.int .i64 xs[i].b) ∧ w'.cell? ⟨wr.heap.size, 3, none⟩ = some (.int .i64 xs[i].c)) (first | exact ⟨d0, d1, d2, r0, r1, r2, r3, y0, y1, y2, y3⟩ | exact ⟨d05, d15, d25, r05, r15, r25, r35, y05, y15, y25, y35⟩ | exact ⟨d06, d16, d26, r06, r16, r26, r36, y06, y16, y26, y36⟩) (first | (go_at_call 44; refine (operandA_any xs[i] _).mono ?_; rintro e w5 ⟨rfl, hb5⟩; have hX5 : Below Wa.heap.size Wa w5 := (by first | exact below_then (Below.refl _ _).drew hb5 | exact below_then hX6 hb5); have d05 := still_of_below hX5 _ _ d0; have d15 := still_of_below hX5 _ _ d1; have d25 := still_of_below hX5 _ _ d2; have r05 := still_of_below hX5 _ _ r0; have r15 := still_of_below hX5 _ _ r1; have r25 := still_of_below hX5 _ _ r2; have r35 := still_of_below hX5 _ _ r3; have y05 := still_of_below hX5 _ _ y0; have y15 := still_of_below hX5 _ _ y1; have y25 := still_of_below hX5 _ _ y2; have y35 := still_of_below hX5 _ _ y3) | (go_at_call 49; refine (futures_any _ _ _ _ _ _).mono ?_; rintro e w6 ⟨rfl, hb6⟩; have hX6 : Below Wa.heap.size Wa w6 := (by first | exact below_then (Below.refl _ _).drew hb6 | exact below_then hX5 hb6); have d06 := still_of_below hX6 _ _ d0; have d16 := still_of_below hX6 _ _ d1; have d26 := still_of_below hX6 _ _ d2; have r06 := still_of_below hX6 _ _ r0; have r16 := still_of_below hX6 _ _ r1; have r26 := still_of_below hX6 _ _ r2; have r36 := still_of_below hX6 _ _ r3; have y06 := still_of_below hX6 _ _ y0; have y16 := still_of_below hX6 _ _ y1; have y26 := still_of_below hX6 _ _ y2; have y36 := still_of_below hX6 _ _ y3))
          all_goals
            go_wp2_with fail
            go_roundw
            case rel =>
              refine ⟨i + 1, by omega, by go_num, fun k h hk => ?_, below_then hBa (by assumption)⟩
              by_cases e : k = i
              · subst e; exact fun _ => (by have := HG.out; omega)
              · exact HK.out k h (by omega)
            case measure => simp [intOf]; omega
      · have ho2 : (xs[i].o == 11) = false := by simp [ho]
        have HO : Hid (¬ xs[i].o = 11) := ho
        clear ho
        go_wp2_with fail
        go_region
        all_goals
          go_wp2_with fail
          go_roundw
          case rel =>
            refine ⟨i + 1, by omega, by go_num, fun k h hk => ?_, hBa.drew⟩
            by_cases e : k = i
            · subst e; exact fun hh => absurd hh HO.out
            · exact HK.out k h (by omega)
          case measure => simp [intOf]; omega
    · go_wp2_with fail
      go_ret
      refine ⟨?_, below_then hb1 hB⟩
      rw [holds_all fun k hk => HK.out k hk (by omega)]
      rfl
end Go.Proofs.YtpmapdialjdcbaaDoor.V5
