/-
  AsmHeads: the walk.
-/
import Derived.Test.YtdpagipbaddnfaaDoorDec
namespace Go.Proofs.YtdpagipbaddnfaaDoor
open Go.RowKit L3
open C2 (Tab)

theorem str7 (x0 x1 x2 x3 x4 x5 x6 : ByteArray) (k : Nat) (hk : k < 7) (w : World) : (Instr.index 41 (.agg #[.string x0, .string x1, .string x2, .string x3, .string x4, .string x5, .string x6]) (.int .i64 (k : Int))).run Tryd.prog w = .ok (.string ([x0, x1, x2, x3, x4, x5, x6].getD k x0)) w := by
  rcases (by omega : k = 0 ∨ k = 1 ∨ k = 2 ∨ k = 3 ∨ k = 4 ∨ k = 5 ∨ k = 6) with rfl | rfl | rfl | rfl | rfl | rfl | rfl <;> kernel_rfl
theorem int7 (k : Nat) (hk : k < 7) (w : World) : (Instr.index 42 (.agg #[.int .i64 1, .int .i64 2, .int .i64 3, .int .i64 1, .int .i64 2, .int .i64 3, .int .i64 3]) (.int .i64 (k : Int))).run Tryd.prog w = .ok (.int .i64 (wrongN k)) w := by
  rcases (by omega : k = 0 ∨ k = 1 ∨ k = 2 ∨ k = 3 ∨ k = 4 ∨ k = 5 ∨ k = 6) with rfl | rfl | rfl | rfl | rfl | rfl | rfl <;> kernel_rfl
/-- the strings of the walk: the three lines, the rest; their texts -/
structure HdAt (f d u : Nat) (A1 A B1 B C1 C : ByteArray) (k : Nat) (T : ByteArray) : Prop where
  a1 : ⟨#[102, 117, 116, 117, 114, 101, 115, 32]⟩ ++ strB (decN f) = A1
  a : A1 ++ ⟨#[10]⟩ = A
  b1 : ⟨#[100, 101, 112, 116, 104, 32]⟩ ++ strB (decN d) = B1
  b : B1 ++ ⟨#[10]⟩ = B
  c1 : ⟨#[102, 117, 101, 108, 32]⟩ ++ strB (decN u) = C1
  c : C1 ++ ⟨#[10]⟩ = C
  sa : A.size ≤ 13
  sb : B.size ≤ 13
  sc : C.size ≤ 13
  sa1 : A1.size ≤ 13
  sb1 : B1.size ≤ 13
  sc1 : C1.size ≤ 13
  good : ⟨#[35, 32, 119, 111, 114, 100, 115, 10]⟩ ++ A ++ B ++ C ++ ⟨#[102, 117, 110, 99, 116, 105, 111, 110, 10, 32, 114, 101, 116, 32, 48, 10]⟩ = strB (wordsC ++ textL [hl 16 f, hl 17 d, hl 18 u, fnL, rtL])
  t : [B ++ A ++ C ++ ⟨#[102, 117, 110, 99, 116, 105, 111, 110, 10, 32, 114, 101, 116, 32, 48, 10]⟩, A ++ C ++ ⟨#[102, 117, 110, 99, 116, 105, 111, 110, 10, 32, 114, 101, 116, 32, 48, 10]⟩, A ++ B ++ ⟨#[102, 117, 110, 99, 116, 105, 111, 110, 10, 32, 114, 101, 116, 32, 48, 10]⟩, ⟨#[102, 117, 116, 117, 114, 101, 115, 32, 49, 55, 10]⟩ ++ B ++ C ++ ⟨#[102, 117, 110, 99, 116, 105, 111, 110, 10, 32, 114, 101, 116, 32, 48, 10]⟩, A ++ ⟨#[100, 101, 112, 116, 104, 32, 54, 10]⟩ ++ C ++ ⟨#[102, 117, 110, 99, 116, 105, 111, 110, 10, 32, 114, 101, 116, 32, 48, 10]⟩, A ++ B ++ ⟨#[102, 117, 101, 108, 32, 48, 10]⟩ ++ ⟨#[102, 117, 110, 99, 116, 105, 111, 110, 10, 32, 114, 101, 116, 32, 48, 10]⟩, A ++ B].getD k (B ++ A ++ C ++ ⟨#[102, 117, 110, 99, 116, 105, 111, 110, 10, 32, 114, 101, 116, 32, 48, 10]⟩) = T
  tw : T = strB (textL (wrongL f d u k))
theorem strB_x (k : Nat) (x : Nat) : strB (wordOf k ++ [32]) ++ strB (decN x) ++ strB [10] = strB (hl k x).x := by
  have e : decB (x : Int) = decN x := by simp [decB, signL]
  rw [strB_append, strB_append]
  simp [hl, wl, lnB, opsB, moreB, sp1, e]
theorem hdAt {f d u k : Nat} (hf : f ≤ 16) (hd : d ≤ 5) (hu : u ≤ 500) (hk : k < 7) : ∃ A1 A B1 B C1 C T, HdAt f d u A1 A B1 B C1 C k T := by
  have ea : strB (hl 16 f).x = ⟨#[102, 117, 116, 117, 114, 101, 115, 32]⟩ ++ strB (decN f) ++ ⟨#[10]⟩ := (strB_x 16 f).symm
  have eb : strB (hl 17 d).x = ⟨#[100, 101, 112, 116, 104, 32]⟩ ++ strB (decN d) ++ ⟨#[10]⟩ := (strB_x 17 d).symm
  have ec : strB (hl 18 u).x = ⟨#[102, 117, 101, 108, 32]⟩ ++ strB (decN u) ++ ⟨#[10]⟩ := (strB_x 18 u).symm
  have la := hl_length (k := 16) (x := f) (by omega) (by omega)
  have lb := hl_length (k := 17) (x := d) (by omega) (by omega)
  have lc := hl_length (k := 18) (x := u) (by omega) (by omega)
  rw [← strB_size] at la lb lc
  have er : (⟨#[102, 117, 110, 99, 116, 105, 111, 110, 10, 32, 114, 101, 116, 32, 48, 10]⟩ : ByteArray) = strB (textL [fnL, rtL]) := by
    have : textL [fnL, rtL] = [102, 117, 110, 99, 116, 105, 111, 110, 10, 32, 114, 101, 116, 32, 48, 10] := by simp [textL, fnL, rtL, wl, lnB, opsB, moreB, sp1, decB, signL, decN, wordOf, formsT]
    rw [this]
    rfl
  have e17 : (⟨#[102, 117, 116, 117, 114, 101, 115, 32, 49, 55, 10]⟩ : ByteArray) = strB (hl 16 (17 : Nat)).x := by
    rw [← strB_x 16 17, strB_append, strB_append]
    simp [decN, wordOf, formsT, strB]
  have e6 : (⟨#[100, 101, 112, 116, 104, 32, 54, 10]⟩ : ByteArray) = strB (hl 17 (6 : Nat)).x := by
    rw [← strB_x 17 6, strB_append, strB_append]
    simp [decN, wordOf, formsT, strB]
  have e0 : (⟨#[102, 117, 101, 108, 32, 48, 10]⟩ : ByteArray) = strB (hl 18 (0 : Nat)).x := by
    rw [← strB_x 18 0, strB_append, strB_append]
    simp [decN, wordOf, formsT, strB]
  refine ⟨⟨#[102, 117, 116, 117, 114, 101, 115, 32]⟩ ++ strB (decN f), strB (hl 16 f).x, ⟨#[100, 101, 112, 116, 104, 32]⟩ ++ strB (decN d), strB (hl 17 d).x, ⟨#[102, 117, 101, 108, 32]⟩ ++ strB (decN u), strB (hl 18 u).x, _, ⟨rfl, ea.symm, rfl, eb.symm, rfl, ec.symm, la, lb, lc, ?_, ?_, ?_, ?_, rfl, ?_⟩⟩
  · rw [ea, ByteArray.size_append] at la
    omega
  · rw [eb, ByteArray.size_append] at lb
    omega
  · rw [ec, ByteArray.size_append] at lc
    omega
  · have ew : (⟨#[35, 32, 119, 111, 114, 100, 115, 10]⟩ : ByteArray) = strB wordsC := rfl
    rw [er, ew, strB_append, strB_append, strB_append, strB_append]
    congr 1
    simp [textL]
  · rw [er, e17, e6, e0]
    rcases (by omega : k = 0 ∨ k = 1 ∨ k = 2 ∨ k = 3 ∨ k = 4 ∨ k = 5 ∨ k = 6) with rfl | rfl | rfl | rfl | rfl | rfl | rfl <;> simp [wrongL, strB_append, textL]
theorem drew_below {w w1 : World} (h : ∃ m, w1 = w.drewN m) : Below w.heap.size w w1 := by
  obtain ⟨m, rfl⟩ := h
  exact C2.below_drewN (Below.refl _ _) m
set_option maxRecDepth 4000 in
set_option maxHeartbeats 2000000 in
theorem heads_walk (x0 x1 x2 x3 : Int) (W : World) (hT : Tab W) (hF : FTab W) : Calls Tryd.prog 5 #[.int .i64 x0, .int .i64 x1, .int .i64 x2, .int .i64 x3] W fun e w' => e = .returned (.bool true) ∧ Below W.heap.size W w' := by
  obtain ⟨f, hf, hf17⟩ := place_nat x0 17 (by omega)
  obtain ⟨d, hd, hd6⟩ := place_nat x1 6 (by omega)
  obtain ⟨u0, hu, hu5⟩ := place_nat x2 500 (by omega)
  obtain ⟨k, hk, hk7⟩ := place_nat x3 7 (by omega)
  have p1 := L3.place_any x0 17 W (by omega) (by omega)
  have p2 := L3.place_any x1 6 W (by omega) (by omega)
  have p3 := L3.place_any x2 500 W (by omega) (by omega)
  have p4 := fun w => L3.place_any x3 7 w (by omega) (by omega)
  rw [hf] at p1
  rw [hd] at p2
  rw [hu] at p3
  simp only [hk] at p4
  obtain ⟨u, hud⟩ : ∃ u : Nat, 1 + u0 = u := ⟨_, rfl⟩
  have hu' : (1 : Int) + (u0 : Int) = (u : Int) := by omega
  have q1 := fun w => ldec_any f (by omega) w
  have q2 := fun w => ldec_any d (by omega) w
  have q3 := fun w => ldec_any u (by omega) w
  have hgood := hd_good (f := f) (d := d) (u := u) (by omega) (by omega) (by omega) (by omega)
  have hwrong := hd_wrong f d u k (by omega) (by omega) (by omega) (by omega)
  obtain ⟨A1, A, B1, B, C1, C, T, hH⟩ := hdAt (f := f) (d := d) (u := u) (k := k) (by omega) (by omega) (by omega) (by omega)
  have hs7 := fun w => str7 (B ++ A ++ C ++ ⟨#[102, 117, 110, 99, 116, 105, 111, 110, 10, 32, 114, 101, 116, 32, 48, 10]⟩) (A ++ C ++ ⟨#[102, 117, 110, 99, 116, 105, 111, 110, 10, 32, 114, 101, 116, 32, 48, 10]⟩) (A ++ B ++ ⟨#[102, 117, 110, 99, 116, 105, 111, 110, 10, 32, 114, 101, 116, 32, 48, 10]⟩) (⟨#[102, 117, 116, 117, 114, 101, 115, 32, 49, 55, 10]⟩ ++ B ++ C ++ ⟨#[102, 117, 110, 99, 116, 105, 111, 110, 10, 32, 114, 101, 116, 32, 48, 10]⟩) (A ++ ⟨#[100, 101, 112, 116, 104, 32, 54, 10]⟩ ++ C ++ ⟨#[102, 117, 110, 99, 116, 105, 111, 110, 10, 32, 114, 101, 116, 32, 48, 10]⟩) (A ++ B ++ ⟨#[102, 117, 101, 108, 32, 48, 10]⟩ ++ ⟨#[102, 117, 110, 99, 116, 105, 111, 110, 10, 32, 114, 101, 116, 32, 48, 10]⟩) (A ++ B) k (by omega) w
  rw [hH.t] at hs7
  have hi7 := fun w => int7 k (by omega) w
  obtain ⟨wn, hwn⟩ : ∃ x, wrongN k = x := ⟨_, rfl⟩
  rw [hwn] at hi7 hwrong
  have hP1 := fun (w' : World) (hb : Below W.heap.size W w') => Parse_l hH.good w' (hT.below hb) (hF.below hb)
  have hP2 := fun (w' : World) (hb : Below W.heap.size W w') => Parse_l hH.tw w' (hT.below hb) (hF.below hb)
  unfold ParsePost at hP1 hP2
  rw [hgood] at hP1
  rw [hwrong] at hP2
  simp only [pr0] at hP1 hP2
  obtain ⟨z1, z2, z3, z4, z5, z6, sa, sb, sc, sa1, sb1, sc1, zg, zt, ztw⟩ := hH
  clear zg zt ztw
  obtain ⟨S1, hS1⟩ : ∃ S, strB (decN f) = S := ⟨_, rfl⟩
  obtain ⟨S2, hS2⟩ : ∃ S, strB (decN d) = S := ⟨_, rfl⟩
  obtain ⟨S3, hS3⟩ : ∃ S, strB (decN u) = S := ⟨_, rfl⟩
  have l1 : S1.size ≤ 7 := by rw [← hS1, strB_size]; exact decN_len f (by omega)
  have l2 : S2.size ≤ 7 := by rw [← hS2, strB_size]; exact decN_len d (by omega)
  have l3 : S3.size ≤ 7 := by rw [← hS3, strB_size]; exact decN_len u (by omega)
  rw [hS1] at q1 z1
  rw [hS2] at q2 z3
  rw [hS3] at q3 z5
  clear hS1 hS2 hS3 hgood hwrong hf hd hu hk hud hwn
  go_enter Tryd.func5, Tryd.ntmps5
  go_wp2_with fail
  refine p1.mono ?_
  rintro e w1 ⟨rfl, hw1⟩
  subst hw1
  go_wp2_with fail
  refine p2.mono ?_
  rintro e w2 ⟨rfl, hw2⟩
  subst hw2
  go_wp2_with fail
  refine p3.mono ?_
  rintro e w3 ⟨rfl, hw3⟩
  subst hw3
  clear p1 p2 p3
  go_wp2_with fail
  refine (q1 _).mono ?_
  rintro e w4 ⟨rfl, hw4⟩
  have hb4 := drew_below hw4
  clear hw4 q1
  go_wp2_with fail
  refine (q2 _).mono ?_
  rintro e w5 ⟨rfl, hw5⟩
  have hb5 := below_then hb4 (drew_below hw5)
  clear hw5 q2 hb4
  go_wp2_with fail
  refine (q3 _).mono ?_
  rintro e w6 ⟨rfl, hw6⟩
  have hb6 := below_then hb5 (drew_below hw6)
  clear hw6 q3 hb5
  go_wp2_with fail
  refine (hP1 _ hb6).mono ?_
  rintro e w7 ⟨fa, fl, fc, rfl, hS7, hb7'⟩
  obtain ⟨rfl, hk7'⟩ := slF_at hS7
  obtain ⟨g, o, ia, ic, rfl, _, _⟩ := hk7' 0 (by simp)
  have hb7 := below_alloc (below_then hb6 hb7') (.cells #[.slice (some ⟨g, o, none⟩) 1 fc, .int .i64 (f : Int), .int .i64 (d : Int), .int .i64 (u : Int)] 24)
  have HB7 : Hid (Below w3.heap.size w3 (w7.alloc (.cells #[.slice (some ⟨g, o, none⟩) 1 fc, .int .i64 (f : Int), .int .i64 (d : Int), .int .i64 (u : Int)] 24))) := hb7
  have hPp := hP2 _ HB7.out
  clear hP1 hb6 hb7' hb7 hS7 hk7' hP2
  simp only [List.length_cons, List.length_nil]
  go_wp2_with fail
  refine (p4 _).mono ?_
  rintro e w8 ⟨rfl, hw8⟩
  subst hw8
  clear p4
  go_wp2_with fail
  refine hPp.mono ?_
  rintro e w9 ⟨fa2, fl2, fc2, rfl, hS9, hb9⟩
  obtain ⟨rfl, _⟩ := slF_at hS9
  have hbA := below_then HB7.out hb9
  have hawA := fun (w' : World) (hb : Below w3.heap.size w3 w') => awake_any w' (hT.below hb) (hF.below hb)
  have HBA : Hid (Below w3.heap.size w3 w9) := hbA
  clear hPp HB7 hS9 hb9 hbA hs7 hi7
  simp only [List.length_nil]
  go_wp2_with (go_at_call 9; refine (hawA _ (by first | exact HBA.out | exact below_alloc HBA.out _)).mono ?_; rintro e w10 ⟨rfl, hb10⟩)
  go_ret
  exact ⟨rfl, below_then (by first | exact HBA.out | exact below_alloc HBA.out _) hb10⟩
end Go.Proofs.YtdpagipbaddnfaaDoor
