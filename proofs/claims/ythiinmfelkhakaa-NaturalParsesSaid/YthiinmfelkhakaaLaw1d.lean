/-
  The walks of NaturalReads and NaturalAdds.
-/
import Derived.Test.YthiinmfelkhakaaRef3
namespace Go.Proofs.Ythiinmfelkhakaa
open Go.RowKit
set_option linter.unusedVariables false

theorem bb_eq (b : Bool) : (b == b) = true := by simp
theorem l_beq (b : ByteArray) : (b.toList == b.toList) = true := by simp
theorem i_beq (a : Int) : (a == a) = true := by simp
theorem str1 (w : World) (s : ByteArray) (t : TypeId) : Strs (w.alloc (.cells #[.string s] t)) w.heap.size 1 (fun _ => s) := by
  intro j hj
  obtain rfl : j = 0 := by omega
  rw [World.cell?_alloc_new]; rfl
theorem str2 (w : World) (s u : ByteArray) (t : TypeId) : Strs (w.alloc (.cells #[.string s, .string u] t)) w.heap.size 2 (fun j => if j = 0 then s else u) := by
  intro j hj
  have : j = 0 ∨ j = 1 := by omega
  rcases this with rfl | rfl <;> (rw [World.cell?_alloc_new]; rfl)

theorem valid_agree (s : ByteArray) : ∃ b : Bool,
    (∀ w, Calls Try.prog 19 #[.string s] w fun e w' => e = .returned (.bool b) ∧ w = w') ∧
    (∀ w, Calls Try.prog 20 #[.string s] w fun e w' => e = .returned (.bool b) ∧ w = w') := by
  by_cases h : Can s
  · exact ⟨true, fun w => valid_yes s w h, fun w => rvalid_yes s w h⟩
  · exact ⟨false, fun w => valid_no s w h, fun w => rvalid_no s w h⟩
theorem small_agree (s : ByteArray) : ∃ (n : Nat) (b : Bool),
    (∀ w, Calls Try.prog 17 #[.string s] w fun e w' => e = .returned (.tuple #[.int .u64 n, .bool b]) ∧ w = w') ∧
    (∀ w, Calls Try.prog 18 #[.string s] w fun e w' => e = .returned (.tuple #[.int .u64 n, .bool b]) ∧ w = w') := by
  by_cases h : SmallC s
  · exact ⟨V s, true, fun w => small_yes s w h, fun w => rsmall_yes s w h⟩
  · exact ⟨0, false, fun w => small_no s w h, fun w => rsmall_no s w h⟩
theorem bits_agree (s : ByteArray) : ∃ n : Nat,
    (∀ w, Calls Try.prog 21 #[.string s] w fun e w' => e = .returned (.int .i64 n) ∧ w = w') ∧
    (∀ w, Calls Try.prog 22 #[.string s] w fun e w' => e = .returned (.int .i64 n) ∧ w = w') := by
  by_cases h : Can s
  · exact ⟨nbits (V s), fun w => bits_yes s w h, fun w => rbitsv_yes s w h⟩
  · exact ⟨0, fun w => bits_no s w h, fun w => rbitsv_no s w h⟩
theorem bit_agree (s : ByteArray) (i : Int) (hi : i ≤ 9223372036854775807) : ∃ b : Bool,
    (∀ w, Calls Try.prog 23 #[.string s, .int .i64 i] w fun e w' => e = .returned (.bool b) ∧ w = w') ∧
    (∀ w, Calls Try.prog 24 #[.string s, .int .i64 i] w fun e w' => e = .returned (.bool b) ∧ w = w') := by
  by_cases h : ¬ Can s ∨ i < 0
  · exact ⟨false, fun w => bit_no s i w h, fun w => rbit_no s i w h⟩
  · have hc : Can s := Classical.byContradiction fun q => h (.inl q)
    have h0 : 0 ≤ i := by
      have : ¬ i < 0 := fun q => h (.inr q)
      omega
    obtain ⟨n, rfl⟩ := Int.eq_ofNat_of_zero_le h0
    exact ⟨(V s).testBit n, fun w => bit_yes s n w hc (by omega), fun w => rbit_yes s n w hc (by omega)⟩
theorem cmp_agree (s t : ByteArray) : ∃ c : Int,
    (∀ w, Calls Try.prog 26 #[.string s, .string t] w fun e w' => e = .returned (.int .i64 c) ∧ w = w') ∧
    (∀ w, Calls Try.prog 31 #[.string s, .string t] w fun e w' => e = .returned (.int .i64 c) ∧ ∃ q, w.drewN q = w') := by
  by_cases h : Can s ∧ Can t
  · exact ⟨sgn (V s) (V t), fun w => cmp_yes s t w h.1 h.2, fun w => rcmp_yes s t w h.1 h.2⟩
  · exact ⟨0, fun w => cmp_no s t w h, fun w => (rcmp_no s t w h).mono fun e w' q => ⟨q.1, 0, q.2⟩⟩
theorem okN_code (n : Nat) : ∃ (b : ByteArray) (v : Nat), okN n = .tuple #[.string b, .int .i64 v] ∧ v ≤ 100 := by
  unfold okN; split
  · exact ⟨_, 0, rfl, by omega⟩
  · exact ⟨_, 5, rfl, by omega⟩
theorem subN_code (n m : Nat) : ∃ (b : ByteArray) (v : Nat), subN n m = .tuple #[.string b, .int .i64 v] ∧ v ≤ 100 := by
  unfold subN; split
  · exact ⟨_, 0, rfl, by omega⟩
  · exact ⟨_, 2, rfl, by omega⟩
theorem same_below {e : Ending} {w w' : World} {v : Value} {B : Nat} (h : e = .returned v ∧ w = w') : e = .returned v ∧ Below B w w' := ⟨h.1, h.2 ▸ Below.refl _ _⟩
theorem add_agree (s t : ByteArray) : ∃ (b : ByteArray) (v : Nat), v ≤ 100 ∧
    (∀ w, Calls Try.prog 27 #[.string s, .string t] w fun e w' => e = .returned (.tuple #[.string b, .int .i64 v]) ∧ Below w.heap.size w w') ∧
    (∀ w, Calls Try.prog 28 #[.string s, .string t] w fun e w' => e = .returned (.tuple #[.string b, .int .i64 v]) ∧ Below w.heap.size w w') := by
  by_cases h : Can s ∧ Can t
  · obtain ⟨b, v, hv, hl⟩ := okN_code (V s + V t)
    exact ⟨b, v, hl, fun w => hv ▸ add_yes s t w h.1 h.2, fun w => hv ▸ radd_yes s t w h.1 h.2⟩
  · exact ⟨E 0, 3, by omega, fun w => (add_no s t w h).mono fun _ _ => same_below, fun w => (radd_no s t w h).mono fun _ _ => same_below⟩
theorem sub_agree (s t : ByteArray) : ∃ (b : ByteArray) (v : Nat), v ≤ 100 ∧
    (∀ w, Calls Try.prog 29 #[.string s, .string t] w fun e w' => e = .returned (.tuple #[.string b, .int .i64 v]) ∧ Below w.heap.size w w') ∧
    (∀ w, Calls Try.prog 30 #[.string s, .string t] w fun e w' => e = .returned (.tuple #[.string b, .int .i64 v]) ∧ Below w.heap.size w w') := by
  by_cases h : Can s ∧ Can t
  · obtain ⟨b, v, hv, hl⟩ := subN_code (V s) (V t)
    exact ⟨b, v, hl, fun w => hv ▸ sub_yes s t w h.1 h.2, fun w => hv ▸ rsub_yes s t w h.1 h.2⟩
  · exact ⟨E 0, 3, by omega, fun w => (sub_no s t w h).mono fun _ _ => same_below, fun w => (rsub_no s t w h).mono fun _ _ => same_below⟩

set_option maxHeartbeats 4000000 in
set_option maxRecDepth 20000 in
theorem naturalReads_walk (s : ByteArray) (i : Int) (w : World) (hs : s.size ≤ maxLen) (hi : i ≤ 9223372036854775807) (hi2 : -9223372036854775808 ≤ i) :
    Calls Try.prog 3 #[.string s, .int .i64 i] w fun e w' => e = .returned (.bool true) ∧ Below w.heap.size w w' := by
  unfold maxLen at hs
  have hal := (Below.refl w.heap.size w).alloc (Nat.le_refl _) (.cells #[.string s] 22)
  have hst := str1 w s 22
  have HST := Lib.hid hst; clear hst
  have HAL := Lib.hid hal; clear hal
  by_cases hf : s.size ≤ 200
  · obtain ⟨b1, hv1, hv2⟩ := valid_agree s
    obtain ⟨n2, b2, hs1, hs2⟩ := small_agree s
    obtain ⟨n3, hb1, hb2⟩ := bits_agree s
    obtain ⟨b4, hc1, hc2⟩ := bit_agree s i hi
    have hv1 := Lib.hid hv1
    have hv2 := Lib.hid hv2
    have hs1 := Lib.hid hs1
    have hs2 := Lib.hid hs2
    have hb1 := Lib.hid hb1
    have hb2 := Lib.hid hb2
    have hc1 := Lib.hid hc1
    have hc2 := Lib.hid hc2
    have e1 := bb_eq b1
    have e2 := bb_eq b2
    have e4 := bb_eq b4
    have e3 := i_beq n2
    have e5 := i_beq n3
    go_enter Try.func3, Try.ntmps3
    go_wp2_with fail
    refine (few_yes _ 1 _ _ (by omega) HST.out (fun _ _ => hf)).mono ?_
    rintro e w1 ⟨rfl, rfl⟩
    go_wp2_with fail
    refine (hs1.out _).mono ?_
    rintro e w1 ⟨rfl, rfl⟩
    go_wp2_with fail
    refine (hs2.out _).mono ?_
    rintro e w1 ⟨rfl, rfl⟩
    go_wp2_with fail
    refine (awake1 _).mono ?_
    rintro e w1 ⟨rfl, c1⟩
    have c1 := bnext HAL.out c1
    go_wp2_with fail
    refine (hv1.out _).mono ?_
    rintro e w2 ⟨rfl, rfl⟩
    go_wp2_with fail
    refine (hv2.out _).mono ?_
    rintro e w2 ⟨rfl, rfl⟩
    go_wp2_with fail
    refine (hb1.out _).mono ?_
    rintro e w2 ⟨rfl, rfl⟩
    go_wp2_with fail
    refine (hb2.out _).mono ?_
    rintro e w2 ⟨rfl, rfl⟩
    go_wp2_with fail
    refine (hc1.out _).mono ?_
    rintro e w2 ⟨rfl, rfl⟩
    go_wp2_with fail
    refine (hc2.out _).mono ?_
    rintro e w2 ⟨rfl, rfl⟩
    go_wp2
    go_ret
    exact ⟨rfl, c1⟩
  · go_enter Try.func3, Try.ntmps3
    go_wp2_with fail
    refine (few_no _ 1 _ _ (by omega) HST.out (fun _ _ => by omega) (fun q => hf (q 0 (by omega)))).mono ?_
    rintro e w1 ⟨rfl, rfl⟩
    go_wp2_with fail
    refine (awake1 _).mono ?_
    rintro e w1 ⟨rfl, c1⟩
    have c1 := bnext HAL.out c1
    go_wp2
    go_ret
    exact ⟨rfl, c1⟩

theorem law_NaturalReads (a0 : ByteArray) (a1 : Int) (w0 : a0.size ≤ maxLen) (w1 : (Lit.int .i64 a1).wf = true) (w : World) :
    Calls Try.prog 3 #[.string a0, .int .i64 a1] w fun e w' => e = .returned (.bool true) ∧ Below w.heap.size w w' := by
  have b1 := bounds_i64 w1
  exact naturalReads_walk a0 a1 w w0 (by omega) (by omega)

set_option maxHeartbeats 4000000 in
set_option maxRecDepth 20000 in
theorem law_NaturalAdds (a0 a1 : ByteArray) (w0 : a0.size ≤ maxLen) (w1 : a1.size ≤ maxLen) (w : World) :
    Calls Try.prog 5 #[.string a0, .string a1] w fun e w' => e = .returned (.bool true) ∧ Below w.heap.size w w' := by
  unfold maxLen at w0 w1
  have hal := (Below.refl w.heap.size w).alloc (Nat.le_refl _) (.cells #[.string a0, .string a1] 22)
  have hst := str2 w a0 a1 22
  have HST := Lib.hid hst; clear hst
  have HAL := Lib.hid hal; clear hal
  by_cases hf : a0.size ≤ 200 ∧ a1.size ≤ 200
  · obtain ⟨x1, v1, l1, ha1, ha2⟩ := add_agree a0 a1
    obtain ⟨x2, v2, l2, hs1, hs2⟩ := sub_agree a0 a1
    obtain ⟨c3, hc1, hc2⟩ := cmp_agree a0 a1
    have ha1 := Lib.hid ha1
    have ha2 := Lib.hid ha2
    have hs1 := Lib.hid hs1
    have hs2 := Lib.hid hs2
    have hc1 := Lib.hid hc1
    have hc2 := Lib.hid hc2
    have hfew : ∀ j, j < 2 → (if j = 0 then a0 else a1).size ≤ 200 := fun j _ => by split; exact hf.1; exact hf.2
    have HF := Lib.hid hfew
    clear hfew hf
    have e1 := l_beq x1
    have e2 := l_beq x2
    have e3 := i_beq v1
    have e4 := i_beq v2
    have e5 := i_beq c3
    go_enter Try.func5, Try.ntmps5
    go_wp2_with fail
    refine (few_yes _ 2 _ _ (by omega) HST.out HF.out).mono ?_
    rintro e w1 ⟨rfl, rfl⟩
    go_wp2_with fail
    refine (ha1.out _).mono ?_
    rintro e w1 ⟨rfl, d1⟩
    have d1 := bnext HAL.out d1; clear HAL HST
    go_wp2_with fail
    refine (ha2.out _).mono ?_
    rintro e w2 ⟨rfl, d2⟩
    have d2 := bnext d1 d2; clear d1
    go_wp2_with fail
    refine (hs1.out _).mono ?_
    rintro e w3 ⟨rfl, d3⟩
    have d3 := bnext d2 d3; clear d2
    go_wp2_with fail
    refine (hs2.out _).mono ?_
    rintro e w4 ⟨rfl, d4⟩
    have d4 := bnext d3 d4; clear d3
    go_wp2_with fail
    refine (awake1 _).mono ?_
    rintro e w5 ⟨rfl, d5⟩
    have d5 := bnext d4 d5; clear d4
    go_wp2_with fail
    refine (hc1.out _).mono ?_
    rintro e w6 ⟨rfl, rfl⟩
    go_wp2_with fail
    refine (hc2.out _).mono ?_
    rintro e w6 ⟨rfl, q, rfl⟩
    go_wp2
    go_ret
    exact ⟨rfl, below_d d5 q⟩
  · have hfew : ¬ ∀ j, j < 2 → (if j = 0 then a0 else a1).size ≤ 200 := fun q => hf ⟨q 0 (by omega), q 1 (by omega)⟩
    have HF := Lib.hid hfew
    have hm : ∀ j, j < 2 → (if j = 0 then a0 else a1).size ≤ 9223372036854775807 := fun j _ => by split <;> omega
    have HM := Lib.hid hm
    clear hfew hf hm
    go_enter Try.func5, Try.ntmps5
    go_wp2_with fail
    refine (few_no _ 2 _ _ (by omega) HST.out HM.out HF.out).mono ?_
    rintro e w1 ⟨rfl, rfl⟩
    go_wp2_with fail
    refine (awake1 _).mono ?_
    rintro e w1 ⟨rfl, c1⟩
    have c1 := bnext HAL.out c1
    go_wp2
    go_ret
    exact ⟨rfl, c1⟩
end Go.Proofs.Ythiinmfelkhakaa
