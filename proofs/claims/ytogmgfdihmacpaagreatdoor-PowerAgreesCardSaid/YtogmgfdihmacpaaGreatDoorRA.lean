/-
  Several parts in one text (RA).
-/
import Derived.Test.YtogmgfdihmacpaaGreatDoorMB
import Derived.Test.YtogmgfdihmacpaaGreatDoorRef6
import Derived.Great.BuildSlice
/-
  Contracts of the reference of layer 3, the first part: check, Mod, times, Mul, Add, Sub.
-/
namespace Go.Proofs.YtogmgfdihmacpaaGreatDoor
open Go.RowKit
set_option linter.unusedVariables false

set_option maxHeartbeats 800000 in
set_option maxRecDepth 20000 in
theorem rcheck_any (L : List ByteArray) (g n c : Nat) (w : World) (hn : n = L.length) (h0 : 0 < n) (hc : n ≤ c) (hc2 : c ≤ 1000) (hl : ∀ j (h : j < L.length), w.cell? ⟨g, j, none⟩ = some (.string L[j])) :
    Calls Tryz.prog 81 #[.slice (some ⟨g, 0, none⟩) n c] w fun e w' => (∃ v, e = .returned (.int .i64 v) ∧ ChkP (L[n - 1]'(by omega)) L v) ∧ w' = w := by
  subst hn
  have hw : IntKind.i64.wrap ((L.length : Int) - 1) = ((L.length - 1 : Nat) : Int) := by
    rw [IntWalk.i64_in _ (by omega)]; omega
  have hlast := hl (L.length - 1) (by omega)
  have HL := Lib.hid hl; clear hl
  go_enter Tryz.func81, Tryz.ntmps81
  go_wp2
  go_loop [3] (fun v => ∃ k : Nat, k ≤ L.length ∧ v = .int .i64 k ∧ Hid (∀ j (h : j < L.length), j < k → Can L[j])) (fun v => L.length - (intOf v).toNat)
  case atStart => exact ⟨0, by omega, rfl, fun j h hk => absurd hk (by omega)⟩
  case round =>
    obtain ⟨k, hk, rfl, HP⟩ := hrel
    by_cases hlt : k < L.length
    · have hcell := HL.out k hlt
      by_cases hcan : Can L[k]
      · have HC := Lib.hid hcan; clear hcan
        go_wp2_with fail
        refine (rvalid_yes L[k] _ HC.out).mono ?_; rintro e wx ⟨rfl, rfl⟩
        go_wp2
        go_round
        case rel =>
          refine ⟨k + 1, by omega, by go_num, fun j h hj => ?_⟩
          by_cases hjk : j = k
          · subst hjk; exact HC.out
          · exact HP.out j h (by omega)
        case measure => simp [intOf]; omega
      · have HC := Lib.hid hcan; clear hcan
        go_wp2_with fail
        refine (rvalid_no L[k] _ HC.out).mono ?_; rintro e wx ⟨rfl, rfl⟩
        go_wp2
        go_ret
        exact ⟨⟨3, rfl, .inl ⟨rfl, fun h => HC.out (h.2 _ (List.getElem_mem hlt))⟩⟩, rfl⟩
    · have hall : ∀ s, s ∈ L → Can s := by
        intro s hs
        obtain ⟨j, hj, rfl⟩ := List.mem_iff_getElem.1 hs
        exact HP.out j hj (by omega)
      have hcm : Can (L[L.length - 1]'(by omega)) := hall _ (List.getElem_mem _)
      have HALL := Lib.hid hall; clear hall
      have HCM := Lib.hid hcm; clear hcm
      by_cases h00 : (L[L.length - 1]'(by omega)).size = 0
      · have hE := empty_of h00
        have H0 := Lib.hid h00; clear h00
        go_wp2
        go_ret
        exact ⟨⟨11, rfl, .inr (.inl ⟨rfl, HCM.out, HALL.out, H0.out⟩)⟩, rfl⟩
      · have hE := not_empty_of h00
        have H0 := Lib.hid h00; clear h00
        go_wp2
        go_ret
        exact ⟨⟨0, rfl, .inr (.inr ⟨rfl, HCM.out, HALL.out, Nat.pos_of_ne_zero H0.out⟩)⟩, rfl⟩
theorem rcheck_new (m : ByteArray) (l L : List ByteArray) (n t : Nat) (vs : Array Value) (w : World) (hL : L = l ++ [m]) (hn : n = L.length) (hv : vs = (L.map Value.string).toArray) (h1000 : n ≤ 1000) :
    Calls Tryz.prog 81 #[.slice (some ⟨w.heap.size, 0, none⟩) n n] (w.alloc (.cells vs t)) fun e w' => (∃ v, e = .returned (.int .i64 v) ∧ ChkP m l v) ∧ w' = w.alloc (.cells vs t) := by
  have h0 : 0 < n := by rw [hn, hL]; simp
  refine (rcheck_any L w.heap.size n n _ hn h0 (Nat.le_refl _) h1000 fun j hj => ?_).mono ?_
  · have hr : (w.alloc (.cells vs t)).rowIs w.heap.size t vs.size (fun i => vs[i]?.getD (.bool false)) := World.rowIs_alloc w _ _ _ (fun i hi => by simp [hi])
    subst hv
    rw [hr.cell (by simpa using hj)]
    simp [hj]
  · rintro e w' ⟨⟨v, rfl, hv⟩, rfl⟩
    refine ⟨⟨v, rfl, ?_⟩, rfl⟩
    subst hL hn
    have e1 : (l ++ [m])[(l ++ [m]).length - 1]'(by simp) = m := by simp
    rw [e1] at hv
    unfold ChkP at hv ⊢
    simp only [List.mem_append, List.mem_singleton, or_imp, forall_and, forall_eq] at hv
    rcases hv with ⟨h1, h2⟩ | ⟨h1, h2, h3, h4⟩ | ⟨h1, h2, h3, h4⟩
    · exact .inl ⟨h1, fun h => h2 ⟨h.1, h.2, h.1⟩⟩
    · exact .inr (.inl ⟨h1, h2, h3.1, h4⟩)
    · exact .inr (.inr ⟨h1, h2, h3.1, h4⟩)

set_option maxHeartbeats 400000 in
theorem rmod_any (s t : ByteArray) (w : World) (hs : Can s) (ht : Can t) (h0 : 0 < V t) :
    Calls Tryz.prog 102 #[.string s, .string t] w fun e w' => e = .returned (.string (E (V s % V t))) ∧ Below w.heap.size w w' := by
  have hd := divN_pos (a := V s) (b := V t) (by omega)
  have HS := Lib.hid hs; clear hs
  have HT := Lib.hid ht; clear ht
  have HD := Lib.hid hd; clear hd
  go_enter Tryz.func102, Tryz.ntmps102
  go_wp2_with fail
  refine (rdivMod_yes s t _ HS.out HT.out).mono ?_
  rintro e w1 ⟨rfl, b1⟩
  rw [HD.out]
  go_wp2
  go_ret
  exact ⟨rfl, b1⟩
end Go.Proofs.YtogmgfdihmacpaaGreatDoor


/-
  Contracts of the reference of layer 3, the second part: times, Add, Sub, Mul.
-/
namespace Go.Proofs.YtogmgfdihmacpaaGreatDoor
open Go.RowKit
set_option linter.unusedVariables false

theorem smallE {n : Nat} (h : n < 18446744073709551616) : SmallC (E n) :=
  ⟨can_E' (small_lim h), by rw [E_size_le]; exact h⟩
theorem mul_mod2 (a b m : Nat) : a % m * (b % m) % m = a * b % m := (Nat.mul_mod a b m).symm
theorem lim64_two : 256 ^ 64 + 256 ^ 64 < Lim := by rw [lim_eq]; decide +kernel
theorem lim64_sq {x y : Nat} (hx : x < 256 ^ 64) (hy : y < 256 ^ 64) : x * y < Lim := by
  have h : 256 ^ 64 * 256 ^ 64 ≤ Lim := by rw [lim_eq]; decide +kernel
  exact Nat.lt_of_lt_of_le (Nat.mul_lt_mul'' hx hy) h

set_option maxHeartbeats 1000000 in
set_option maxRecDepth 20000 in
theorem rtimes_slow (a b m : ByteArray) (w w1 : World) (ha : Can a) (hb : Can b) (hm : Can m) (h0 : 0 < V m) (h64 : m.size ≤ 64) (v : Int) (g : Bool)
    (hs : ∀ w, Calls Tryz.prog 101 #[.string m] w fun e w' => e = .returned (.tuple #[.int .u64 v, .bool g]) ∧ w = w')
    (hg : g = false ∨ (g = true ∧ ¬ v < 2147483648)) :
    Calls Tryz.prog 82 #[.string a, .string b, .string m] w fun e w' => e = .returned (.string (E (V a * V b % V m))) ∧ Below w.heap.size w w' := by
  have hml : V m < 256 ^ 64 := (can_lt hm 64).2 h64
  obtain ⟨x, hx⟩ : ∃ x, x = V a % V m := ⟨_, rfl⟩
  obtain ⟨y, hy⟩ : ∃ y, y = V b % V m := ⟨_, rfl⟩
  have hxl : x < 256 ^ 64 := by rw [hx]; exact Nat.lt_trans (Nat.mod_lt _ h0) hml
  have hyl : y < 256 ^ 64 := by rw [hy]; exact Nat.lt_trans (Nat.mod_lt _ h0) hml
  have hp := lim64_sq hxl hyl
  have hfin : x * y % V m = V a * V b % V m := by rw [hx, hy, mul_mod2]
  have CX := Lib.hid (can_E' (show x < Lim from Nat.lt_of_lt_of_le hxl (Nat.le_of_lt (Nat.lt_of_le_of_lt (Nat.le_add_right _ _) lim64_two))))
  have CY := Lib.hid (can_E' (show y < Lim from Nat.lt_of_lt_of_le hyl (Nat.le_of_lt (Nat.lt_of_le_of_lt (Nat.le_add_right _ _) lim64_two))))
  have CP := Lib.hid (can_E' hp)
  have HOK := Lib.hid (okN_yes hp); clear hp
  have HFIN := Lib.hid hfin; clear hfin
  have H0 := Lib.hid h0; clear h0
  clear hml hxl hyl
  have HA := Lib.hid ha; clear ha
  have HB := Lib.hid hb; clear hb
  have HM := Lib.hid hm; clear hm
  have HX := Lib.hid hx; clear hx
  have HY := Lib.hid hy; clear hy
  have HS := Lib.hid hs; clear hs
  have tail : ∀ w3 : World, Below w.heap.size w w3 → True := fun _ _ => trivial
  rcases hg with rfl | ⟨rfl, hg⟩
  all_goals
    go_enter Tryz.func82, Tryz.ntmps82
    go_wp2_with fail
    refine (HS.out _).mono ?_; rintro e wx ⟨rfl, rfl⟩
    go_wp2_with fail
    refine (rmod_any a m _ HA.out HM.out H0.out).mono ?_; rintro e w2 ⟨rfl, b2⟩
    rw [← HX.out]
    have B2 := Lib.hid b2; clear b2
    go_wp2_with fail
    refine (rmod_any b m _ HB.out HM.out H0.out).mono ?_; rintro e w3 ⟨rfl, b3⟩
    rw [← HY.out]
    have B3 := Lib.hid (bnext B2.out b3); clear b3
    go_wp2_with fail
    refine (rmul_yes _ _ _ CX.out CY.out).mono ?_; rintro e w4 ⟨rfl, b4⟩
    rw [V_E, V_E, HOK.out]
    have B4 := Lib.hid (bnext B3.out b4); clear b4
    go_wp2_with fail
    refine (rmod_any _ m _ CP.out HM.out H0.out).mono ?_; rintro e w5 ⟨rfl, b5⟩
    rw [V_E, HFIN.out]
    have B5 := Lib.hid (bnext B4.out b5); clear b5
    go_wp2
    go_ret
    exact ⟨rfl, B5.out⟩

set_option maxHeartbeats 1000000 in
set_option maxRecDepth 20000 in
theorem rtimes_fast (a b m : ByteArray) (w : World) (ha : Can a) (hb : Can b) (hm : Can m) (h0 : 0 < V m) (hv : V m < 2147483648) :
    Calls Tryz.prog 82 #[.string a, .string b, .string m] w fun e w' => e = .returned (.string (E (V a * V b % V m))) ∧ Below w.heap.size w w' := by
  obtain ⟨M, hM⟩ : ∃ M, M = V m := ⟨_, rfl⟩
  obtain ⟨x, hx⟩ : ∃ x, x = V a % V m := ⟨_, rfl⟩
  obtain ⟨y, hy⟩ : ∃ y, y = V b % V m := ⟨_, rfl⟩
  have hxl : x < M := by rw [hx, hM]; exact Nat.mod_lt _ h0
  have hyl : y < M := by rw [hy, hM]; exact Nat.mod_lt _ h0
  have hM0 : 0 < M := by omega
  have hMv : M < 2147483648 := by omega
  obtain ⟨P, hP⟩ : ∃ P, P = x * y := ⟨_, rfl⟩
  have hPl : P < 18446744073709551616 := by
    have : x * y < 2147483648 * 2147483648 := Nat.mul_lt_mul'' (by omega) (by omega)
    omega
  have hwr : IntKind.u64.wrap ((x : Int) * (y : Int)) = (P : Int) := by
    rw [← Int.natCast_mul, ← hP]
    exact IntWalk.u64_in _ (by omega)
  obtain ⟨R, hR⟩ : ∃ R, R = P % M := ⟨_, rfl⟩
  have hRl : R < M := by rw [hR]; exact Nat.mod_lt _ hM0
  have hrem : ((P : Int) % (M : Int)) = (R : Int) := by rw [hR, Int.natCast_emod]
  obtain ⟨K, hK⟩ : ∃ K : Int, K = 2147483648 := ⟨_, rfl⟩
  have hKv : (M : Int) < K := by omega
  have hfin : R = V a * V b % V m := by rw [hR, hP, hx, hy, hM, mul_mod2]
  have hsm := rsmall_yes m
  have SM : SmallC m := by
    refine ⟨hm, ?_⟩
    have := (can_lt hm 8).1 (by omega)
    exact this
  have SX := Lib.hid (smallE (show x < 18446744073709551616 by omega))
  have SY := Lib.hid (smallE (show y < 18446744073709551616 by omega))
  have hRl2 : R < 18446744073709551616 := by omega
  have HFIN := Lib.hid hfin; clear hfin
  rw [← hM] at h0 hv
  have H0 := Lib.hid h0; clear h0
  have HP := Lib.hid hP; clear hP
  have HR := Lib.hid hR; clear hR
  have HA := Lib.hid ha; clear ha
  have HB := Lib.hid hb; clear hb
  have HMc := Lib.hid hm; clear hm
  have HX := Lib.hid hx; clear hx
  have HY := Lib.hid hy; clear hy
  have HSM := Lib.hid SM; clear SM hsm
  have HM := Lib.hid hM; clear hM
  have hMne : ¬ ((M : Int) = 0) := by omega
  clear hv hMv
  go_enter Tryz.func82, Tryz.ntmps82
  rw [← hK]
  clear hK
  go_wp2_with fail
  refine (rsmall_yes m _ HSM.out).mono ?_; rintro e wx ⟨rfl, rfl⟩
  rw [← HM.out]
  go_wp2_with fail
  refine (rmod_any a m _ HA.out HMc.out (by rw [← HM.out]; exact H0.out)).mono ?_; rintro e w2 ⟨rfl, b2⟩
  rw [← HX.out]
  have B2 := Lib.hid b2; clear b2
  go_wp2_with fail
  refine (rsmall_yes _ _ SX.out).mono ?_; rintro e wx ⟨rfl, rfl⟩
  rw [V_E]
  go_wp2_with fail
  refine (rmod_any b m _ HB.out HMc.out (by rw [← HM.out]; exact H0.out)).mono ?_; rintro e w3 ⟨rfl, b3⟩
  rw [← HY.out]
  have B3 := Lib.hid (bnext B2.out b3); clear b3
  go_wp2_with fail
  refine (rsmall_yes _ _ SY.out).mono ?_; rintro e wx ⟨rfl, rfl⟩
  rw [V_E]
  go_wp2_with fail
  refine (rof_any R _ hRl2).mono ?_; rintro e w4 ⟨rfl, b4⟩
  have B4 := Lib.hid (bnext B3.out b4); clear b4
  go_wp2
  go_ret
  exact ⟨by rw [HFIN.out]; rfl, B4.out⟩
theorem rtimes_m (a b m : ByteArray) (w : World) (ha : Can a) (hb : Can b) (hm : Can m) (h0 : 0 < V m) (h64 : m.size ≤ 64) :
    Calls Tryz.prog 82 #[.string a, .string b, .string m] w fun e w' => e = .returned (.string (E (V a * V b % V m))) ∧ Below w.heap.size w w' := by
  by_cases hs : SmallC m
  · by_cases hv : V m < 2147483648
    · exact rtimes_fast a b m w ha hb hm h0 hv
    · exact rtimes_slow a b m w w ha hb hm h0 h64 (V m) true (fun w => rsmall_yes m w hs) (.inr ⟨rfl, by omega⟩)
  · exact rtimes_slow a b m w w ha hb hm h0 h64 0 false (fun w => rsmall_no m w hs) (.inl rfl)
end Go.Proofs.YtogmgfdihmacpaaGreatDoor


/-
  Contracts of the reference of layer 3, the third part: Add, Sub, Mul; the errors.
-/
namespace Go.Proofs.YtogmgfdihmacpaaGreatDoor
open Go.RowKit
set_option linter.unusedVariables false

theorem lim64_lt {x : Nat} (h : x < 256 ^ 64) : x < Lim := Nat.lt_of_lt_of_le h (Nat.le_of_lt (Nat.lt_of_le_of_lt (Nat.le_add_right _ _) lim64_two))
theorem lim64_add {x y : Nat} (hx : x < 256 ^ 64) (hy : y < 256 ^ 64) : x + y < Lim := Nat.lt_trans (Nat.add_lt_add hx hy) lim64_two

set_option maxHeartbeats 800000 in
set_option maxRecDepth 20000 in
theorem rmul_err (a b m : ByteArray) (v : Int) (w : World) (hv : ∀ c, ChkP m [a, b] c → c = v) (h0 : (v != 0) = true) :
    Calls Tryz.prog 46 #[.string a, .string b, .string m] w fun e w' => e = .returned (.tuple #[.string ⟨#[]⟩, .int .i64 v]) ∧ Below w.heap.size w w' := by
  have HV := Lib.hid hv; clear hv
  go_enter Tryz.func46, Tryz.ntmps46
  go_wp2_with fail
  have b0 : Below w.heap.size w (w.alloc (.cells #[.string a, .string b, .string m] 22)) := (Below.refl _ _).alloc (Nat.le_refl _) _
  refine (rcheck_new m [a, b] ([a, b] ++ [m]) 3 22 #[.string a, .string b, .string m] w rfl rfl rfl (by omega)).mono ?_
  rintro e w1 ⟨⟨c, rfl, hc⟩, rfl⟩
  obtain rfl := HV.out c hc
  have B0 := Lib.hid b0; clear b0 hc
  generalize w.alloc _ = w1 at *
  go_wp2
  go_ret2
  exact ⟨rfl, B0.out⟩

set_option maxHeartbeats 800000 in
set_option maxRecDepth 20000 in
theorem rexp_err (a b m : ByteArray) (v : Int) (w : World) (hv : ∀ c, ChkP m [a, b] c → c = v) (h0 : (v != 0) = true) :
    Calls Tryz.prog 95 #[.string a, .string b, .string m] w fun e w' => e = .returned (.tuple #[.string ⟨#[]⟩, .int .i64 v]) ∧ Below w.heap.size w w' := by
  have HV := Lib.hid hv; clear hv
  go_enter Tryz.func95, Tryz.ntmps95
  go_wp2_with fail
  have b0 : Below w.heap.size w (w.alloc (.cells #[.string a, .string b, .string m] 22)) := (Below.refl _ _).alloc (Nat.le_refl _) _
  refine (rcheck_new m [a, b] ([a, b] ++ [m]) 3 22 #[.string a, .string b, .string m] w rfl rfl rfl (by omega)).mono ?_
  rintro e w1 ⟨⟨c, rfl, hc⟩, rfl⟩
  obtain rfl := HV.out c hc
  have B0 := Lib.hid b0; clear b0 hc
  generalize w.alloc _ = w1 at *
  go_wp2
  go_ret2
  exact ⟨rfl, B0.out⟩

set_option maxHeartbeats 800000 in
set_option maxRecDepth 20000 in
theorem rinverse_err (a m : ByteArray) (v : Int) (w : World) (hv : ∀ c, ChkP m [a] c → c = v) (h0 : (v != 0) = true) :
    Calls Tryz.prog 107 #[.string a, .string m] w fun e w' => e = .returned (.tuple #[.string ⟨#[]⟩, .int .i64 v]) ∧ Below w.heap.size w w' := by
  have HV := Lib.hid hv; clear hv
  go_enter Tryz.func107, Tryz.ntmps107
  go_wp2_with fail
  have b0 : Below w.heap.size w (w.alloc (.cells #[.string a, .string m] 22)) := (Below.refl _ _).alloc (Nat.le_refl _) _
  refine (rcheck_new m [a] ([a] ++ [m]) 2 22 #[.string a, .string m] w rfl rfl rfl (by omega)).mono ?_
  rintro e w1 ⟨⟨c, rfl, hc⟩, rfl⟩
  obtain rfl := HV.out c hc
  have B0 := Lib.hid b0; clear b0 hc
  generalize w.alloc _ = w1 at *
  go_wp2
  go_ret2
  exact ⟨rfl, B0.out⟩

set_option maxHeartbeats 800000 in
set_option maxRecDepth 20000 in
theorem rmul_m (a b m : ByteArray) (w : World) (ha : Can a) (hb : Can b) (hm : Can m) (h0 : 0 < m.size) (h64 : m.size ≤ 64) :
    Calls Tryz.prog 46 #[.string a, .string b, .string m] w fun e w' => e = .returned (.tuple #[.string (E (V a * V b % V m)), .int .i64 0]) ∧ Below w.heap.size w w' := by
  have hmp := can_pos hm h0
  have hml : V m < 256 ^ 64 := (can_lt hm 64).2 h64
  clear hml
  have H0 := Lib.hid hmp; clear hmp
  have HA := Lib.hid ha; clear ha
  have HB := Lib.hid hb; clear hb
  have HM := Lib.hid hm; clear hm
  go_enter Tryz.func46, Tryz.ntmps46
  go_wp2_with fail
  have b0 : Below w.heap.size w (w.alloc (.cells #[.string a, .string b, .string m] 22)) := (Below.refl _ _).alloc (Nat.le_refl _) _
  refine (rcheck_new m [a, b] ([a, b] ++ [m]) 3 22 #[.string a, .string b, .string m] w rfl rfl rfl (by omega)).mono ?_
  rintro e w1 ⟨⟨v, rfl, hv⟩, rfl⟩
  obtain rfl := hv.ok HM.out h0 (by intro s hs; simp at hs; rcases hs with rfl | rfl; exact HA.out; exact HB.out)
  have B0 := Lib.hid b0; clear b0 hv
  generalize w.alloc _ = w1 at *
  go_wp2_with fail
  refine (rtimes_m a b m _ HA.out HB.out HM.out H0.out h64).mono ?_; rintro e w2 ⟨rfl, b2⟩
  have B2 := Lib.hid (bnext B0.out b2); clear b2
  go_wp2
  go_ret2
  exact ⟨rfl, B2.out⟩
end Go.Proofs.YtogmgfdihmacpaaGreatDoor


/-
  Contracts of the reference of layer 3, the fourth part: raise, Exp.
-/
namespace Go.Proofs.YtogmgfdihmacpaaGreatDoor
open Go.RowKit
set_option linter.unusedVariables false

theorem pow_sq (a q m : Nat) : a ^ q % m * (a ^ q % m) % m = a ^ (2 * q) % m := by
  rw [← Nat.mul_mod, ← Nat.pow_add, Nat.two_mul]
theorem pow_sq1 (a q m : Nat) : a ^ (2 * q) % m * a % m = a ^ (2 * q + 1) % m := by
  rw [Nat.mod_mul_mod, Nat.pow_succ]

set_option maxHeartbeats 1000000 in
set_option maxRecDepth 20000 in
theorem rraise_m (a s m : ByteArray) (w : World) (ha : Can a) (hs : Can s) (hm : Can m) (h0 : 0 < V m) (h64 : m.size ≤ 64) :
    Calls Tryz.prog 108 #[.string a, .string s, .string m] w fun e w' => e = .returned (.string (E (V a ^ V s % V m))) ∧ Below w.heap.size w w' := by
  have hml : V m < 256 ^ 64 := (can_lt hm 64).2 h64
  have hcan : ∀ x, Can (E (x % V m)) := fun x => can_E' (lim64_lt (Nat.lt_trans (Nat.mod_lt _ h0) hml))
  have h1 : Can (E 1) := can_E' (small_lim (by omega))
  have hs128 := hs.1
  have hN := nb_bytes (V_lt s)
  have hup := up_step (V s)
  have htop : V s / 2 ^ nbits (V s) = 0 := Nat.div_eq_of_lt (lt_nbits' _)
  obtain ⟨N, hNe⟩ : ∃ N, N = nbits (V s) := ⟨_, rfl⟩
  rw [← hNe] at hN htop
  have hwN : IntKind.i64.wrap ((N : Int) - 1) = (N : Int) - 1 := by
    exact IntWalk.i64_in _ (by omega)
  have HML := Lib.hid hml; clear hml
  have HCAN := Lib.hid hcan; clear hcan
  have HS1 := Lib.hid h1; clear h1
  have HUP := Lib.hid hup; clear hup
  have HTOP := Lib.hid htop; clear htop
  have HA := Lib.hid ha; clear ha
  have HS := Lib.hid hs; clear hs
  have HM := Lib.hid hm; clear hm
  have H0 := Lib.hid h0; clear h0
  have HNE := Lib.hid hNe; clear hNe
  go_enter Tryz.func108, Tryz.ntmps108
  go_wp2_with fail
  refine (rof_any 1 _ (by omega)).mono ?_; rintro e w2 ⟨rfl, b2⟩
  have B2 := Lib.hid b2; clear b2
  go_wp2_with fail
  refine (rmod_any _ m _ HS1.out HM.out H0.out).mono ?_; rintro e w3 ⟨rfl, b3⟩
  rw [V_E]
  have b3f := bnext B2.out b3; clear b3
  go_wp2_with fail
  refine (rbitsv_yes s _ HS.out).mono ?_; rintro e wx ⟨rfl, rfl⟩
  rw [← HNE.out]
  go_wp2
  go_loopw [7, 8] (fun u v wr => ∃ k : Nat, k ≤ N ∧ u = .string (E (V a ^ (V s / 2 ^ k) % V m)) ∧ v = .int .i64 ((k : Int) - 1) ∧ Below w.heap.size w wr) (fun _ v _ => (intOf v + 1).toNat)
  case atStart => exact ⟨N, Nat.le_refl _, by rw [HTOP.out, Nat.pow_zero], rfl, b3f⟩
  case round =>
    obtain ⟨k, hk, rfl, rfl, hbel⟩ := hrel
    have BB := Lib.hid hbel; clear hbel
    rcases Nat.eq_zero_or_pos k with rfl | hpos
    · go_wp2
      go_ret
      exact ⟨by simp, BB.out⟩
    · obtain ⟨j, rfl⟩ : ∃ j, k = j + 1 := ⟨k - 1, by omega⟩
      obtain ⟨q, hq⟩ : ∃ q, q = V s / 2 ^ (j + 1) := ⟨_, rfl⟩
      have hqs := HUP.out j
      rw [← hq] at hqs ⊢
      have hj : ((j + 1 : Nat) : Int) - 1 = (j : Int) := by omega
      rw [hj]
      have HQ := Lib.hid hq; clear hq
      have HQS := Lib.hid hqs; clear hqs
      have HJ := Lib.hid hj; clear hj
      go_wp2_with fail
      refine (rtimes_m _ _ m _ (HCAN.out _) (HCAN.out _) HM.out H0.out h64).mono ?_; rintro e w4 ⟨rfl, b4⟩
      rw [V_E, pow_sq]
      have B4 := Lib.hid (bnext BB.out b4); clear b4
      go_wp2_with fail
      refine (rbit_yes s j _ HS.out (by omega)).mono ?_; rintro e wx ⟨rfl, rfl⟩
      rcases hb : (V s).testBit j with _ | _
      · rw [hb] at HQS
        have HQ2 := Lib.hid (show 2 * q = V s / 2 ^ j by rw [HQS.out]; rfl)
        have B4f := B4.out
        go_wp2
        go_roundw
        case rel => exact ⟨j, by omega, by rw [HQ2.out], by go_num, B4f⟩
        case measure => simp [intOf]
      · rw [hb] at HQS
        have HQ2 := Lib.hid (show 2 * q + 1 = V s / 2 ^ j by rw [HQS.out]; rfl)
        go_wp2_with fail
        refine (rtimes_m _ a m _ (HCAN.out _) HA.out HM.out H0.out h64).mono ?_; rintro e w5 ⟨rfl, b5⟩
        rw [V_E, pow_sq1]
        have B5f := bnext B4.out b5; clear b5
        go_wp2
        go_roundw
        case rel => exact ⟨j, by omega, by rw [HQ2.out], by go_num, B5f⟩
        case measure => simp [intOf]
end Go.Proofs.YtogmgfdihmacpaaGreatDoor

