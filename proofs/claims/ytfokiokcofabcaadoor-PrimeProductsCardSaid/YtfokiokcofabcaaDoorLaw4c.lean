/-
  Layer 4's statements: PrimeProducts.
-/
import Derived.Test.YtfokiokcofabcaaDoorLaw4b
namespace Go.Proofs.YtfokiokcofabcaaDoor
open Go.RowKit Go.Deep
set_option linter.unusedVariables false

/-! ### PrimeProducts -/
theorem prod_snoc {L : List Nat} {x : Nat} : QR.prodL (L ++ [x]) = QR.prodL L * x := by
  induction L with
  | nil => show x * 1 = 1 * x; omega
  | cons y L ih => show y * QR.prodL (L ++ [x]) = y * QR.prodL L * x; rw [ih, Nat.mul_assoc]
theorem prod_app {L M : List Nat} : QR.prodL (L ++ M) = QR.prodL L * QR.prodL M := by
  induction L with
  | nil => show QR.prodL M = 1 * QR.prodL M; omega
  | cons y L ih => show y * QR.prodL (L ++ M) = y * QR.prodL L * QR.prodL M; rw [ih, Nat.mul_assoc]
theorem prod_pos {L : List Nat} (h : ∀ p, p ∈ L → 2 ≤ p) : 0 < QR.prodL L := Nat.lt_of_lt_of_le (Nat.two_pow_pos _) (QR.pow_len_le h)
theorem facs_ge2 {n : Nat} (h0 : 0 < n) : ∀ p, p ∈ QR.facs n → 2 ≤ p := fun p hp => ((QR.facs_spec h0).2.1 p hp).1.1
theorem prod_take {n i : Nat} (h0 : 0 < n) : QR.prodL ((QR.facs n).take i) ≤ n := by
  have h1 := (QR.facs_spec h0).1
  have h2 : QR.prodL ((QR.facs n).take i) * QR.prodL ((QR.facs n).drop i) = n := by rw [← prod_app, List.take_append_drop]; exact h1
  have h3 := prod_pos (L := (QR.facs n).drop i) (fun p hp => facs_ge2 h0 p (List.mem_of_mem_drop hp))
  have := Nat.mul_le_mul_left (QR.prodL ((QR.facs n).take i)) h3
  omega
/-- The factor at a place. -/
def FX (n i : Nat) : Nat := (QR.facs n).getD i 0
theorem fx_mem {n i : Nat} (h : i < (QR.facs n).length) : FX n i ∈ QR.facs n := by
  unfold FX
  rw [List.getD_eq_getElem?_getD, List.getElem?_eq_getElem h, Option.getD_some]
  exact List.getElem_mem h
theorem fx_sorted {n i : Nat} (h0 : 0 < n) (h : i + 1 < (QR.facs n).length) : FX n i ≤ FX n (i + 1) := by
  have hs := (QR.facs_spec h0).2.2
  have := List.pairwise_iff_getElem.1 hs i (i + 1) (by omega) h (by omega)
  unfold FX
  rw [List.getD_eq_getElem?_getD, List.getD_eq_getElem?_getD, List.getElem?_eq_getElem h, List.getElem?_eq_getElem (by omega), Option.getD_some, Option.getD_some]
  exact this
def lastX (n i : Nat) : Nat := if i = 0 then 0 else FX n (i - 1)
theorem lastX_le {n i : Nat} (h0 : 0 < n) (h : i < (QR.facs n).length) : lastX n i ≤ FX n i := by
  unfold lastX
  split
  · omega
  · have := fx_sorted (i := i - 1) h0 (by omega)
    rwa [show i - 1 + 1 = i by omega] at this
/-- What the loop of PrimeProducts knows. -/
def ProR (n : Nat) (w : World) (y : Nat) (vp vl vi : Value) (wr : World) : Prop :=
  ∃ i : Nat, i + y = (QR.facs n).length ∧ vi = .int .i64 i ∧ vp = .int .u64 (QR.prodL ((QR.facs n).take i) : Nat) ∧ vl = .int .u64 (lastX n i : Nat) ∧ Below w.heap.size w wr
theorem is_prime {n : Nat} (w : World) (hn : n < 18446744073709551616) (hp : QR.Pr n) :
    Calls Tryd.prog 13 #[.string (E n)] w fun e w' => e = .returned (.tuple #[.bool true, .int .i64 0]) ∧ Below w.heap.size w w' := by
  refine (is_yes n w hn).mono ?_
  rintro e w' ⟨⟨b, rfl, hb⟩, hw⟩
  obtain rfl : b = true := hb.mpr (QR.prime_StrongOk hp _)
  exact ⟨rfl, hw⟩
set_option maxHeartbeats 2000000 in
set_option maxRecDepth 100000 in
theorem products_any (c N : Nat) (w : World) (m : Nat) (hm : (c : Int) % 1099511627775 = (m : Int)) (hN : N = m + 1) (hl : m < 1099511627775) (hc : c < 18446744073709551616) :
    Calls Tryd.prog 11 #[.int .u64 (c : Int)] w fun e w' => e = .returned (.bool true) ∧ Below w.heap.size w w' := by
  have hN0 : 0 < N := by omega
  have hNl : N < 1099511627776 := by omega
  have hi : IntKind.u64.wrap ((m : Int) + 1) = (N : Int) := by rw [IntWalk.u64_in _ (by omega)]; omega
  have HL := Lib.hid hNl
  have H0 := Lib.hid hN0
  have HNU := Lib.hid (show N < 18446744073709551616 by omega)
  have hlen := facs40 (pre := QR.facs N) (suf := []) hN0 hNl (by simp)
  clear hNl hN0 hN hl hc
  go_enter Tryd.func11, Tryd.ntmps11
  go_wp2_with fail
  refine (rof4_any N _ HNU.out).mono ?_; rintro e w1 ⟨rfl, b1⟩
  have B1 := Lib.hid b1; clear b1 hm hi
  go_wp2_with fail
  refine (pfac_yes N _ H0.out HL.out).mono ?_; rintro e w2 ⟨v, rfl, ⟨p, cap, rfl, hcells⟩, b2⟩
  have HC := Lib.hid hcells; clear hcells
  have B2 := Lib.hid (bnext B1.out b2); clear b2
  obtain ⟨k, hk⟩ : ∃ k, k = (QR.facs N).length := ⟨_, rfl⟩
  rw [← hk] at HC hlen ⊢
  have HK := Lib.hid hk; clear hk
  go_wp2
  go_loopg [5, 6, 31] k (fun y vp vl vi wr => ProR N w2 y vp vl vi wr)
  case atStart => exact ⟨0, by rw [HK.out]; omega, rfl, rfl, rfl, Below.refl _ _⟩
  case round =>
    obtain ⟨i, hi, rfl, rfl, rfl, hb⟩ := hrel
    rw [← HK.out] at hi
    by_cases hlt : i < k
    · obtain ⟨g, rfl, hg, hcell0⟩ := HC.out i hlt
      have hcellA := (hb.cell (p := ⟨g, i, none⟩) hg).trans hcell0
      have hlt2 : i < (QR.facs N).length := by rw [← HK.out]; exact hlt
      obtain ⟨hpr, hle⟩ := (QR.facs_spec H0.out).2.1 _ (fx_mem hlt2)
      have hlast := lastX_le H0.out hlt2
      have HT := Lib.hid (show QR.prodL ((QR.facs N).take (i + 1)) = QR.prodL ((QR.facs N).take i) * FX N i by rw [take_snoc4 hlt2, prod_snoc]; rfl)
      have hpt := prod_take (i := i + 1) H0.out
      have hp0 := prod_take (i := i) H0.out
      rw [HT.out] at hpt
      have HLX := Lib.hid (show lastX N (i + 1) = FX N i by unfold lastX; rw [if_neg (by omega)]; rfl)
      obtain ⟨x, hx⟩ : ∃ x, x = FX N i := ⟨_, rfl⟩
      obtain ⟨y, hy⟩ : ∃ y, y = lastX N i := ⟨_, rfl⟩
      obtain ⟨z, hz⟩ : ∃ z, z = QR.prodL ((QR.facs N).take i) := ⟨_, rfl⟩
      have hcell : wr.cell? ⟨g, i, none⟩ = some (.string (E x)) := by rw [hcellA, hx]; rfl
      clear hcellA
      rw [← hx] at hpr hle hlast HT hpt HLX
      rw [← hy] at hlast ⊢
      rw [← hz] at HT hpt hp0 ⊢
      clear hx hy hz hcell0
      have HPR := Lib.hid hpr; clear hpr
      obtain ⟨q, hq⟩ : ∃ q, q = z * x := ⟨_, rfl⟩
      have hqi : (z : Int) * (x : Int) = (q : Int) := by rw [hq]; simp
      rw [← hq] at HT hpt
      have hxl : x < 18446744073709551616 := by have := HNU.out; omega
      have hql : q < 18446744073709551616 := by have := HNU.out; omega
      have HX := Lib.hid hxl
      have hw : IntKind.u64.wrap ((z : Int) * (x : Int)) = (q : Int) := by rw [hqi]; exact IntWalk.u64_in _ (by omega)
      have d1 : decide ((x : Int) < (y : Int)) = false := decide_eq_false (by omega)
      have d2 : decide ((N : Int) < (x : Int)) = false := decide_eq_false (by omega)
      have hn1 : ¬ x < y := by omega
      have hn2 : ¬ N < x := by omega
      clear hq hqi hpt hp0 hxl hql hle hlast
      have HB := Lib.hid hb; clear hb
      have hki : (i : Int) < (k : Int) := by omega
      go_wp2_with fail
      refine (ru4_yes _ _ (smallP HX.out).2).mono ?_; rintro e w' ⟨rfl, rfl⟩
      rw [V_E]
      go_wp2_with fail
      refine (is_prime _ HX.out HPR.out).mono ?_; rintro e w4 ⟨rfl, b4⟩
      have B4 := Lib.hid (bnext HB.out b4); clear b4
      go_wp2
      go_roundg (k - (i + 1))
      case measure => omega
      case rel => exact ⟨i + 1, by rw [← HK.out]; omega, by go_num, by rw [HT.out], by rw [HLX.out], B4.out⟩
    · have hik : i = (QR.facs N).length := by rw [← HK.out]; omega
      have hprod : QR.prodL ((QR.facs N).take i) = N := by rw [hik, List.take_length]; exact (QR.facs_spec H0.out).1
      rw [hprod]
      clear hprod hik
      have HB := Lib.hid (bnext B2.out hb); clear hb
      go_wp2_with fail
      refine (awake4 _).mono ?_; rintro e w5 ⟨rfl, b5⟩
      have B5 := Lib.hid (bnext HB.out b5); clear b5
      go_wp2
      go_ret
      exact ⟨rfl, B5.out⟩
theorem law_PrimeProducts (c : Int) (l0 : (Lit.int .u64 c).wf = true) (w : World) :
    Calls Tryd.prog 11 #[.int .u64 c] w fun e w' => e = .returned (.bool true) ∧ Below w.heap.size w w' := by
  have hc := bounds_u64 l0
  obtain ⟨m, rfl⟩ := Int.eq_ofNat_of_zero_le hc.1
  exact products_any m (m % 1099511627775 + 1) w (m % 1099511627775) (by omega) rfl (Nat.mod_lt _ (by omega)) (by omega)
end Go.Proofs.YtfokiokcofabcaaDoor
