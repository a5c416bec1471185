/-
  Contracts of the reference of layer 1: twos, Sqrt.
-/
import Derived.Test.YthiinmfelkhakaaRef6
namespace Go.Proofs.Ythiinmfelkhakaa
open Go.RowKit
set_option linter.unusedVariables false

/-- What twos' row holds. -/
def tw (k j : Nat) : Nat := if j = 0 then 2 ^ k else 0
theorem two_pow_lt {m : Nat} (h : m < 8) : 2 ^ m < 256 := by
  have : m = 0 ∨ m = 1 ∨ m = 2 ∨ m = 3 ∨ m = 4 ∨ m = 5 ∨ m = 6 ∨ m = 7 := by omega
  rcases this with rfl | rfl | rfl | rfl | rfl | rfl | rfl | rfl <;> decide
theorem tw_dig {p m : Nat} (hm : m < 8) (j : Nat) (hj : j < p + 1) : tw m j = dig (2 ^ (8 * p + m)) (p + 1 - 1 - j) := by
  have e : 2 ^ (8 * p + m) = 256 ^ p * 2 ^ m := by rw [Nat.pow_add, pow256]
  unfold tw
  rw [e]
  by_cases h : j = 0
  · subst h
    rw [if_pos rfl, show p + 1 - 1 - 0 = p by omega]
    unfold dig
    rw [Nat.mul_div_cancel_left _ (p256 p), Nat.mod_eq_of_lt (two_pow_lt hm)]
  · rw [if_neg h]
    have e2 : 256 ^ p = 256 ^ (p + 1 - 1 - j) * (256 * 256 ^ (j - 1)) := by rw [← Nat.pow_succ', ← Nat.pow_add]; congr 1; omega
    rw [e2]
    unfold dig
    rw [dig_none]
theorem tw_bytes {w : World} {g p m : Nat} (hm : m < 8) (h : w.rowIs g 5 (p + 1) (fun j => .int .u8 (tw m j : Nat))) : Bytes w g 0 (beN (p + 1) (2 ^ (8 * p + m))) := by
  refine part_done (t := 5) (World.rowIs.congr h fun j hj => ?_)
  unfold partB
  rw [if_pos (by omega), tw_dig hm j hj]
theorem tw_E {p m : Nat} (hm : m < 8) : (⟨(beN (p + 1) (2 ^ (8 * p + m))).toArray⟩ : ByteArray) = E (2 ^ (8 * p + m)) := by
  have e : 2 ^ (8 * p + m) = 256 ^ p * 2 ^ m := by rw [Nat.pow_add, pow256]
  have hlt : 2 ^ (8 * p + m) < 256 ^ (p + 1) := by
    rw [e, Nat.pow_succ]; exact Nat.mul_lt_mul_of_pos_left (two_pow_lt hm) (p256 p)
  have hpos : 0 < 2 ^ m := Nat.pow_pos (by omega)
  rw [← E_beN hlt]
  congr 2
  refine (strip_can ?_).symm
  have hg := beN_get (p + 1) (2 ^ (8 * p + m)) 0 (by omega)
  rw [show p + 1 - 1 - 0 = p by omega, e, Nat.mul_div_cancel_left _ (p256 p), Nat.mod_eq_of_lt (two_pow_lt hm)] at hg
  rw [← e] at hg
  cases hl : beN (p + 1) (2 ^ (8 * p + m)) with
  | nil => exact can_nil
  | cons c l =>
    rw [hl] at hg
    simp at hg
    intro hc
    have hcz : c = 0 := by simpa using hc
    rw [hcz] at hg
    have h2 := congrArg UInt8.toNat hg
    have h3 : (UInt8.ofNat (2 ^ m)).toNat = 2 ^ m := by
      have := ofNat_mod_toNat (2 ^ m)
      rwa [Nat.mod_eq_of_lt (two_pow_lt hm)] at this
    rw [h3] at h2
    have : (0 : UInt8).toNat = 0 := rfl
    omega

set_option maxHeartbeats 400000 in
theorem rtwos_any (i : Nat) (w : World) (hi : i ≤ 2000) :
    Calls Try.prog 89 #[.int .i64 i] w fun e w' => e = .returned (.string (E (2 ^ i))) ∧ Below w.heap.size w w' := by
  obtain ⟨p, hp⟩ : ∃ p, p = i / 8 := ⟨_, rfl⟩
  obtain ⟨m, hm⟩ : ∃ m, m = i % 8 := ⟨_, rfl⟩
  have hmk := run_make_bytes1 p (by omega)
  have hpi : (i : Int) / 8 = (p : Int) := by omega
  have hmi : (i : Int) % 8 = (m : Int) := by omega
  have hm8 : m < 8 := by omega
  have hp9 : p ≤ 300 := by omega
  have HE := Lib.hid (tw_E (p := p) hm8)
  have hie : 8 * p + m = i := by omega
  rw [hie] at HE
  have HIE := Lib.hid hie
  clear hie hp hm
  have hz4 : (w.alloc (.cells ((madeCells #[.int .u8 0] (p + 1)).setIfInBounds 0 (.int .u8 1)) 5)).rowIs w.heap.size 5 (p + 1) (fun j => .int .u8 (tw 0 j : Nat)) := by
    have hsz : ((madeCells #[.int .u8 0] (p + 1)).setIfInBounds 0 (.int .u8 1)).size = p + 1 := by simp [madeCells]
    have h := World.rowIs_alloc w ((madeCells #[.int .u8 0] (p + 1)).setIfInBounds 0 (.int .u8 1)) 5 (fun j => .int .u8 (tw 0 j : Nat)) (fun j hj => by
      rw [hsz] at hj
      rw [Array.getElem?_setIfInBounds]
      by_cases h0 : j = 0
      · subst h0
        simp [madeCells, tw]
      · rw [if_neg (fun h => h0 h.symm)]
        simp [madeCells, hj, Nat.mod_one, tw, h0])
    rwa [hsz] at h
  have hz1 := (World.rowIs_made w (.int .u8 0) (p + 1) 5).cell (i := 0) (by omega)
  have hz2 := (World.rowIs_made w (.int .u8 0) (p + 1) 5).frozen 0
  have HZ := Lib.hid hz4
  clear hz4
  go_enter Try.func89, Try.ntmps89
  go_wp2
  go_loopw [4] (fun v wr => ∃ k : Nat, k ≤ m ∧ v = .int .i64 k ∧ wr.rowIs w.heap.size 5 (p + 1) (fun j => .int .u8 (tw k j : Nat)) ∧ Below w.heap.size w wr) (fun v _ => m - (intOf v).toNat)
  case atStart =>
    exact ⟨0, by omega, rfl, HZ.out, (Below.refl _ _).alloc (Nat.le_refl _) _⟩
  case round =>
    clear HZ hz1 hz2
    obtain ⟨k, hk, rfl, hrow, hbel⟩ := hrel
    by_cases hlt : k < m
    · have hcell := hrow.cell (i := 0) (by omega)
      have hfr := hrow.frozen 0
      have hy6 : 2 ^ k ≤ 64 := Nat.pow_le_pow_right (n := 2) (by omega) (show k ≤ 6 by omega)
      obtain ⟨y, hy⟩ : ∃ y, y = 2 ^ k := ⟨_, rfl⟩
      rw [← hy] at hy6
      have hcell : wr.cell? ⟨w.heap.size, 0, none⟩ = some (.int .u8 (y : Nat)) := by rw [hcell, hy]; rfl
      have HY := Lib.hid hy; clear hy
      have HR := Lib.hid hrow; clear hrow
      go_wp2
      go_roundw
      case rel =>
        exact ⟨k + 1, by omega, by go_num, set_row (h := fun j => tw (k + 1) j) HR.out (by unfold tw; rw [if_pos rfl, Nat.pow_succ, ← HY.out]; simp; omega) (fun j hj => by unfold tw; rw [if_neg hj, if_neg hj]), hbel.setCell (Nat.le_refl _) _⟩
      case measure => simp [intOf]; omega
    · obtain rfl : k = m := by omega
      have hcv := run_bytes_string (tw_bytes hm8 hrow) (p + 1) (p + 1) (by rw [beN_length])
      rw [HIE.out, HE.out] at hcv
      clear hrow
      go_wp2
      go_ret
      exact ⟨rfl, hbel⟩

theorem sq_top {n k : Nat} (h : isq n < 2 ^ k) : isq n / 2 ^ k * 2 ^ k = 0 := by rw [Nat.div_eq_of_lt h, Nat.zero_mul]
/-- The square root's digits above k. -/
def sk (n k : Nat) : Nat := isq n / 2 ^ k * 2 ^ k
theorem sk_zero (n : Nat) : sk n 0 = isq n := by unfold sk; rw [Nat.pow_zero, Nat.div_one, Nat.mul_one]
theorem sk_le (n k : Nat) : sk n k ≤ isq n := Nat.div_mul_le_self _ _
theorem sk_step (n i : Nat) : ((sk n (i + 1) + 2 ^ i) * (sk n (i + 1) + 2 ^ i) ≤ n → sk n i = sk n (i + 1) + 2 ^ i) ∧ (¬ (sk n (i + 1) + 2 ^ i) * (sk n (i + 1) + 2 ^ i) ≤ n → sk n i = sk n (i + 1)) := by
  have hp : 0 < 2 ^ i := Nat.pow_pos (by omega)
  have e : sk n (i + 1) = isq n / 2 ^ i / 2 * 2 * 2 ^ i := by
    unfold sk
    rw [Nat.pow_succ, ← Nat.div_div_eq_div_mul, Nat.mul_comm (2 ^ i) 2, Nat.mul_assoc]
  have e2 : sk n i = isq n / 2 ^ i * 2 ^ i := rfl
  have hle : ∀ y, y * y ≤ n ↔ y ≤ isq n := fun y => ⟨le_isq, fun h => Nat.le_trans (Nat.mul_le_mul h h) (isq_spec n).1⟩
  rw [hle, e, e2]
  have hdiv : ∀ q, q * 2 ^ i ≤ isq n ↔ q ≤ isq n / 2 ^ i := fun q => (Nat.le_div_iff_mul_le hp).symm
  have e3 : isq n / 2 ^ i / 2 * 2 * 2 ^ i + 2 ^ i = (isq n / 2 ^ i / 2 * 2 + 1) * 2 ^ i := by rw [Nat.add_mul, Nat.one_mul]
  rw [e3, hdiv]
  generalize isq n / 2 ^ i = u
  constructor
  · intro h
    have : u = u / 2 * 2 + 1 := by omega
    rw [← this]
  · intro h
    have : u = u / 2 * 2 := by omega
    rw [← this]
theorem sq_start {n : Nat} (hn : n < Lim) : sk n ((nbits n + 1) / 2 + 1) = 0 ∧ (nbits n + 1) / 2 ≤ 512 ∧ isq n ≤ 2 ^ ((nbits n + 1) / 2) := by
  rcases Nat.eq_zero_or_pos n with rfl | h0
  · refine ⟨?_, by decide, by decide⟩
    have : isq 0 = 0 := rfl
    unfold sk; rw [this, Nat.zero_div, Nat.zero_mul]
  · have h := first_guess hn h0
    refine ⟨?_, by omega, h.1⟩
    apply sq_top
    have : 2 ^ ((nbits n + 1) / 2) < 2 ^ ((nbits n + 1) / 2 + 1) := Nat.pow_lt_pow_right (by omega) (by omega)
    omega
theorem sq_size {n i c : Nat} (hc : c ≤ 512) (hi : i ≤ c) (hs : isq n ≤ 2 ^ c) (k : Nat) : sk n k + 2 ^ i < 256 ^ 65 := by
  have h1 := Nat.le_trans (sk_le n k) hs
  have h2 : 2 ^ i ≤ 2 ^ c := Nat.pow_le_pow_right (by omega) hi
  have h3 : 2 ^ (c + 2) ≤ 256 ^ 65 := pow_le_bytes (by omega)
  have h4 : 0 < 2 ^ c := Nat.pow_pos (by omega)
  have h5 : 2 ^ (c + 2) = 4 * 2 ^ c := by rw [Nat.pow_add, Nat.mul_comm]
  omega

set_option maxHeartbeats 400000 in
theorem rsqrt_no (s : ByteArray) (w : World) (h : ¬ Can s) :
    Calls Try.prog 39 #[.string s] w fun e w' => e = .returned (.tuple #[.string (E 0), .int .i64 3]) ∧ w = w' := by
  have HC := Lib.hid h; clear h
  go_enter Try.func39, Try.ntmps39
  go_wp2_with fail
  refine (rvalid_no s _ HC.out).mono ?_; rintro e w' ⟨rfl, rfl⟩
  go_wp2
  go_ret2
  exact ⟨rfl, rfl⟩

set_option maxHeartbeats 2000000 in
theorem rsqrt_yes (s : ByteArray) (w : World) (hs : Can s) :
    Calls Try.prog 39 #[.string s] w fun e w' => e = .returned (.tuple #[.string (E (isq (V s))), .int .i64 0]) ∧ Below w.heap.size w w' := by
  have h1 := hs.1
  obtain ⟨c, hc⟩ : ∃ c, c = (nbits (V s) + 1) / 2 := ⟨_, rfl⟩
  have hst := sq_start (V_lim hs)
  rw [← hc] at hst
  have hc5 := hst.2.1
  have hnb := nb_bytes (V_lt s)
  have hci : ((nbits (V s) : Nat) + 1 : Int) / 2 = (c : Int) := by omega
  have HST := Lib.hid hst; clear hst
  have HS := Lib.hid hs; clear hs hc
  go_enter Try.func39, Try.ntmps39
  go_wp2_with fail
  refine (rvalid_yes s _ HS.out).mono ?_; rintro e w' ⟨rfl, rfl⟩
  go_wp2_with fail
  refine (rbits_any s _ HS.out.2 (by omega)).mono ?_; rintro e w' ⟨rfl, rfl⟩
  go_wp2
  go_loopw [4, 5] (fun x v wr => ∃ k : Nat, k ≤ c + 1 ∧ v = .int .i64 ((k : Int) - 1) ∧ x = .string (E (sk (V s) k)) ∧ Below w.heap.size w wr) (fun _ v _ => (intOf v + 1).toNat)
  case atStart => exact ⟨c + 1, Nat.le_refl _, int_eq (by omega), by rw [HST.out.1]; rfl, Below.refl _ _⟩
  case round =>
    obtain ⟨k, hk, rfl, rfl, hbel⟩ := hrel
    clear hci hnb
    by_cases hlt : 0 < k
    · obtain ⟨i, rfl⟩ : ∃ i, k = i + 1 := ⟨k - 1, by omega⟩
      rw [show ((i + 1 : Nat) : Int) - 1 = (i : Int) by omega]
      have hyl := sq_size hc5 (show i ≤ c by omega) HST.out.2.2 (i + 1)
      have hst := sk_step (V s) i
      obtain ⟨x, hx⟩ : ∃ x, x = sk (V s) (i + 1) := ⟨_, rfl⟩
      rw [← hx] at hst hyl ⊢
      have hxs : (E x).size ≤ 65 := by rw [E_size_le]; exact Nat.lt_of_le_of_lt (Nat.le_add_right _ _) hyl
      have hts : (E (2 ^ i)).size ≤ 65 := by rw [E_size_le]; exact Nat.lt_of_le_of_lt (Nat.le_add_left _ _) hyl
      obtain ⟨y, hy⟩ : ∃ y, y = x + 2 ^ i := ⟨_, rfl⟩
      rw [← hy] at hst hyl
      have hys : (E y).size ≤ 65 := by rw [E_size_le]; exact hyl
      have hzs : (E (y * y)).size ≤ 65 + 65 := by rw [E_size_le, Nat.pow_add]; exact Nat.mul_lt_mul'' hyl hyl
      have HSTEP := Lib.hid hst; clear hst
      have HX := Lib.hid hx; clear hx
      have HY := Lib.hid hy; clear hy hyl
      go_wp2_with fail
      refine (rtwos_any i _ (by omega)).mono ?_; rintro e w1 ⟨rfl, b1⟩
      have hbel1 := bnext hbel b1; clear b1 hbel
      go_wp2_with fail
      refine (rplus_any (E x) (E (2 ^ i)) _ (by omega) (by omega)).mono ?_; rintro e w2 ⟨rfl, b2⟩
      have hbel2 := bnext hbel1 b2; clear b2 hbel1
      rw [V_E, V_E, ← HY.out]
      go_wp2_with fail
      refine (rtimes_any (E y) (E y) _ (by omega) (by omega)).mono ?_; rintro e w3 ⟨rfl, b3⟩
      have hbel3 := bnext hbel2 b3; clear b3 hbel2
      rw [V_E]
      go_wp2_with fail
      refine (order_any (E (y * y)) s _ (can_E_ _) HS.out.2 (by omega) (by omega)).mono ?_; rintro e w4 ⟨rfl, q, rfl⟩
      have hbel4 := below_d hbel3 q; clear hbel3
      rw [V_E]
      by_cases hle : y * y ≤ V s
      · have hsg : sgn (y * y) (V s) ≤ 0 := by
          unfold sgn
          split
          · omega
          · rw [if_neg (by omega)]; omega
        have hR := HSTEP.out.1 hle
        have HR := Lib.hid hR; clear hR hle
        go_wp2
        go_roundw
        case rel => exact ⟨i, by omega, by go_num, by rw [HR.out, HY.out], hbel4⟩
        case measure => simp [intOf]
      · have hsg : ¬ sgn (y * y) (V s) ≤ 0 := by
          unfold sgn
          rw [if_neg (by omega), if_pos (by omega)]; omega
        have hR := HSTEP.out.2 hle
        have HR := Lib.hid hR; clear hR hle
        go_wp2
        go_roundw
        case rel => exact ⟨i, by omega, by go_num, by rw [HR.out], hbel4⟩
        case measure => simp [intOf]
    · obtain rfl : k = 0 := by omega
      have HR := Lib.hid (sk_zero (V s))
      rw [HR.out]
      go_wp2
      go_ret2
      exact ⟨rfl, hbel⟩
end Go.Proofs.Ythiinmfelkhakaa
