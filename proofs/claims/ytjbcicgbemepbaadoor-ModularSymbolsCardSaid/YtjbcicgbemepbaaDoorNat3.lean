/-
  Contracts of package natural, the third part: Add, Sub.
-/
import Derived.Test.YtjbcicgbemepbaaDoorNat2
namespace Go.Proofs.YtjbcicgbemepbaaDoor
open Go.RowKit
set_option linter.unusedVariables false

theorem Tryd.info5 : (Tryd.prog.info? 5).map (fun i => (i.zero, i.size, i.bytes)) = some (some (.int .u8 0), 1, 1) := by kernel_rfl
theorem Tryd.info49 : (Tryd.prog.info? 49).map (fun i => (i.zero, i.size, i.bytes)) = some (some (.int .u32 0), 1, 4) := by kernel_rfl

theorem run_make_bytes (n : Nat) (hn : n ≤ 1000000) (w : World) :
    (Instr.makeSlice 62 (.int .i64 (n : Int)) (.int .i64 (n : Int))).run Tryd.prog w = .ok (.slice (some ⟨w.heap.size, 0, none⟩) n n) (w.alloc (.cells (madeCells #[.int .u8 0] n) 5)) := by
  obtain ⟨i0, hi, hz0, hz1, hz2⟩ := info_parts Tryd.info5
  exact run_make_row 62 5 i0 _ Tryd.underlying62 hi hz0 hz1 rfl .i64 .i64 n (by rw [hz2]; omega) (by omega) w
theorem run_make_words (n : Nat) (hn : n ≤ 1000000) (w : World) :
    (Instr.makeSlice 44 (.int .i64 (n : Int)) (.int .i64 (n : Int))).run Tryd.prog w = .ok (.slice (some ⟨w.heap.size, 0, none⟩) n n) (w.alloc (.cells (madeCells #[.int .u32 0] n) 49)) := by
  obtain ⟨i0, hi, hz0, hz1, hz2⟩ := info_parts Tryd.info49
  exact run_make_row 44 49 i0 _ Tryd.underlying44 hi hz0 hz1 rfl .i64 .i64 n (by rw [hz2]; omega) (by omega) w

theorem run_make_bytes1 (n : Nat) (hn : n ≤ 999999) (w : World) :
    (Instr.makeSlice 62 (.int .i64 ((n : Int) + 1)) (.int .i64 ((n : Int) + 1))).run Tryd.prog w = .ok (.slice (some ⟨w.heap.size, 0, none⟩) (n + 1) (n + 1)) (w.alloc (.cells (madeCells #[.int .u8 0] (n + 1)) 5)) :=
  run_make_bytes (n + 1) (by omega) w
theorem run_make_words1 (n : Nat) (hn : n ≤ 999999) (w : World) :
    (Instr.makeSlice 44 (.int .i64 ((n : Int) + 1)) (.int .i64 ((n : Int) + 1))).run Tryd.prog w = .ok (.slice (some ⟨w.heap.size, 0, none⟩) (n + 1) (n + 1)) (w.alloc (.cells (madeCells #[.int .u32 0] (n + 1)) 49)) :=
  run_make_words (n + 1) (by omega) w

/-- The carry behind k digits of a sum. -/
def carryA (a b k : Nat) : Nat := (a % 256 ^ k + b % 256 ^ k) / 256 ^ k
theorem carryA_le (a b k : Nat) : carryA a b k ≤ 1 := by
  have h := Nat.pow_pos (n := k) (show 0 < 256 by omega)
  have h1 := Nat.mod_lt a h
  have h2 := Nat.mod_lt b h
  unfold carryA
  have : (a % 256 ^ k + b % 256 ^ k) / 256 ^ k < 2 := Nat.div_lt_of_lt_mul (by omega)
  omega
theorem carryA_zero (a b : Nat) : carryA a b 0 = 0 := by simp [carryA, Nat.mod_one]
theorem add_step (a b k : Nat) : (carryA a b k + (dig a k + dig b k)) % 256 = dig (a + b) k ∧ (carryA a b k + (dig a k + dig b k)) / 256 = carryA a b (k + 1) := by
  unfold carryA dig
  have h := Nat.pow_pos (n := k) (show 0 < 256 by omega)
  rw [Nat.pow_succ]
  generalize 256 ^ k = p at *
  have ea : a % (p * 256) = a % p + p * (a / p % 256) := Nat.mod_mul
  have eb : b % (p * 256) = b % p + p * (b / p % 256) := Nat.mod_mul
  have ha := Nat.div_add_mod a p
  have hb := Nat.div_add_mod b p
  have e1 : (a + b) / p = a / p + b / p + (a % p + b % p) / p := by
    conv => lhs; rw [← ha, ← hb]
    rw [show p * (a / p) + a % p + (p * (b / p) + b % p) = p * (a / p + b / p) + (a % p + b % p) by rw [Nat.mul_add]; omega, Nat.mul_add_div h]
  have e2 : (a % (p * 256) + b % (p * 256)) / (p * 256) = ((a % p + b % p) / p + (a / p % 256 + b / p % 256)) / 256 := by
    rw [ea, eb, ← Nat.div_div_eq_div_mul, show a % p + p * (a / p % 256) + (b % p + p * (b / p % 256)) = p * (a / p % 256 + b / p % 256) + (a % p + b % p) by rw [Nat.mul_add]; omega, Nat.mul_add_div h]
    omega
  rw [e1, e2]
  exact ⟨by omega, rfl⟩

set_option maxHeartbeats 400000 in
theorem add_no (s t : ByteArray) (w : World) (h : ¬ (Can s ∧ Can t)) :
    Calls Tryd.prog 18 #[.string s, .string t] w fun e w' => e = .returned (.tuple #[.string (E 0), .int .i64 3]) ∧ w = w' := by
  by_cases hc : Can s
  · have hd : ¬ Can t := fun q => h ⟨hc, q⟩
    have HC := Lib.hid hc; clear hc h
    have HD := Lib.hid hd; clear hd
    go_enter Tryd.func18, Tryd.ntmps18
    go_wp2_with fail
    refine (valid_yes s _ HC.out).mono ?_; rintro e w' ⟨rfl, rfl⟩
    go_wp2_with fail
    refine (valid_no t _ HD.out).mono ?_; rintro e w' ⟨rfl, rfl⟩
    go_wp2
    go_ret2
    exact ⟨rfl, rfl⟩
  · have HC := Lib.hid hc; clear hc h
    go_enter Tryd.func18, Tryd.ntmps18
    go_wp2_with fail
    refine (valid_no s _ HC.out).mono ?_; rintro e w' ⟨rfl, rfl⟩
    go_wp2
    go_ret2
    exact ⟨rfl, rfl⟩

/-- The numbers that fit. -/
def Lim : Nat := 256 ^ 128
theorem lim_eq : Lim = 256 ^ 128 := rfl
/-- A number, or ErrLong. -/
def okN (n : Nat) : Value := if n < Lim then .tuple #[.string (E n), .int .i64 0] else .tuple #[.string (E 0), .int .i64 5]
theorem E_size_lim (n : Nat) : (E n).size ≤ 128 ↔ n < Lim := by rw [lim_eq]; exact E_size_le
theorem V_lim {s : ByteArray} (h : Can s) : V s < Lim := by rw [lim_eq]; exact V_lt128 h
theorem can_E' {n : Nat} (h : n < Lim) : Can (E n) := can_E (by rw [← lim_eq]; exact h)
theorem ret_v {a b : Value} (h : a = b) : Ending.returned a = .returned b := by rw [h]
theorem okN_yes {n : Nat} (h : n < Lim) : okN n = .tuple #[.string (E n), .int .i64 0] := by unfold okN; rw [if_pos h]
theorem okN_no {n : Nat} (h : ¬ n < Lim) : okN n = .tuple #[.string (E 0), .int .i64 5] := by unfold okN; rw [if_neg h]
theorem sum_lt {s t : ByteArray} : V s + V t < 256 ^ (max s.size t.size + 1) := by
  have h1 := V_lt s
  have h2 := V_lt t
  have h3 : 256 ^ s.size ≤ 256 ^ max s.size t.size := Nat.pow_le_pow_right (by omega) (by omega)
  have h4 : 256 ^ t.size ≤ 256 ^ max s.size t.size := Nat.pow_le_pow_right (by omega) (by omega)
  rw [Nat.pow_succ]
  omega

theorem part_zero (w : World) (n len : Nat) (t : TypeId) : (w.alloc (.cells (madeCells #[.int .u8 0] len) t)).rowIs w.heap.size t len (fun j => .int .u8 (partB n len 0 j : Nat)) :=
  (World.rowIs_made w (.int .u8 0) len t).congr (fun j _ => by rw [partB_zero]; rfl)

set_option maxHeartbeats 400000 in
theorem add_yes (s t : ByteArray) (w : World) (hs : Can s) (ht : Can t) :
    Calls Tryd.prog 18 #[.string s, .string t] w fun e w' => e = .returned (okN (V s + V t)) ∧ Below w.heap.size w w' := by
  have h1 := hs.1
  have h2 := ht.1
  have HS := Lib.hid hs; clear hs
  have HT := Lib.hid ht; clear ht
  obtain ⟨n, hn⟩ : ∃ n, n = max s.size t.size := ⟨_, rfl⟩
  have hmk := run_make_bytes1 n (by omega)
  have hmax : max (s.size : Int) (t.size : Int) = (n : Int) := by omega
  have hn128 : n ≤ 128 := by omega
  have HN := Lib.hid hn; clear hn
  go_enter Tryd.func18, Tryd.ntmps18
  go_wp2_with fail
  refine (valid_yes s _ HS.out).mono ?_; rintro e w' ⟨rfl, rfl⟩
  go_wp2_with fail
  refine (valid_yes t _ HT.out).mono ?_; rintro e w' ⟨rfl, rfl⟩
  go_wp2
  go_loopw [7, 8, 27] (fun c _ v wr => ∃ k : Nat, k ≤ n + 1 ∧ v = .int .i64 k ∧ c = .int .i64 (carryA (V s) (V t) k : Nat) ∧ wr.rowIs w.heap.size 5 (n + 1) (fun j => .int .u8 (partB (V s + V t) (n + 1) k j : Nat)) ∧ Below w.heap.size w wr) (fun _ _ v _ => n + 1 - (intOf v).toNat)
  case atStart => exact ⟨0, by omega, rfl, by rw [carryA_zero]; rfl, part_zero w _ _ _, (Below.refl _ _).alloc (Nat.le_refl _) _⟩
  case round =>
    obtain ⟨k, hk, rfl, rfl, hrow, hbel⟩ := hrel
    have hcar := carryA_le (V s) (V t) k
    by_cases hlt : k < n + 1
    · have hcell := hrow.cell (i := n - k) (by omega)
      have hfr := hrow.frozen (n - k)
      have hd1 : dig (V s) k < 256 := Nat.mod_lt _ (by omega)
      have hd2 : dig (V t) k < 256 := Nat.mod_lt _ (by omega)
      have HR := Lib.hid hrow; clear hrow
      go_wp2_with fail
      refine (byteAt_any s _ _ (by omega) (by omega) (by omega)).mono ?_
      rintro e w' ⟨rfl, rfl⟩
      rw [Int.toNat_natCast]
      go_wp2_with fail
      refine (byteAt_any t _ _ (by omega) (by omega) (by omega)).mono ?_
      rintro e w' ⟨rfl, rfl⟩
      rw [Int.toNat_natCast]
      go_wp2
      have ha := add_step (V s) (V t) k
      go_roundw
      case rel =>
        have e := part_step (v := ((carryA (V s) (V t) k : Nat) + ((dig (V s) k : Nat) + (dig (V t) k : Nat))) % 256) HR.out hlt (by rw [← ha.1]; rfl)
        exact ⟨k + 1, by omega, by go_num, int_eq (by rw [← ha.2]; rfl), e, hbel.setCell (Nat.le_refl _) _⟩
      case measure => simp [intOf]; omega
    · obtain rfl : k = n + 1 := by omega
      have hb := part_done hrow
      have hsum : V s + V t < 256 ^ (n + 1) := by rw [HN.out]; exact sum_lt
      have hE := E_beN hsum
      have hsz := E_size_lim (V s + V t)
      have HB := Lib.hid hb; clear hb
      have HE := Lib.hid hE; clear hE hsum
      have HZ := Lib.hid hsz; clear hsz
      go_wp2_with fail
      refine (strip_any w.heap.size 0 (n + 1) (n + 1) (beN (n + 1) (V s + V t)) _ (beN_length _ _) (by omega) (by omega) (by omega) HB.out).mono ?_
      rintro e w' ⟨rfl, rfl⟩
      rw [HE.out]
      by_cases hfit : V s + V t < Lim
      · have hf := HZ.out.2 hfit
        have ho := Lib.hid (okN_yes hfit)
        clear hfit
        go_wp2
        go_ret2
        exact ⟨ret_v ho.out.symm, hbel⟩
      · have hf : ¬ (E (V s + V t)).size ≤ 128 := fun q => hfit (HZ.out.1 q)
        have ho := Lib.hid (okN_no hfit)
        clear hfit
        go_wp2
        go_ret2
        exact ⟨ret_v ho.out.symm, hbel⟩

/-- The borrow behind k digits of a difference. -/
def borrow (a b k : Nat) : Int := ((a % 256 ^ k : Nat) - (b % 256 ^ k : Nat) : Int) / (256 ^ k : Nat)
theorem borrow_le (a b k : Nat) : -1 ≤ borrow a b k ∧ borrow a b k ≤ 0 := by
  have h := Nat.pow_pos (n := k) (show 0 < 256 by omega)
  have h1 := Nat.mod_lt a h
  have h2 := Nat.mod_lt b h
  unfold borrow
  constructor
  · exact (Int.le_ediv_iff_mul_le (by omega)).2 (by omega)
  · have := (Int.ediv_lt_iff_lt_mul (a := ((a % 256 ^ k : Nat) - (b % 256 ^ k : Nat) : Int)) (b := 1) (c := ((256 ^ k : Nat) : Int)) (by omega)).2 (by omega)
    omega
theorem borrow_zero (a b : Nat) : borrow a b 0 = 0 := by simp [borrow, Nat.mod_one]
theorem sub_step (a b k : Nat) (hab : b ≤ a) : (borrow a b k + ((dig a k : Nat) - (dig b k : Nat))) % 256 = (dig (a - b) k : Nat) ∧ (borrow a b k + ((dig a k : Nat) - (dig b k : Nat))) / 256 = borrow a b (k + 1) := by
  unfold borrow dig
  have h := Nat.pow_pos (n := k) (show 0 < 256 by omega)
  rw [Nat.pow_succ]
  generalize 256 ^ k = p at *
  have ea : a % (p * 256) = a % p + p * (a / p % 256) := Nat.mod_mul
  have eb : b % (p * 256) = b % p + p * (b / p % 256) := Nat.mod_mul
  have ha := Nat.div_add_mod a p
  have hb := Nat.div_add_mod b p
  have e1 : ((a - b : Nat) : Int) / (p : Nat) = (a / p : Nat) - (b / p : Nat) + ((a % p : Nat) - (b % p : Nat) : Int) / (p : Nat) := by
    have : ((a - b : Nat) : Int) = ((a % p : Nat) - (b % p : Nat) : Int) + (p : Nat) * ((a / p : Nat) - (b / p : Nat)) := by
      rw [Int.mul_sub, ← Int.natCast_mul, ← Int.natCast_mul]; omega
    rw [this, Int.add_mul_ediv_left _ _ (by omega)]; omega
  have e2 : ((a % (p * 256) : Nat) - (b % (p * 256) : Nat) : Int) / ((p * 256 : Nat) : Int) = (((a % p : Nat) - (b % p : Nat) : Int) / (p : Nat) + ((a / p % 256 : Nat) - (b / p % 256 : Nat))) / 256 := by
    rw [Int.natCast_mul, ← Int.ediv_ediv_of_nonneg (by omega), ea, eb]
    have : (((a % p + p * (a / p % 256) : Nat) : Int) - ((b % p + p * (b / p % 256) : Nat) : Int)) = ((a % p : Nat) - (b % p : Nat) : Int) + (p : Nat) * ((a / p % 256 : Nat) - (b / p % 256 : Nat)) := by
      rw [Int.mul_sub, ← Int.natCast_mul, ← Int.natCast_mul]; omega
    rw [this, Int.add_mul_ediv_left _ _ (by omega)]
    rfl
  rw [e2]
  refine ⟨?_, rfl⟩
  have e3 : (((a - b) / p % 256 : Nat) : Int) = (((a - b : Nat) : Int) / (p : Nat)) % 256 := by simp
  rw [e3, e1]
  omega

set_option maxHeartbeats 400000 in
theorem sub_no (s t : ByteArray) (w : World) (h : ¬ (Can s ∧ Can t)) :
    Calls Tryd.prog 29 #[.string s, .string t] w fun e w' => e = .returned (.tuple #[.string (E 0), .int .i64 3]) ∧ w = w' := by
  by_cases hc : Can s
  · have hd : ¬ Can t := fun q => h ⟨hc, q⟩
    have HC := Lib.hid hc; clear hc h
    have HD := Lib.hid hd; clear hd
    go_enter Tryd.func29, Tryd.ntmps29
    go_wp2_with fail
    refine (valid_yes s _ HC.out).mono ?_; rintro e w' ⟨rfl, rfl⟩
    go_wp2_with fail
    refine (valid_no t _ HD.out).mono ?_; rintro e w' ⟨rfl, rfl⟩
    go_wp2
    go_ret2
    exact ⟨rfl, rfl⟩
  · have HC := Lib.hid hc; clear hc h
    go_enter Tryd.func29, Tryd.ntmps29
    go_wp2_with fail
    refine (valid_no s _ HC.out).mono ?_; rintro e w' ⟨rfl, rfl⟩
    go_wp2
    go_ret2
    exact ⟨rfl, rfl⟩

/-- A difference, or ErrRange. -/
def subN (a b : Nat) : Value := if b ≤ a then .tuple #[.string (E (a - b)), .int .i64 0] else .tuple #[.string (E 0), .int .i64 2]
theorem subN_yes {a b : Nat} (h : b ≤ a) : subN a b = .tuple #[.string (E (a - b)), .int .i64 0] := by unfold subN; rw [if_pos h]
theorem subN_no {a b : Nat} (h : ¬ b ≤ a) : subN a b = .tuple #[.string (E 0), .int .i64 2] := by unfold subN; rw [if_neg h]
theorem sgn_neg {a b : Nat} (h : ¬ b ≤ a) : sgn a b = -1 := by unfold sgn; rw [if_pos (by omega)]
theorem sgn_nonneg {a b : Nat} (h : b ≤ a) : 0 ≤ sgn a b := by unfold sgn; rw [if_neg (by omega)]; split <;> omega

set_option maxHeartbeats 400000 in
theorem sub_yes (s t : ByteArray) (w : World) (hs : Can s) (ht : Can t) :
    Calls Tryd.prog 29 #[.string s, .string t] w fun e w' => e = .returned (subN (V s) (V t)) ∧ Below w.heap.size w w' := by
  have h1 := hs.1
  have h2 := ht.1
  have HS := Lib.hid hs; clear hs
  have HT := Lib.hid ht; clear ht
  have hmk := run_make_bytes s.size (by omega)
  by_cases hle : V t ≤ V s
  · have hsg := sgn_nonneg hle
    have HL := Lib.hid hle; clear hle
    go_enter Tryd.func29, Tryd.ntmps29
    go_wp2_with fail
    refine (valid_yes s _ HS.out).mono ?_; rintro e w' ⟨rfl, rfl⟩
    go_wp2_with fail
    refine (valid_yes t _ HT.out).mono ?_; rintro e w' ⟨rfl, rfl⟩
    go_wp2_with fail
    refine (cmp_yes s t _ HS.out HT.out).mono ?_; rintro e w' ⟨rfl, rfl⟩
    go_wp2
    go_loopw [7, 8, 26] (fun c _ v wr => ∃ k : Nat, k ≤ s.size ∧ v = .int .i64 k ∧ c = .int .i64 (borrow (V s) (V t) k) ∧ wr.rowIs w.heap.size 5 s.size (fun j => .int .u8 (partB (V s - V t) s.size k j : Nat)) ∧ Below w.heap.size w wr) (fun _ _ v _ => s.size - (intOf v).toNat)
    case atStart => exact ⟨0, by omega, rfl, by rw [borrow_zero], part_zero w _ _ _, (Below.refl _ _).alloc (Nat.le_refl _) _⟩
    case round =>
      obtain ⟨k, hk, rfl, rfl, hrow, hbel⟩ := hrel
      have hcar := borrow_le (V s) (V t) k
      by_cases hlt : k < s.size
      · have hcell := hrow.cell (i := s.size - 1 - k) (by omega)
        have hfr := hrow.frozen (s.size - 1 - k)
        have hd1 : dig (V s) k < 256 := Nat.mod_lt _ (by omega)
        have hd2 : dig (V t) k < 256 := Nat.mod_lt _ (by omega)
        have HR := Lib.hid hrow; clear hrow
        go_wp2_with fail
        refine (byteAt_any s _ _ (by omega) (by omega) (by omega)).mono ?_
        rintro e w' ⟨rfl, rfl⟩
        rw [Int.toNat_natCast]
        go_wp2_with fail
        refine (byteAt_any t _ _ (by omega) (by omega) (by omega)).mono ?_
        rintro e w' ⟨rfl, rfl⟩
        rw [Int.toNat_natCast]
        go_wp2
        have ha := sub_step (V s) (V t) k HL.out
        go_roundw
        case rel =>
          have e := part_step (n := V s - V t) (v := (borrow (V s) (V t) k + ((dig (V s) k : Nat) - (dig (V t) k : Nat))) % 256) HR.out hlt ha.1
          exact ⟨k + 1, by omega, by go_num, int_eq ha.2, e, hbel.setCell (Nat.le_refl _) _⟩
        case measure => simp [intOf]; omega
      · obtain rfl : k = s.size := by omega
        have hb := part_done hrow
        have hE := E_beN (k := s.size) (n := V s - V t) (Nat.lt_of_le_of_lt (Nat.sub_le _ _) (V_lt s))
        have HB := Lib.hid hb; clear hb
        have HE := Lib.hid hE; clear hE
        have ho := Lib.hid (subN_yes HL.out)
        go_wp2_with fail
        refine (strip_any w.heap.size 0 s.size s.size (beN s.size (V s - V t)) _ (beN_length _ _) (by omega) (by omega) (by omega) HB.out).mono ?_
        rintro e w' ⟨rfl, rfl⟩
        rw [HE.out]
        go_wp2
        go_ret2
        exact ⟨ret_v ho.out.symm, hbel⟩
  · have hsg := sgn_neg hle
    have hs1 : sgn (V s) (V t) < 0 := by omega
    have ho := Lib.hid (subN_no hle)
    clear hle hsg
    go_enter Tryd.func29, Tryd.ntmps29
    go_wp2_with fail
    refine (valid_yes s _ HS.out).mono ?_; rintro e w' ⟨rfl, rfl⟩
    go_wp2_with fail
    refine (valid_yes t _ HT.out).mono ?_; rintro e w' ⟨rfl, rfl⟩
    go_wp2_with fail
    refine (cmp_yes s t _ HS.out HT.out).mono ?_; rintro e w' ⟨rfl, rfl⟩
    go_wp2
    go_ret2
    exact ⟨ret_v ho.out.symm, Below.refl _ _⟩
end Go.Proofs.YtjbcicgbemepbaaDoor
