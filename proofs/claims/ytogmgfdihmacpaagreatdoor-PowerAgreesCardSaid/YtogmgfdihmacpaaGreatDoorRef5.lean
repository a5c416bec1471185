/-
  Contracts of the reference of layer 1: Over, DivMod.
-/
import Derived.Test.YtogmgfdihmacpaaGreatDoorRef4
import Derived.Deep.RegionHeld3
namespace Go.Proofs.YtogmgfdihmacpaaGreatDoor
open Go.RowKit
set_option linter.unusedVariables false

theorem can_E_ (n : Nat) : can (E n).data.toList := by rw [E_data]; exact can_enc n
theorem row_below {w w' : World} {g t n : Nat} {f : Nat → Value} (h : w.rowIs g t n f) (b : Below w.heap.size w w') : w'.rowIs g t n f := h.of_block (b.block g h.lt)
theorem nb_bytes {n k : Nat} (h : n < 256 ^ k) : nbits n ≤ 8 * k := by
  unfold nbits
  split
  · omega
  · rename_i h0
    have := log2_lt_bytes h0 h
    omega
theorem V_one : V ⟨#[1]⟩ = 1 := by rw [← l_1, V_E]

theorem dig_none (j X M : Nat) : 256 ^ j * (256 * X) * M / 256 ^ j % 256 = 0 := by
  rw [Nat.mul_assoc, Nat.mul_div_cancel_left _ (p256 j), Nat.mul_assoc, Nat.mul_mod_right]
/-- A binary digit is set where it and all below it are clear. -/
theorem dig_set (Q i j : Nat) : dig (Q * 2 ^ (i + 1) + 2 ^ i) j = if j = i / 8 then dig (Q * 2 ^ (i + 1)) (i / 8) + 2 ^ (i % 8) else dig (Q * 2 ^ (i + 1)) j := by
  have hi : 2 ^ i = 256 ^ (i / 8) * 2 ^ (i % 8) := by rw [← pow256, ← Nat.pow_add]; congr 1; omega
  have hr : i % 8 < 8 := by omega
  rw [Nat.pow_succ, hi]
  generalize i / 8 = p at *
  generalize i % 8 = r at *
  have e1 : Q * (256 ^ p * 2 ^ r * 2) = 256 ^ p * (2 ^ r * (2 * Q)) := by
    rw [Nat.mul_comm, Nat.mul_assoc, Nat.mul_assoc]
  rw [e1, ← Nat.mul_add]
  unfold dig
  rcases Nat.lt_trichotomy j p with h | h | h
  · rw [if_neg (by omega)]
    have : 256 ^ p = 256 ^ j * (256 * 256 ^ (p - j - 1)) := by rw [← Nat.pow_succ', ← Nat.pow_add]; congr 1; omega
    rw [this, dig_none, dig_none]
  · subst h
    rw [if_pos rfl, Nat.mul_div_cancel_left _ (p256 j), Nat.mul_div_cancel_left _ (p256 j)]
    have : r = 0 ∨ r = 1 ∨ r = 2 ∨ r = 3 ∨ r = 4 ∨ r = 5 ∨ r = 6 ∨ r = 7 := by omega
    rcases this with rfl | rfl | rfl | rfl | rfl | rfl | rfl | rfl <;> omega
  · rw [if_neg (by omega)]
    have : 256 ^ j = 256 ^ p * (256 * 256 ^ (j - p - 1)) := by rw [← Nat.pow_succ', ← Nat.pow_add]; congr 1; omega
    rw [this, Nat.mul_div_mul_left _ _ (p256 p), Nat.mul_div_mul_left _ _ (p256 p), ← Nat.div_div_eq_div_mul, ← Nat.div_div_eq_div_mul]
    congr 2
    have : r = 0 ∨ r = 1 ∨ r = 2 ∨ r = 3 ∨ r = 4 ∨ r = 5 ∨ r = 6 ∨ r = 7 := by omega
    rcases this with rfl | rfl | rfl | rfl | rfl | rfl | rfl | rfl <;> omega
theorem dig_set_lt (Q i : Nat) : dig (Q * 2 ^ (i + 1)) (i / 8) + 2 ^ (i % 8) < 256 := by
  have h := dig_set Q i (i / 8)
  rw [if_pos rfl] at h
  rw [← h]; exact dig_lt _ _

/-- The quotient and the remainder of the upper digits. -/
def qk (a b k : Nat) : Nat := a / 2 ^ k / b
def rk (a b k : Nat) : Nat := a / 2 ^ k % b
theorem up_step (a i : Nat) : a / 2 ^ i = 2 * (a / 2 ^ (i + 1)) + (a.testBit i).toNat := by
  rw [Nat.testBit_eq_decide_div_mod_eq, Nat.pow_succ, ← Nat.div_div_eq_div_mul]
  generalize a / 2 ^ i = u
  rcases Nat.mod_two_eq_zero_or_one u with h | h
  · rw [h]; simp; omega
  · rw [h]; simp; omega
theorem qr_step (a b i : Nat) (hb : 0 < b) (c : Nat) (hc : c = rk a b (i + 1) + rk a b (i + 1) + (a.testBit i).toNat) :
    (b ≤ c → rk a b i = c - b ∧ qk a b i = 2 * qk a b (i + 1) + 1) ∧ (¬ b ≤ c → rk a b i = c ∧ qk a b i = 2 * qk a b (i + 1)) ∧ c < 2 * b := by
  have hu := up_step a i
  unfold qk rk at *
  have hbit : (a.testBit i).toNat ≤ 1 := by cases a.testBit i <;> simp
  generalize (a.testBit i).toNat = t at *
  generalize a / 2 ^ (i + 1) = u at *
  have hm := Nat.mod_lt u hb
  have hd := Nat.div_add_mod u b
  have e : a / 2 ^ i = b * (2 * (u / b)) + c := by
    rw [hu, hc, Nat.mul_left_comm]; omega
  refine ⟨fun h => ?_, fun h => ?_, by omega⟩
  · have e2 : a / 2 ^ i = b * (2 * (u / b) + 1) + (c - b) := by rw [e, Nat.mul_add]; omega
    rw [e2]
    exact ⟨by rw [Nat.mul_add_mod, Nat.mod_eq_of_lt (show c - b < b by omega)], by rw [Nat.mul_add_div hb, Nat.div_eq_of_lt (show c - b < b by omega), Nat.add_zero]⟩
  · rw [e]
    exact ⟨by rw [Nat.mul_add_mod, Nat.mod_eq_of_lt (show c < b by omega)], by rw [Nat.mul_add_div hb, Nat.div_eq_of_lt (show c < b by omega), Nat.add_zero]⟩
theorem q_top (a b : Nat) : qk a b (nbits a) = 0 := by unfold qk; rw [Nat.div_eq_of_lt (lt_nbits' a), Nat.zero_div]
theorem r_top (a b : Nat) : rk a b (nbits a) = 0 := by unfold rk; rw [Nat.div_eq_of_lt (lt_nbits' a), Nat.zero_mod]
theorem q_end (a b : Nat) : qk a b 0 = a / b := by unfold qk; rw [Nat.pow_zero, Nat.div_one]
theorem r_end (a b : Nat) : rk a b 0 = a % b := by unfold rk; rw [Nat.pow_zero, Nat.div_one]
/-- What the quotient's row holds: the digits of the quotient so far. -/
def QRow (w : World) (g len a b k : Nat) : Prop := w.rowIs g 5 len (fun j => .int .u8 (dig (qk a b k * 2 ^ k) (len - 1 - j) : Nat))
theorem q_keep {w : World} {g len a b i : Nat} (h : QRow w g len a b (i + 1)) (e : qk a b i = 2 * qk a b (i + 1)) : QRow w g len a b i := by
  refine h.congr fun j _ => ?_
  rw [e, Nat.pow_succ, Nat.mul_comm 2, Nat.mul_assoc, Nat.mul_comm 2]
theorem q_set {w : World} {g len a b i : Nat} {v : Int} (h : QRow w g len a b (i + 1)) (e : qk a b i = 2 * qk a b (i + 1) + 1) (hi : i / 8 < len)
    (hv : v = (dig (qk a b (i + 1) * 2 ^ (i + 1)) (i / 8) + 2 ^ (i % 8) : Nat)) : QRow (w.setCell ⟨g, len - 1 - i / 8, none⟩ (.int .u8 v)) g len a b i := by
  refine (World.rowIs.set h (len - 1 - i / 8) (.int .u8 v)).congr fun j hj => ?_
  have e2 : qk a b i * 2 ^ i = qk a b (i + 1) * 2 ^ (i + 1) + 2 ^ i := by
    rw [e, Nat.add_mul, Nat.one_mul, Nat.pow_succ, Nat.mul_comm 2, Nat.mul_assoc, Nat.mul_comm 2]
  show (if j = len - 1 - i / 8 then _ else _) = _
  rw [e2, dig_set]
  by_cases hji : j = len - 1 - i / 8
  · rw [if_pos hji, if_pos (by omega), hv]
  · rw [if_neg hji, if_neg (by omega)]
theorem q_done {w : World} {g len a b : Nat} (h : QRow w g len a b 0) : Bytes w g 0 (beN len (a / b)) := by
  refine part_done (t := 5) (World.rowIs.congr h fun j hj => ?_)
  rw [q_end, Nat.pow_zero, Nat.mul_one]
  unfold partB
  rw [if_pos (by omega)]
theorem q_start {w : World} {len a b : Nat} : QRow (w.alloc (.cells (madeCells #[.int .u8 0] len) 5)) w.heap.size len a b (nbits a) := by
  refine (World.rowIs_made w (.int .u8 0) len 5).congr fun j _ => ?_
  rw [q_top, Nat.zero_mul]; unfold dig; rw [Nat.zero_div]; rfl
theorem QRow.cell {w : World} {g len a b k p : Nat} (h : QRow w g len a b k) (hp : p < len) : w.cell? ⟨g, len - 1 - p, none⟩ = some (.int .u8 (dig (qk a b k * 2 ^ k) p : Nat)) := by
  have := World.rowIs.cell h (i := len - 1 - p) (by omega)
  rw [this, show len - 1 - (len - 1 - p) = p by omega]

set_option maxHeartbeats 1600000 in
set_option maxRecDepth 20000 in
theorem rover_small (s t : ByteArray) (w : World) (h1 : s.size ≤ 8) (h2 : t.size ≤ 8) (hb : 0 < V t) :
    Calls Tryz.prog 40 #[.string s, .string t] w fun e w' => e = .returned (.tuple #[.string (E (V s / V t)), .string (E (V s % V t))]) ∧ Below w.heap.size w w' := by
  obtain ⟨x, hx⟩ : ∃ x, x = V s := ⟨_, rfl⟩
  obtain ⟨y, hy⟩ : ∃ y, y = V t := ⟨_, rfl⟩
  have hxl : x < 18446744073709551616 := by
    rw [hx]; exact Nat.lt_of_lt_of_le (V_lt s) (Nat.le_trans (Nat.pow_le_pow_right (by omega) h1) (by decide))
  have hyl : y < 18446744073709551616 := by
    rw [hy]; exact Nat.lt_of_lt_of_le (V_lt t) (Nat.le_trans (Nat.pow_le_pow_right (by omega) h2) (by decide))
  rw [← hy] at hb
  rw [← hx, ← hy]
  have HX := Lib.hid hx; clear hx
  have HY := Lib.hid hy; clear hy
  obtain ⟨q, hq⟩ : ∃ q, q = x / y := ⟨_, rfl⟩
  obtain ⟨r, hr⟩ : ∃ r, r = x % y := ⟨_, rfl⟩
  have hql : q < 18446744073709551616 := by rw [hq]; exact Nat.lt_of_le_of_lt (Nat.div_le_self _ _) hxl
  have hrl : r < 18446744073709551616 := by rw [hr]; exact Nat.lt_of_le_of_lt (Nat.mod_le _ _) hxl
  rw [← hq, ← hr]
  have hqi : (x : Int) / (y : Int) = (q : Int) := by rw [hq]; simp
  have hri : (x : Int) % (y : Int) = (r : Int) := by rw [hr]; simp
  have hti : Int.tdiv (x : Int) (y : Int) = (q : Int) := by rw [Int.tdiv_eq_ediv_of_nonneg (by omega)]; exact hqi
  have htm : Int.tmod (x : Int) (y : Int) = (r : Int) := by rw [Int.tmod_eq_emod_of_nonneg (by omega)]; exact hri
  clear hq hr
  have hqw : IntKind.u64.wrap (q : Int) = (q : Int) := IntWalk.u64_in _ (by omega)
  have hrw : IntKind.u64.wrap (r : Int) = (r : Int) := IntWalk.u64_in _ (by omega)
  have hy0 : ¬ y = 0 := by omega
  have hyb : ((y : Int) == 0) = false := by rw [beq_eq_false_iff_ne]; omega
  have h1i : (s.size : Int) ≤ 8 := by omega
  have h2i : (t.size : Int) ≤ 8 := by omega
  go_enter Tryz.func40, Tryz.ntmps40
  go_wp2_with fail
  refine (u64_any s _ h1).mono ?_; rintro e w' ⟨rfl, rfl⟩
  rw [← HX.out]
  go_wp2_with fail
  refine (u64_any t _ h2).mono ?_; rintro e w' ⟨rfl, rfl⟩
  rw [← HY.out]
  go_wp2
  have HQL := Lib.hid hql; clear hql
  have HRL := Lib.hid hrl; clear hrl
  clear hxl hyl h1 h2 h1i h2i hb
  go_region_held3 (fun w' => Below w.heap.size w w') (first | exact (Below.refl _ _).drew | (refine bnext ?_ b1; assumption)) (first
    | (go_at_call 66; refine (rof_any _ _ (by first | exact HQL.out | exact HRL.out)).mono ?_; rintro e w1 ⟨rfl, b1⟩))
  all_goals go_wp2
  all_goals go_ret2
  all_goals exact ⟨rfl, by assumption⟩

set_option maxHeartbeats 6000000 in
set_option maxRecDepth 20000 in
theorem rover_big1 (s t : ByteArray) (w : World) (h1 : s.size ≤ 300) (h2 : t.size ≤ 300) (hs : can s.data.toList) (ht : can t.data.toList) (hb : 0 < V t) (h8 : ¬ (s.size : Int) ≤ 8) :
    Calls Tryz.prog 40 #[.string s, .string t] w fun e w' => e = .returned (.tuple #[.string (E (V s / V t)), .string (E (V s % V t))]) ∧ Below w.heap.size w w' := by
  have hmk := run_make_bytes s.size (by omega)
  have HS := Lib.hid hs; clear hs
  have HT := Lib.hid ht; clear ht
  have HB := Lib.hid hb; clear hb
  have hVt := V_lt t
  have hVs := V_lt s
  have HVT := Lib.hid hVt; clear hVt
  have HVS := Lib.hid hVs; clear hVs
  have hnb := nb_bytes (V_lt s)
  obtain ⟨nb, hnbe⟩ : ∃ nb, nb = nbits (V s) := ⟨_, rfl⟩
  rw [← hnbe] at hnb
  have hq0 := @q_start w s.size (V s) (V t)
  rw [← hnbe] at hq0
  have hr0 : rk (V s) (V t) nb = 0 := by rw [hnbe]; exact r_top _ _
  have HQ0 := Lib.hid hq0; clear hq0
  have HR0 := Lib.hid hr0; clear hr0
  have HNB := Lib.hid hnbe; clear hnbe
  go_enter Tryz.func40, Tryz.ntmps40
  go_wp2_with fail
  refine (rbits_any s _ HS.out (by omega)).mono ?_; rintro e w' ⟨rfl, rfl⟩
  rw [← HNB.out]
  go_wp2
  go_loopw [9, 10] (fun r v wr => ∃ k : Nat, k ≤ nb ∧ v = .int .i64 ((k : Int) - 1) ∧ r = .string (E (rk (V s) (V t) k)) ∧ QRow wr w.heap.size s.size (V s) (V t) k ∧ Below w.heap.size w wr) (fun _ v _ => (intOf v + 1).toNat)
  case atStart => exact ⟨nb, Nat.le_refl _, rfl, by rw [HR0.out]; rfl, HQ0.out, (Below.refl _ _).alloc (Nat.le_refl _) _⟩
  case round =>
    clear HQ0 HR0
    obtain ⟨k, hk, rfl, rfl, hrow, hbel⟩ := hrel
    by_cases hlt : 0 < k
    · obtain ⟨i, rfl⟩ : ∃ i, k = i + 1 := ⟨k - 1, by omega⟩
      rw [show ((i + 1 : Nat) : Int) - 1 = (i : Int) by omega]
      obtain ⟨p, hp⟩ : ∃ p, p = i / 8 := ⟨_, rfl⟩
      obtain ⟨m, hm⟩ : ∃ m, m = i % 8 := ⟨_, rfl⟩
      have hpi : (i : Int) / 8 = (p : Int) := by omega
      have hmi : (i : Int) % 8 = (m : Int) := by omega
      have hps : p < s.size := by omega
      have hm8 : m < 8 := by omega
      have hstep := qr_step (V s) (V t) i HB.out
      have hRlt : rk (V s) (V t) (i + 1) < V t := Nat.mod_lt _ HB.out
      obtain ⟨R, hR⟩ : ∃ R, R = rk (V s) (V t) (i + 1) := ⟨_, rfl⟩
      rw [← hR] at hstep hRlt ⊢
      have hsz0 : (E R).size ≤ t.size := by rw [E_size_le]; exact Nat.lt_trans hRlt HVT.out
      have hsz1 : (E (R + R)).size ≤ t.size + 1 := by
        rw [E_size_le, Nat.pow_succ]; have := HVT.out; omega
      have hsz2 : (E (R + R + 1)).size ≤ t.size + 1 := by
        rw [E_size_le, Nat.pow_succ]; have := HVT.out; omega
      have hdl := dig_set_lt (qk (V s) (V t) (i + 1)) i
      rw [← hp, ← hm] at hdl
      obtain ⟨d, hd⟩ : ∃ d, d = dig (qk (V s) (V t) (i + 1) * 2 ^ (i + 1)) p := ⟨_, rfl⟩
      rw [← hd] at hdl
      have HD := Lib.hid hd; clear hd
      have HDL := Lib.hid hdl; clear hdl
      have HP := Lib.hid hp; clear hp
      have HM := Lib.hid hm; clear hm
      have HRR := Lib.hid hR; clear hR
      have HST := Lib.hid hstep; clear hstep
      have HRL := Lib.hid hRlt; clear hRlt
      have HROW := Lib.hid hrow; clear hrow
      have HBEL := Lib.hid hbel; clear hbel
      go_wp2_with fail
      refine (rplus_any (E R) (E R) _ (by omega) (by omega)).mono ?_; rintro e w1 ⟨rfl, b1⟩
      rw [V_E]
      have HROW1 := Lib.hid (World.rowIs.of_block HROW.out (b1.block _ HROW.out.lt))
      have HBEL1 := Lib.hid (bnext HBEL.out b1)
      clear HROW HBEL b1
      go_wp2_with fail
      refine (rone_any s i _ (by omega) (by omega)).mono ?_; rintro e w2 ⟨rfl, rfl⟩
      by_cases hbit : (V s).testBit i = true
      · have hC := HST.out (R + R + 1) (by rw [hbit]; rfl)
        rw [hbit]
        have HC := Lib.hid hC; clear hC hbit HST
        go_wp2_with fail
        refine (rplus_any (E (R + R)) ⟨#[1]⟩ _ (by omega) (by decide)).mono ?_; rintro e w2 ⟨rfl, b1⟩
        rw [V_E, V_one]
        have HROW2 := Lib.hid (World.rowIs.of_block HROW1.out (b1.block _ HROW1.out.lt))
        have HBEL2 := Lib.hid (bnext HBEL1.out b1)
        clear HROW1 HBEL1 b1
        go_wp2_with fail
        refine (order_any (E (R + R + 1)) t _ (can_E_ _) HT.out (by omega) (by omega)).mono ?_; rintro e w3 ⟨rfl, q, rfl⟩
        rw [V_E]
        by_cases hge : V t ≤ R + R + 1
        · have hsg : 0 ≤ sgn (R + R + 1) (V t) := sgn_nonneg hge
          have hC := HC.out.1 hge
          have HC1 := Lib.hid hC; clear hC HC
          have HGE := Lib.hid hge; clear hge
          go_wp2_with fail
          refine (rminus_any (E (R + R + 1)) t _ (by omega) (by omega) (by rw [V_E]; exact HGE.out)).mono ?_; rintro e w4 ⟨rfl, b4⟩
          rw [V_E, ← HC1.out.1]
          have hrow4 := World.rowIs.of_block HROW2.out (b4.block _ HROW2.out.lt)
          have hbel4 := HBEL2.out.trans ((below_d (Below.refl _ _) q).trans b4 |>.mono HBEL2.out.size)
          have HROW4 := Lib.hid hrow4; clear hrow4 HROW2
          have HBEL4 := Lib.hid hbel4; clear hbel4 HBEL2 b4
          go_wp2
          go_loop [11, 12] (fun x v => ∃ j y : Nat, j ≤ m ∧ v = .int .i64 j ∧ x = .int .u8 y ∧ y = 2 ^ j) (fun _ v => 8 - (intOf v).toNat)
          case atStart => exact ⟨0, 1, by omega, rfl, rfl, rfl⟩
          case round =>
            obtain ⟨j, y, hj, rfl, rfl, hy⟩ := hrel
            by_cases hjm : j < m
            · have hy6 : y ≤ 64 := by rw [hy]; exact Nat.pow_le_pow_right (n := 2) (by omega) (show j ≤ 6 by omega)
              have HY := Lib.hid hy; clear hy
              go_wp2
              go_round
              case rel => exact ⟨j + 1, y * 2, by omega, by go_num, by go_num, by rw [HY.out, Nat.pow_succ]⟩
              case measure => simp [intOf]; omega
            · obtain rfl : j = m := by omega
              have hdl : d + y < 256 := by rw [hy]; exact HDL.out
              have hcell : w4.cell? ⟨w.heap.size, s.size - 1 - p, none⟩ = some (.int .u8 d) := by
                rw [HD.out]; exact QRow.cell HROW4.out hps
              have hfr := World.rowIs.frozen HROW4.out (s.size - 1 - p)
              have HY := Lib.hid hy; clear hy
              go_wp2
              go_roundw
              case rel =>
                refine ⟨i, by omega, by go_num, rfl, ?_, HBEL4.out.setCell (Nat.le_refl _) _⟩
                have e := q_set (v := ((d + y : Nat) : Int)) HROW4.out HC1.out.2 (by rw [← HP.out]; exact hps) (by rw [HD.out, HY.out, HP.out, HM.out])
                rw [← HP.out] at e
                exact e
              case measure => simp [intOf]
        · have hsg : sgn (R + R + 1) (V t) < 0 := by have := sgn_neg hge; omega
          have hC := HC.out.2.1 hge
          have HC1 := Lib.hid hC; clear hC HC hge
          go_wp2
          go_roundw
          case rel =>
            exact ⟨i, by omega, by go_num, by rw [HC1.out.1], q_keep HROW2.out HC1.out.2, below_d HBEL2.out q⟩
          case measure => simp [intOf]
      · have hbit : (V s).testBit i = false := by simpa using hbit
        have hC := HST.out (R + R) (by rw [hbit]; rfl)
        rw [hbit]
        have HC := Lib.hid hC; clear hC hbit HST
        have HROW2 := HROW1
        have HBEL2 := HBEL1
        clear HROW1 HBEL1
        go_wp2_with fail
        refine (order_any (E (R + R)) t _ (can_E_ _) HT.out (by omega) (by omega)).mono ?_; rintro e w3 ⟨rfl, q, rfl⟩
        rw [V_E]
        by_cases hge : V t ≤ R + R
        · have hsg : 0 ≤ sgn (R + R) (V t) := sgn_nonneg hge
          have hC := HC.out.1 hge
          have HC1 := Lib.hid hC; clear hC HC
          have HGE := Lib.hid hge; clear hge
          go_wp2_with fail
          refine (rminus_any (E (R + R)) t _ (by omega) (by omega) (by rw [V_E]; exact HGE.out)).mono ?_; rintro e w4 ⟨rfl, b4⟩
          rw [V_E, ← HC1.out.1]
          have hrow4 := World.rowIs.of_block HROW2.out (b4.block _ HROW2.out.lt)
          have hbel4 := HBEL2.out.trans ((below_d (Below.refl _ _) q).trans b4 |>.mono HBEL2.out.size)
          have HROW4 := Lib.hid hrow4; clear hrow4 HROW2
          have HBEL4 := Lib.hid hbel4; clear hbel4 HBEL2 b4
          go_wp2
          go_loop [11, 12] (fun x v => ∃ j y : Nat, j ≤ m ∧ v = .int .i64 j ∧ x = .int .u8 y ∧ y = 2 ^ j) (fun _ v => 8 - (intOf v).toNat)
          case atStart => exact ⟨0, 1, by omega, rfl, rfl, rfl⟩
          case round =>
            obtain ⟨j, y, hj, rfl, rfl, hy⟩ := hrel
            by_cases hjm : j < m
            · have hy6 : y ≤ 64 := by rw [hy]; exact Nat.pow_le_pow_right (n := 2) (by omega) (show j ≤ 6 by omega)
              have HY := Lib.hid hy; clear hy
              go_wp2
              go_round
              case rel => exact ⟨j + 1, y * 2, by omega, by go_num, by go_num, by rw [HY.out, Nat.pow_succ]⟩
              case measure => simp [intOf]; omega
            · obtain rfl : j = m := by omega
              have hdl : d + y < 256 := by rw [hy]; exact HDL.out
              have hcell : w4.cell? ⟨w.heap.size, s.size - 1 - p, none⟩ = some (.int .u8 d) := by
                rw [HD.out]; exact QRow.cell HROW4.out hps
              have hfr := World.rowIs.frozen HROW4.out (s.size - 1 - p)
              have HY := Lib.hid hy; clear hy
              go_wp2
              go_roundw
              case rel =>
                refine ⟨i, by omega, by go_num, rfl, ?_, HBEL4.out.setCell (Nat.le_refl _) _⟩
                have e := q_set (v := ((d + y : Nat) : Int)) HROW4.out HC1.out.2 (by rw [← HP.out]; exact hps) (by rw [HD.out, HY.out, HP.out, HM.out])
                rw [← HP.out] at e
                exact e
              case measure => simp [intOf]
        · have hsg : sgn (R + R) (V t) < 0 := by have := sgn_neg hge; omega
          have hC := HC.out.2.1 hge
          have HC1 := Lib.hid hC; clear hC HC hge
          go_wp2
          go_roundw
          case rel =>
            exact ⟨i, by omega, by go_num, by rw [HC1.out.1], q_keep HROW2.out HC1.out.2, below_d HBEL2.out q⟩
          case measure => simp [intOf]
    · obtain rfl : k = 0 := by omega
      have hb := q_done hrow
      have hE := E_beN (k := s.size) (n := V s / V t) (Nat.lt_of_le_of_lt (Nat.div_le_self _ _) HVS.out)
      have HB2 := Lib.hid hb; clear hb
      have HE := Lib.hid hE; clear hE hrow
      have HRE := Lib.hid (r_end (V s) (V t))
      go_wp2_with fail
      refine (rtrim_any _ 0 s.size s.size (beN s.size (V s / V t)) _ (beN_length _ _) (by omega) (by omega) (by omega) HB2.out).mono ?_
      rintro e w' ⟨rfl, rfl⟩
      rw [HE.out, HRE.out]
      go_wp2
      go_ret2
      exact ⟨rfl, hbel⟩


set_option maxHeartbeats 6000000 in
set_option maxRecDepth 20000 in
theorem rover_big2 (s t : ByteArray) (w : World) (h1 : s.size ≤ 300) (h2 : t.size ≤ 300) (hs : can s.data.toList) (ht : can t.data.toList) (hb : 0 < V t) (h8 : (s.size : Int) ≤ 8) (h9 : ¬ (t.size : Int) ≤ 8) :
    Calls Tryz.prog 40 #[.string s, .string t] w fun e w' => e = .returned (.tuple #[.string (E (V s / V t)), .string (E (V s % V t))]) ∧ Below w.heap.size w w' := by
  have hmk := run_make_bytes s.size (by omega)
  have HS := Lib.hid hs; clear hs
  have HT := Lib.hid ht; clear ht
  have HB := Lib.hid hb; clear hb
  have hVt := V_lt t
  have hVs := V_lt s
  have HVT := Lib.hid hVt; clear hVt
  have HVS := Lib.hid hVs; clear hVs
  have hnb := nb_bytes (V_lt s)
  obtain ⟨nb, hnbe⟩ : ∃ nb, nb = nbits (V s) := ⟨_, rfl⟩
  rw [← hnbe] at hnb
  have hq0 := @q_start w s.size (V s) (V t)
  rw [← hnbe] at hq0
  have hr0 : rk (V s) (V t) nb = 0 := by rw [hnbe]; exact r_top _ _
  have HQ0 := Lib.hid hq0; clear hq0
  have HR0 := Lib.hid hr0; clear hr0
  have HNB := Lib.hid hnbe; clear hnbe
  go_enter Tryz.func40, Tryz.ntmps40
  go_wp2_with fail
  refine (rbits_any s _ HS.out (by omega)).mono ?_; rintro e w' ⟨rfl, rfl⟩
  rw [← HNB.out]
  go_wp2
  go_loopw [9, 10] (fun r v wr => ∃ k : Nat, k ≤ nb ∧ v = .int .i64 ((k : Int) - 1) ∧ r = .string (E (rk (V s) (V t) k)) ∧ QRow wr w.heap.size s.size (V s) (V t) k ∧ Below w.heap.size w wr) (fun _ v _ => (intOf v + 1).toNat)
  case atStart => exact ⟨nb, Nat.le_refl _, rfl, by rw [HR0.out]; rfl, HQ0.out, (Below.refl _ _).alloc (Nat.le_refl _) _⟩
  case round =>
    clear HQ0 HR0
    obtain ⟨k, hk, rfl, rfl, hrow, hbel⟩ := hrel
    by_cases hlt : 0 < k
    · obtain ⟨i, rfl⟩ : ∃ i, k = i + 1 := ⟨k - 1, by omega⟩
      rw [show ((i + 1 : Nat) : Int) - 1 = (i : Int) by omega]
      obtain ⟨p, hp⟩ : ∃ p, p = i / 8 := ⟨_, rfl⟩
      obtain ⟨m, hm⟩ : ∃ m, m = i % 8 := ⟨_, rfl⟩
      have hpi : (i : Int) / 8 = (p : Int) := by omega
      have hmi : (i : Int) % 8 = (m : Int) := by omega
      have hps : p < s.size := by omega
      have hm8 : m < 8 := by omega
      have hstep := qr_step (V s) (V t) i HB.out
      have hRlt : rk (V s) (V t) (i + 1) < V t := Nat.mod_lt _ HB.out
      obtain ⟨R, hR⟩ : ∃ R, R = rk (V s) (V t) (i + 1) := ⟨_, rfl⟩
      rw [← hR] at hstep hRlt ⊢
      have hsz0 : (E R).size ≤ t.size := by rw [E_size_le]; exact Nat.lt_trans hRlt HVT.out
      have hsz1 : (E (R + R)).size ≤ t.size + 1 := by
        rw [E_size_le, Nat.pow_succ]; have := HVT.out; omega
      have hsz2 : (E (R + R + 1)).size ≤ t.size + 1 := by
        rw [E_size_le, Nat.pow_succ]; have := HVT.out; omega
      have hdl := dig_set_lt (qk (V s) (V t) (i + 1)) i
      rw [← hp, ← hm] at hdl
      obtain ⟨d, hd⟩ : ∃ d, d = dig (qk (V s) (V t) (i + 1) * 2 ^ (i + 1)) p := ⟨_, rfl⟩
      rw [← hd] at hdl
      have HD := Lib.hid hd; clear hd
      have HDL := Lib.hid hdl; clear hdl
      have HP := Lib.hid hp; clear hp
      have HM := Lib.hid hm; clear hm
      have HRR := Lib.hid hR; clear hR
      have HST := Lib.hid hstep; clear hstep
      have HRL := Lib.hid hRlt; clear hRlt
      have HROW := Lib.hid hrow; clear hrow
      have HBEL := Lib.hid hbel; clear hbel
      go_wp2_with fail
      refine (rplus_any (E R) (E R) _ (by omega) (by omega)).mono ?_; rintro e w1 ⟨rfl, b1⟩
      rw [V_E]
      have HROW1 := Lib.hid (World.rowIs.of_block HROW.out (b1.block _ HROW.out.lt))
      have HBEL1 := Lib.hid (bnext HBEL.out b1)
      clear HROW HBEL b1
      go_wp2_with fail
      refine (rone_any s i _ (by omega) (by omega)).mono ?_; rintro e w2 ⟨rfl, rfl⟩
      by_cases hbit : (V s).testBit i = true
      · have hC := HST.out (R + R + 1) (by rw [hbit]; rfl)
        rw [hbit]
        have HC := Lib.hid hC; clear hC hbit HST
        go_wp2_with fail
        refine (rplus_any (E (R + R)) ⟨#[1]⟩ _ (by omega) (by decide)).mono ?_; rintro e w2 ⟨rfl, b1⟩
        rw [V_E, V_one]
        have HROW2 := Lib.hid (World.rowIs.of_block HROW1.out (b1.block _ HROW1.out.lt))
        have HBEL2 := Lib.hid (bnext HBEL1.out b1)
        clear HROW1 HBEL1 b1
        go_wp2_with fail
        refine (order_any (E (R + R + 1)) t _ (can_E_ _) HT.out (by omega) (by omega)).mono ?_; rintro e w3 ⟨rfl, q, rfl⟩
        rw [V_E]
        by_cases hge : V t ≤ R + R + 1
        · have hsg : 0 ≤ sgn (R + R + 1) (V t) := sgn_nonneg hge
          have hC := HC.out.1 hge
          have HC1 := Lib.hid hC; clear hC HC
          have HGE := Lib.hid hge; clear hge
          go_wp2_with fail
          refine (rminus_any (E (R + R + 1)) t _ (by omega) (by omega) (by rw [V_E]; exact HGE.out)).mono ?_; rintro e w4 ⟨rfl, b4⟩
          rw [V_E, ← HC1.out.1]
          have hrow4 := World.rowIs.of_block HROW2.out (b4.block _ HROW2.out.lt)
          have hbel4 := HBEL2.out.trans ((below_d (Below.refl _ _) q).trans b4 |>.mono HBEL2.out.size)
          have HROW4 := Lib.hid hrow4; clear hrow4 HROW2
          have HBEL4 := Lib.hid hbel4; clear hbel4 HBEL2 b4
          go_wp2
          go_loop [11, 12] (fun x v => ∃ j y : Nat, j ≤ m ∧ v = .int .i64 j ∧ x = .int .u8 y ∧ y = 2 ^ j) (fun _ v => 8 - (intOf v).toNat)
          case atStart => exact ⟨0, 1, by omega, rfl, rfl, rfl⟩
          case round =>
            obtain ⟨j, y, hj, rfl, rfl, hy⟩ := hrel
            by_cases hjm : j < m
            · have hy6 : y ≤ 64 := by rw [hy]; exact Nat.pow_le_pow_right (n := 2) (by omega) (show j ≤ 6 by omega)
              have HY := Lib.hid hy; clear hy
              go_wp2
              go_round
              case rel => exact ⟨j + 1, y * 2, by omega, by go_num, by go_num, by rw [HY.out, Nat.pow_succ]⟩
              case measure => simp [intOf]; omega
            · obtain rfl : j = m := by omega
              have hdl : d + y < 256 := by rw [hy]; exact HDL.out
              have hcell : w4.cell? ⟨w.heap.size, s.size - 1 - p, none⟩ = some (.int .u8 d) := by
                rw [HD.out]; exact QRow.cell HROW4.out hps
              have hfr := World.rowIs.frozen HROW4.out (s.size - 1 - p)
              have HY := Lib.hid hy; clear hy
              go_wp2
              go_roundw
              case rel =>
                refine ⟨i, by omega, by go_num, rfl, ?_, HBEL4.out.setCell (Nat.le_refl _) _⟩
                have e := q_set (v := ((d + y : Nat) : Int)) HROW4.out HC1.out.2 (by rw [← HP.out]; exact hps) (by rw [HD.out, HY.out, HP.out, HM.out])
                rw [← HP.out] at e
                exact e
              case measure => simp [intOf]
        · have hsg : sgn (R + R + 1) (V t) < 0 := by have := sgn_neg hge; omega
          have hC := HC.out.2.1 hge
          have HC1 := Lib.hid hC; clear hC HC hge
          go_wp2
          go_roundw
          case rel =>
            exact ⟨i, by omega, by go_num, by rw [HC1.out.1], q_keep HROW2.out HC1.out.2, below_d HBEL2.out q⟩
          case measure => simp [intOf]
      · have hbit : (V s).testBit i = false := by simpa using hbit
        have hC := HST.out (R + R) (by rw [hbit]; rfl)
        rw [hbit]
        have HC := Lib.hid hC; clear hC hbit HST
        have HROW2 := HROW1
        have HBEL2 := HBEL1
        clear HROW1 HBEL1
        go_wp2_with fail
        refine (order_any (E (R + R)) t _ (can_E_ _) HT.out (by omega) (by omega)).mono ?_; rintro e w3 ⟨rfl, q, rfl⟩
        rw [V_E]
        by_cases hge : V t ≤ R + R
        · have hsg : 0 ≤ sgn (R + R) (V t) := sgn_nonneg hge
          have hC := HC.out.1 hge
          have HC1 := Lib.hid hC; clear hC HC
          have HGE := Lib.hid hge; clear hge
          go_wp2_with fail
          refine (rminus_any (E (R + R)) t _ (by omega) (by omega) (by rw [V_E]; exact HGE.out)).mono ?_; rintro e w4 ⟨rfl, b4⟩
          rw [V_E, ← HC1.out.1]
          have hrow4 := World.rowIs.of_block HROW2.out (b4.block _ HROW2.out.lt)
          have hbel4 := HBEL2.out.trans ((below_d (Below.refl _ _) q).trans b4 |>.mono HBEL2.out.size)
          have HROW4 := Lib.hid hrow4; clear hrow4 HROW2
          have HBEL4 := Lib.hid hbel4; clear hbel4 HBEL2 b4
          go_wp2
          go_loop [11, 12] (fun x v => ∃ j y : Nat, j ≤ m ∧ v = .int .i64 j ∧ x = .int .u8 y ∧ y = 2 ^ j) (fun _ v => 8 - (intOf v).toNat)
          case atStart => exact ⟨0, 1, by omega, rfl, rfl, rfl⟩
          case round =>
            obtain ⟨j, y, hj, rfl, rfl, hy⟩ := hrel
            by_cases hjm : j < m
            · have hy6 : y ≤ 64 := by rw [hy]; exact Nat.pow_le_pow_right (n := 2) (by omega) (show j ≤ 6 by omega)
              have HY := Lib.hid hy; clear hy
              go_wp2
              go_round
              case rel => exact ⟨j + 1, y * 2, by omega, by go_num, by go_num, by rw [HY.out, Nat.pow_succ]⟩
              case measure => simp [intOf]; omega
            · obtain rfl : j = m := by omega
              have hdl : d + y < 256 := by rw [hy]; exact HDL.out
              have hcell : w4.cell? ⟨w.heap.size, s.size - 1 - p, none⟩ = some (.int .u8 d) := by
                rw [HD.out]; exact QRow.cell HROW4.out hps
              have hfr := World.rowIs.frozen HROW4.out (s.size - 1 - p)
              have HY := Lib.hid hy; clear hy
              go_wp2
              go_roundw
              case rel =>
                refine ⟨i, by omega, by go_num, rfl, ?_, HBEL4.out.setCell (Nat.le_refl _) _⟩
                have e := q_set (v := ((d + y : Nat) : Int)) HROW4.out HC1.out.2 (by rw [← HP.out]; exact hps) (by rw [HD.out, HY.out, HP.out, HM.out])
                rw [← HP.out] at e
                exact e
              case measure => simp [intOf]
        · have hsg : sgn (R + R) (V t) < 0 := by have := sgn_neg hge; omega
          have hC := HC.out.2.1 hge
          have HC1 := Lib.hid hC; clear hC HC hge
          go_wp2
          go_roundw
          case rel =>
            exact ⟨i, by omega, by go_num, by rw [HC1.out.1], q_keep HROW2.out HC1.out.2, below_d HBEL2.out q⟩
          case measure => simp [intOf]
    · obtain rfl : k = 0 := by omega
      have hb := q_done hrow
      have hE := E_beN (k := s.size) (n := V s / V t) (Nat.lt_of_le_of_lt (Nat.div_le_self _ _) HVS.out)
      have HB2 := Lib.hid hb; clear hb
      have HE := Lib.hid hE; clear hE hrow
      have HRE := Lib.hid (r_end (V s) (V t))
      go_wp2_with fail
      refine (rtrim_any _ 0 s.size s.size (beN s.size (V s / V t)) _ (beN_length _ _) (by omega) (by omega) (by omega) HB2.out).mono ?_
      rintro e w' ⟨rfl, rfl⟩
      rw [HE.out, HRE.out]
      go_wp2
      go_ret2
      exact ⟨rfl, hbel⟩

theorem rover_any (s t : ByteArray) (w : World) (h1 : s.size ≤ 300) (h2 : t.size ≤ 300) (hs : can s.data.toList) (ht : can t.data.toList) (hb : 0 < V t) :
    Calls Tryz.prog 40 #[.string s, .string t] w fun e w' => e = .returned (.tuple #[.string (E (V s / V t)), .string (E (V s % V t))]) ∧ Below w.heap.size w w' := by
  by_cases h8 : s.size ≤ 8 ∧ t.size ≤ 8
  · exact rover_small s t w h8.1 h8.2 hb
  · by_cases h9 : (s.size : Int) ≤ 8
    · exact rover_big2 s t w h1 h2 hs ht hb h9 (by omega)
    · exact rover_big1 s t w h1 h2 hs ht hb h9
end Go.Proofs.YtogmgfdihmacpaaGreatDoor
