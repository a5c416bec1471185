/-
  Contracts of the reference of layer 1: Over, DivMod.
-/
import Derived.Test.YtehbbghobagkjaaGreatDoorRef4
import Derived.Deep.RegionHeld3
namespace Go.Proofs.YtehbbghobagkjaaGreatDoor
open Go.RowKit
set_option linter.unusedVariables false

theorem can_E_ (n : Nat) : can (E n).data.toList := by rw [E_data]; exact can_enc n
theorem row_below {w w' : World} {g t n : Nat} {f : Nat → Value} (h : w.rowIs g t n f) (b : Below w.heap.size w w') : w'.rowIs g t n f := h.of_block (b.block g h.lt)
theorem nb_bytes {n k : Nat} (h : n < 256 ^ k) : nbits n ≤ 8 * k := by
  unfold nbits
  split
  · omega
  · rename_i h0
    have := log2_lt_bytes h0 h
    omega
theorem V_one : V ⟨#[1]⟩ = 1 := by rw [← l_1, V_E]

theorem dig_none (j X M : Nat) : 256 ^ j * (256 * X) * M / 256 ^ j % 256 = 0 := by
  rw [Nat.mul_assoc, Nat.mul_div_cancel_left _ (p256 j), Nat.mul_assoc, Nat.mul_mod_right]
/-- A binary digit is set where it and all below it are clear. -/
theorem dig_set (Q i j : Nat) : dig (Q * 2 ^ (i + 1) + 2 ^ i) j = if j = i / 8 then dig (Q * 2 ^ (i + 1)) (i / 8) + 2 ^ (i % 8) else dig (Q * 2 ^ (i + 1)) j := by
  have hi : 2 ^ i = 256 ^ (i / 8) * 2 ^ (i % 8) := by rw [← pow256, ← Nat.pow_add]; congr 1; omega
  have hr : i % 8 < 8 := by omega
  rw [Nat.pow_succ, hi]
  generalize i / 8 = p at *
  generalize i % 8 = r at *
  have e1 : Q * (256 ^ p * 2 ^ r * 2) = 256 ^ p * (2 ^ r * (2 * Q)) := by
    rw [Nat.mul_comm, Nat.mul_assoc, Nat.mul_assoc]
  rw [e1, ← Nat.mul_add]
  unfold dig
  rcases Nat.lt_trichotomy j p with h | h | h
  · rw [if_neg (by omega)]
    have : 256 ^ p = 256 ^ j * (256 * 256 ^ (p - j - 1)) := by rw [← Nat.pow_succ', ← Nat.pow_add]; congr 1; omega
    rw [this, dig_none, dig_none]
  · subst h
    rw [if_pos rfl, Nat.mul_div_cancel_left _ (p256 j), Nat.mul_div_cancel_left _ (p256 j)]
    have : r = 0 ∨ r = 1 ∨ r = 2 ∨ r = 3 ∨ r = 4 ∨ r = 5 ∨ r = 6 ∨ r = 7 := by omega
    rcases this with rfl | rfl | rfl | rfl | rfl | rfl | rfl | rfl <;> omega
  · rw [if_neg (by omega)]
    have : 256 ^ j = 256 ^ p * (256 * 256 ^ (j - p - 1)) := by rw [← Nat.pow_succ', ← Nat.pow_add]; congr 1; omega
    rw [this, Nat.mul_div_mul_left _ _ (p256 p), Nat.mul_div_mul_left _ _ (p256 p), ← Nat.div_div_eq_div_mul, ← Nat.div_div_eq_div_mul]
    congr 2
    have : r = 0 ∨ r = 1 ∨ r = 2 ∨ r = 3 ∨ r = 4 ∨ r = 5 ∨ r = 6 ∨ r = 7 := by omega
    rcases this with rfl | rfl | rfl | rfl | rfl | rfl | rfl | rfl <;> omega
theorem dig_set_lt (Q i : Nat) : dig (Q * 2 ^ (i + 1)) (i / 8) + 2 ^ (i % 8) < 256 := by
  have h := dig_set Q i (i / 8)
  rw [if_pos rfl] at h
  rw [← h]; exact dig_lt _ _

/-- The quotient and the remainder of the upper digits. -/
def qk (a b k : Nat) : Nat := a / 2 ^ k / b
def rk (a b k : Nat) : Nat := a / 2 ^ k % b
theorem up_step (a i : Nat) : a / 2 ^ i = 2 * (a / 2 ^ (i + 1)) + (a.testBit i).toNat := by
  rw [Nat.testBit_eq_decide_div_mod_eq, Nat.pow_succ, ← Nat.div_div_eq_div_mul]
  generalize a / 2 ^ i = u
  rcases Nat.mod_two_eq_zero_or_one u with h | h
  · rw [h]; simp; omega
  · rw [h]; simp; omega
theorem qr_step (a b i : Nat) (hb : 0 < b) (c : Nat) (hc : c = rk a b (i + 1) + rk a b (i + 1) + (a.testBit i).toNat) :
    (b ≤ c → rk a b i = c - b ∧ qk a b i = 2 * qk a b (i + 1) + 1) ∧ (¬ b ≤ c → rk a b i = c ∧ qk a b i = 2 * qk a b (i + 1)) ∧ c < 2 * b := by
  have hu := up_step a i
  unfold qk rk at *
  have hbit : (a.testBit i).toNat ≤ 1 := by cases a.testBit i <;> simp
  generalize (a.testBit i).toNat = t at *
  generalize a / 2 ^ (i + 1) = u at *
  have hm := Nat.mod_lt u hb
  have hd := Nat.div_add_mod u b
  have e : a / 2 ^ i = b * (2 * (u / b)) + c := by
    rw [hu, hc, Nat.mul_left_comm]; omega
  refine ⟨fun h => ?_, fun h => ?_, by omega⟩
  · have e2 : a / 2 ^ i = b * (2 * (u / b) + 1) + (c - b) := by rw [e, Nat.mul_add]; omega
    rw [e2]
    exact ⟨by rw [Nat.mul_add_mod, Nat.mod_eq_of_lt (show c - b < b by omega)], by rw [Nat.mul_add_div hb, Nat.div_eq_of_lt (show c - b < b by omega), Nat.add_zero]⟩
  · rw [e]
    exact ⟨by rw [Nat.mul_add_mod, Nat.mod_eq_of_lt (show c < b by omega)], by rw [Nat.mul_add_div hb, Nat.div_eq_of_lt (show c < b by omega), Nat.add_zero]⟩
theorem q_top (a b : Nat) : qk a b (nbits a) = 0 := by unfold qk; rw [Nat.div_eq_of_lt (lt_nbits' a), Nat.zero_div]
theorem r_top (a b : Nat) : rk a b (nbits a) = 0 := by unfold rk; rw [Nat.div_eq_of_lt (lt_nbits' a), Nat.zero_mod]
theorem q_end (a b : Nat) : qk a b 0 = a / b := by unfold qk; rw [Nat.pow_zero, Nat.div_one]
theorem r_end (a b : Nat) : rk a b 0 = a % b := by unfold rk; rw [Nat.pow_zero, Nat.div_one]
/-- What the quotient's row holds: the digits of the quotient so far. -/
def QRow (w : World) (g len a b k : Nat) : Prop := w.rowIs g 5 len (fun j => .int .u8 (dig (qk a b k * 2 ^ k) (len - 1 - j) : Nat))
theorem q_keep {w : World} {g len a b i : Nat} (h : QRow w g len a b (i + 1)) (e : qk a b i = 2 * qk a b (i + 1)) : QRow w g len a b i := by
  refine h.congr fun j _ => ?_
  rw [e, Nat.pow_succ, Nat.mul_comm 2, Nat.mul_assoc, Nat.mul_comm 2]
theorem q_set {w : World} {g len a b i : Nat} {v : Int} (h : QRow w g len a b (i + 1)) (e : qk a b i = 2 * qk a b (i + 1) + 1) (hi : i / 8 < len)
    (hv : v = (dig (qk a b (i + 1) * 2 ^ (i + 1)) (i / 8) + 2 ^ (i % 8) : Nat)) : QRow (w.setCell ⟨g, len - 1 - i / 8, none⟩ (.int .u8 v)) g len a b i := by
  refine (World.rowIs.set h (len - 1 - i / 8) (.int .u8 v)).congr fun j hj => ?_
  have e2 : qk a b i * 2 ^ i = qk a b (i + 1) * 2 ^ (i + 1) + 2 ^ i := by
    rw [e, Nat.add_mul, Nat.one_mul, Nat.pow_succ, Nat.mul_comm 2, Nat.mul_assoc, Nat.mul_comm 2]
  show (if j = len - 1 - i / 8 then _ else _) = _
  rw [e2, dig_set]
  by_cases hji : j = len - 1 - i / 8
  · rw [if_pos hji, if_pos (by omega), hv]
  · rw [if_neg hji, if_neg (by omega)]
theorem q_done {w : World} {g len a b : Nat} (h : QRow w g len a b 0) : Bytes w g 0 (beN len (a / b)) := by
  refine part_done (t := 5) (World.rowIs.congr h fun j hj => ?_)
  rw [q_end, Nat.pow_zero, Nat.mul_one]
  unfold partB
  rw [if_pos (by omega)]
theorem q_start {w : World} {len a b : Nat} : QRow (w.alloc (.cells (madeCells #[.int .u8 0] len) 5)) w.heap.size len a b (nbits a) := by
  refine (World.rowIs_made w (.int .u8 0) len 5).congr fun j _ => ?_
  rw [q_top, Nat.zero_mul]; unfold dig; rw [Nat.zero_div]; rfl
theorem QRow.cell {w : World} {g len a b k p : Nat} (h : QRow w g len a b k) (hp : p < len) : w.cell? ⟨g, len - 1 - p, none⟩ = some (.int .u8 (dig (qk a b k * 2 ^ k) p : Nat)) := by
  have := World.rowIs.cell h (i := len - 1 - p) (by omega)
  rw [this, show len - 1 - (len - 1 - p) = p by omega]

end Go.Proofs.YtehbbghobagkjaaGreatDoor
