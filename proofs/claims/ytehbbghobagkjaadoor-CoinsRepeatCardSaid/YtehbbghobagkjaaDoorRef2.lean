/-
  Contracts of the reference of layer 1: Plus, Minus, bits, one.
-/
import Derived.Test.YtehbbghobagkjaaDoorRef1
namespace Go.Proofs.YtehbbghobagkjaaDoor
open Go.RowKit
set_option linter.unusedVariables false

theorem carry_comm (a b c : Nat) : a + b + c = c + (a + b) := by omega

/-- The borrow as the reference keeps it. -/
def bor (a b k : Nat) : Nat := (- borrow a b k).toNat
theorem bor_cast (a b k : Nat) : ((bor a b k : Nat) : Int) = - borrow a b k := by
  have := borrow_le a b k; unfold bor; omega
theorem bor_zero (a b : Nat) : bor a b 0 = 0 := by unfold bor; rw [borrow_zero]; rfl
theorem bor_le (a b k : Nat) : bor a b k ≤ 1 := by have := borrow_le a b k; unfold bor; omega
theorem bor_low {a b k : Nat} (hab : b ≤ a) (h : ((dig a k : Nat) : Int) - (dig b k : Nat) - (bor a b k : Nat) < 0) :
    ((dig (a - b) k : Nat) : Int) = (dig a k : Nat) - (dig b k : Nat) - (bor a b k : Nat) + 256 ∧ bor a b (k + 1) = 1 := by
  have hs := sub_step a b k hab
  have h1 := bor_cast a b k
  have h2 := bor_cast a b (k + 1)
  have d1 : dig a k < 256 := Nat.mod_lt _ (by omega)
  have d2 : dig b k < 256 := Nat.mod_lt _ (by omega)
  have := bor_le a b k
  omega
theorem bor_high {a b k : Nat} (hab : b ≤ a) (h : ¬ ((dig a k : Nat) : Int) - (dig b k : Nat) - (bor a b k : Nat) < 0) :
    ((dig (a - b) k : Nat) : Int) = (dig a k : Nat) - (dig b k : Nat) - (bor a b k : Nat) ∧ bor a b (k + 1) = 0 := by
  have hs := sub_step a b k hab
  have h1 := bor_cast a b k
  have h2 := bor_cast a b (k + 1)
  have d1 : dig a k < 256 := Nat.mod_lt _ (by omega)
  have d2 : dig b k < 256 := Nat.mod_lt _ (by omega)
  have := bor_le a b k
  omega

theorem V_empty {s : ByteArray} (h0 : s.size = 0) : V s = 0 := by
  have : s.data.toList = [] := by rw [size_eq] at h0; exact List.eq_nil_of_length_eq_zero h0
  unfold V; rw [this]; rfl
theorem nbits_zero : nbits 0 = 0 := rfl

theorem one_eq (n i : Nat) : (((dig n (i / 8) / 2 ^ (i % 8) : Nat) : Int) % 2 == 1) = n.testBit i := by
  rw [Nat.testBit_eq_decide_div_mod_eq]
  have e : dig n (i / 8) / 2 ^ (i % 8) % 2 = n / 2 ^ i % 2 := by
    have hi : 2 ^ i = 256 ^ (i / 8) * 2 ^ (i % 8) := by rw [← pow256, ← Nat.pow_add]; congr 1; omega
    rw [hi, ← Nat.div_div_eq_div_mul]
    unfold dig
    generalize n / 256 ^ (i / 8) = q
    have hr : i % 8 < 8 := by omega
    generalize i % 8 = r at *
    have : r = 0 ∨ r = 1 ∨ r = 2 ∨ r = 3 ∨ r = 4 ∨ r = 5 ∨ r = 6 ∨ r = 7 := by omega
    rcases this with rfl | rfl | rfl | rfl | rfl | rfl | rfl | rfl <;> omega
  have c : ((dig n (i / 8) / 2 ^ (i % 8) : Nat) : Int) % 2 = ((n / 2 ^ i % 2 : Nat) : Int) := by rw [← e]; omega
  rw [c]
  rcases Nat.mod_two_eq_zero_or_one (n / 2 ^ i) with h | h <;> rw [h] <;> rfl

end Go.Proofs.YtehbbghobagkjaaDoor
