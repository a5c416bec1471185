/-
  Several parts in one text (IB).
-/
import Derived.Test.YtfokiokcofabcaaDoorInt6
import Derived.Deep.RegionWith
import Derived.Test.YtfokiokcofabcaaDoorIA
/-
  Contracts of package integer and of its reference: Sub.
-/
namespace Go.Proofs.YtfokiokcofabcaaDoor
open Go.RowKit
set_option linter.unusedVariables false

theorem Z_neg_code {g : Bool} {s : ByteArray} (h : IVal g s) : ∃ (G : Bool) (S : ByteArray), Z (-(IZ g s)) = .agg #[.bool G, .string S] ∧ IVal G S ∧ IZ G S = -(IZ g s) :=
  ⟨_, _, rfl, ival_Z _ (by rw [Int.natAbs_neg]; exact IZ_lim h), IZ_Z _⟩

end Go.Proofs.YtfokiokcofabcaaDoor


/-
  Contracts of package integer and of its reference: DivMod.
-/
namespace Go.Proofs.YtfokiokcofabcaaDoor
open Go.RowKit
set_option linter.unusedVariables false

/-- A quotient and a remainder, or ErrZero. -/
def zdivN (a b : Int) : Value := if b = 0 then .tuple #[Z 0, .string (E 0), .int .i64 11] else .tuple #[Z (a / b), .string (E (a % b).toNat), .int .i64 0]
theorem zdivN_zero (a : Int) : zdivN a 0 = .tuple #[Z 0, .string (E 0), .int .i64 11] := by unfold zdivN; rw [if_pos rfl]
theorem zdivN_code (a b : Int) : ∃ (g : Bool) (s t : ByteArray) (v : Int), zdivN a b = .tuple #[.agg #[.bool g, .string s], .string t, .int .i64 v] := by
  unfold zdivN; split
  · exact ⟨_, _, _, _, rfl⟩
  · exact ⟨_, _, _, _, rfl⟩
theorem euclid {a b q r : Int} (hb : b ≠ 0) (h : a = q * b + r) (h0 : 0 ≤ r) (h1 : r < b.natAbs) : a / b = q ∧ a % b = r := by
  rcases Int.lt_or_lt_of_ne hb with hn | hp
  · have := (Int.ediv_emod_unique (a := a) (b := -b) (r := r) (q := -q) (by omega)).2 ⟨by rw [Int.neg_mul_neg, h, Int.mul_comm]; omega, h0, by omega⟩
    rw [Int.ediv_neg, Int.emod_neg] at this
    omega
  · exact (Int.ediv_emod_unique hp).2 ⟨by rw [h, Int.mul_comm]; omega, h0, by omega⟩
theorem sg_ne (g : Bool) {n : Nat} (h : n ≠ 0) : sg g n ≠ 0 := by cases g <;> simp [sg] <;> omega
theorem sg_div (g1 g2 : Bool) (m n : Nat) (hn : n ≠ 0) (hc : g1 = false ∨ m % n = 0) : sg g1 m / sg g2 n = sg (g1 != g2) (m / n) ∧ sg g1 m % sg g2 n = (m % n : Nat) := by
  have e : (m : Int) = n * (m / n : Nat) + (m % n : Nat) := by exact_mod_cast (Nat.div_add_mod m n).symm
  have l : m % n < n := Nat.mod_lt _ (by omega)
  refine euclid (sg_ne g2 hn) ?_ (by omega) (by rw [sg_natAbs]; omega)
  have hc' : g1 = false ∨ ((m % n : Nat) : Int) = 0 := by rcases hc with q | q; exact .inl q; exact .inr (by rw [q]; rfl)
  generalize ((m % n : Nat) : Int) = r at *
  generalize (m / n : Nat) = q at *
  have e' : (m : Int) = q * n + r := by rw [Int.mul_comm]; exact e
  clear e hc
  cases g1 <;> cases g2
  · exact e'
  · show (m : Int) = -(q : Int) * -(n : Int) + r
    rw [Int.neg_mul_neg]; exact e'
  · rcases hc' with h | h
    · cases h
    · show -(m : Int) = -(q : Int) * (n : Int) + r
      rw [Int.neg_mul]; omega
  · rcases hc' with h | h
    · cases h
    · show -(m : Int) = (q : Int) * -(n : Int) + r
      rw [Int.mul_neg]; omega
theorem sg_div' (g2 : Bool) (m n : Nat) (hn : n ≠ 0) (hc : m % n ≠ 0) : sg true m / sg g2 n = sg (true != g2) (m / n + 1) ∧ sg true m % sg g2 n = (n - m % n : Nat) := by
  have e : (m : Int) = n * (m / n : Nat) + (m % n : Nat) := by exact_mod_cast (Nat.div_add_mod m n).symm
  have l : m % n < n := Nat.mod_lt _ (by omega)
  have e2 : ((n - m % n : Nat) : Int) = n - (m % n : Nat) := by omega
  refine euclid (sg_ne g2 hn) ?_ (by omega) (by rw [sg_natAbs]; omega)
  rw [e2]
  generalize (m % n : Nat) = r at *
  generalize (m / n : Nat) = q at *
  have e3 : (n : Int) * (q + 1 : Nat) = n * q + n := by rw [Int.natCast_add, Int.mul_add]; simp
  have e4 : ((q + 1 : Nat) : Int) * n = n * q + n := by rw [Int.mul_comm]; exact e3
  cases g2
  · show -(m : Int) = -((q + 1 : Nat) : Int) * (n : Int) + _
    rw [Int.neg_mul, e4]; omega
  · show -(m : Int) = ((q + 1 : Nat) : Int) * -(n : Int) + _
    rw [Int.mul_neg, e4]; omega
/-- The two numbers that DivMod's results are made of. -/
theorem quot_lim {m n : Nat} (h : m < Lim) (hn : n ≠ 0) (hc : m % n ≠ 0) : m / n + 1 < Lim := by
  have h2 : 2 ≤ n := by
    rcases Nat.lt_or_ge n 2 with q | q
    · have : n = 1 := by omega
      subst this; exact absurd (Nat.mod_one m) hc
    · exact q
  have h1 : m / n ≤ m / 2 := Nat.div_le_div_left h2 (by omega)
  have h3 : m ≠ 0 := by intro q; subst q; exact hc (Nat.zero_mod n)
  omega

end Go.Proofs.YtfokiokcofabcaaDoor


/-
  Contracts of package integer and of its reference: Of, Small; the reference's From.
-/
namespace Go.Proofs.YtfokiokcofabcaaDoor
open Go.RowKit
set_option linter.unusedVariables false

theorem below1 {w w' : World} {c0 c1 : Value} {t : TypeId} (b : Below (w.alloc (.cells #[c0, c1] t)).heap.size (w.alloc (.cells #[c0, c1] t)) w') : Below w.heap.size w w' :=
  ((Below.refl w.heap.size w).alloc (Nat.le_refl _) _).trans (b.mono (by simp))
theorem ret_ib {a b : Int} {c : Bool} (h : a = b) : Ending.returned (.tuple #[.int .i64 a, .bool c]) = .returned (.tuple #[.int .i64 b, .bool c]) := by rw [h]
theorem small_of {g : Bool} {s : ByteArray} (h : IVal g s) (h1 : -9223372036854775808 ≤ IZ g s) (h2 : IZ g s ≤ 9223372036854775807) : SmallC s := by
  refine ⟨h.1, ?_⟩
  have hv : V s ≤ 9223372036854775808 := by
    have := sg_natAbs g (V s)
    unfold IZ at h1 h2
    omega
  have := E_V h.1
  rw [← this]
  exact E_size_le.2 (by have : (256 : Nat) ^ 8 = 18446744073709551616 := by decide
                        omega)
theorem smallC_can {s : ByteArray} (h : SmallC s) : Can s := h.1

end Go.Proofs.YtfokiokcofabcaaDoor


/-
  Contracts of package integer and of its reference: Mod, Divide.
-/
namespace Go.Proofs.YtfokiokcofabcaaDoor
open Go.RowKit
set_option linter.unusedVariables false

theorem Two.out {w : World} {g : Nat} {c0 c1 : Value} (h : Two w g c0 c1) : w.cell? ⟨g, 0, none⟩ = some c0 ∧ w.cell? ⟨g, 1, none⟩ = some c1 := ⟨h.1, h.2.1⟩

end Go.Proofs.YtfokiokcofabcaaDoor


/-
  Contracts of package integer and of its reference: Mod.
-/
namespace Go.Proofs.YtfokiokcofabcaaDoor
open Go.RowKit
set_option linter.unusedVariables false

theorem Two.newD (w : World) (c0 c1 : Value) (t : TypeId) (g : Nat) (hg : g = w.heap.size) : Two (w.alloc (.cells #[c0, c1] t)).drew g c0 c1 := Two.new w c0 c1 t g hg
theorem Two.allocD {w : World} {g : Nat} {c0 c1 : Value} (h : Two w g c0 c1) (o : Obj) : Two (w.alloc o).drew g c0 c1 := h.alloc o
theorem Two.drewD {w : World} {g : Nat} {c0 c1 : Value} (h : Two w g c0 c1) : Two w.drew g c0 c1 := h

end Go.Proofs.YtfokiokcofabcaaDoor

