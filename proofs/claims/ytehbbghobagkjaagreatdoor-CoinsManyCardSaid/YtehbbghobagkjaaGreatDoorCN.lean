/-
  Coins in plain numbers: the label of a block, the bytes of an attempt, the number of an attempt, the first one below a bound.
-/
import Derived.Test.YtehbbghobagkjaaGreatDoorSha
import Derived.Test.YtehbbghobagkjaaGreatDoorNA
import Derived.Lib.ItoaNum
namespace Go.Proofs.YtehbbghobagkjaaGreatDoor
set_option linter.unusedVariables false

/-- "at.a.b" in decimal. -/
def labL (t a b : Nat) : List UInt8 := Lib.decDigits t ++ (46 :: (Lib.decDigits a ++ (46 :: Lib.decDigits b)))
/-- A block of an attempt, the first k blocks. -/
def blkL (S : List UInt8) (t a b : Nat) : List UInt8 := macL S (labL t a b)
def strmL (S : List UInt8) (t a : Nat) : Nat → List UInt8
  | 0 => []
  | k + 1 => strmL S t a k ++ blkL S t a k
/-- How many bytes an attempt has, and how many blocks it takes. -/
def csize (bits : Nat) : Nat := (bits + 7) / 8
def cblk (bits : Nat) : Nat := (csize bits + 31) / 32
def candL (S : List UInt8) (t a bits : Nat) : List UInt8 := (strmL S t a (cblk bits)).take (csize bits)
/-- A byte without its h highest bits. -/
def maskB (c : UInt8) (h : Nat) : UInt8 := UInt8.ofNat (c.toNat % 2 ^ (8 - h))
def maskF (h : Nat) : List UInt8 → List UInt8
  | [] => []
  | c :: l => maskB c h :: l
def candM (S : List UInt8) (t a bits : Nat) : List UInt8 := maskF (8 * csize bits - bits) (candL S t a bits)
/-- The number of attempt a for the coin at t. -/
def candN (S : List UInt8) (t a bits : Nat) : Nat := bval (candM S t a bits)
/-- The first attempt from a on, of k attempts, that is below n. -/
def firstN (S : List UInt8) (t n : Nat) : Nat → Nat → Option Nat
  | _, 0 => none
  | a, k + 1 => if candN S t a (nbits n) < n then some (candN S t a (nbits n)) else firstN S t n (a + 1) k

theorem blkL_len (S : List UInt8) (t a b : Nat) : (blkL S t a b).length = 32 := shaL_length _
theorem strmL_len (S : List UInt8) (t a : Nat) : ∀ k, (strmL S t a k).length = 32 * k := by
  intro k
  induction k with
  | zero => rfl
  | succ k ih => show (strmL S t a k ++ blkL S t a k).length = _; rw [List.length_append, ih, blkL_len]; omega
theorem candL_len (S : List UInt8) (t a bits : Nat) : (candL S t a bits).length = csize bits := by
  unfold candL
  rw [List.length_take, strmL_len]
  unfold cblk
  omega
theorem maskF_len (h : Nat) (l : List UInt8) : (maskF h l).length = l.length := by cases l <;> rfl
theorem candM_len (S : List UInt8) (t a bits : Nat) : (candM S t a bits).length = csize bits := by
  unfold candM; rw [maskF_len, candL_len]
theorem candN_lt (S : List UInt8) (t a bits : Nat) (h : bits ≤ 1024) : candN S t a bits < 256 ^ 128 := by
  unfold candN
  refine Nat.lt_of_lt_of_le (bval_lt _) ?_
  rw [candM_len]
  exact Nat.pow_le_pow_right (by omega) (by unfold csize; omega)
/-- A byte without its highest bits, one bit after another. -/
theorem low_step {x i : Nat} (h : x < 2 ^ (i + 1)) : (if 2 ^ i ≤ x then x - 2 ^ i else x) = x % 2 ^ i := by
  have hp : 0 < 2 ^ i := Nat.two_pow_pos i
  rw [Nat.pow_succ] at h
  split
  · rename_i h1
    rw [Nat.mod_eq_sub_mod h1, Nat.mod_eq_of_lt (by omega)]
  · rw [Nat.mod_eq_of_lt (by omega)]
theorem low_mod {c i : Nat} : c % 2 ^ (i + 1) % 2 ^ i = c % 2 ^ i := Nat.mod_mod_of_dvd c ⟨2, by rw [Nat.pow_succ]⟩
/-! ### The codes of two labels, calculated -/
def macF (k s : List UInt8) : List UInt8 := forceB (shaE (maskL k 54 ++ s)) fun m => shaE (maskL k 92 ++ m)
theorem macF_eq (k s : List UInt8) (h : k.length ≤ 64) : macF k s = macL k s := by
  unfold macF macL shortK; rw [if_neg (by omega), forceB_eq, shaE_eq, shaE_eq]
def seedL : List UInt8 := [115, 101, 101, 100]
theorem dec0 : Lib.decDigits 0 = [48] := Lib.decDigits_one (by omega)
theorem dec1 : Lib.decDigits 1 = [49] := Lib.decDigits_one (by omega)
theorem lab00 : labL 0 0 0 = [48, 46, 48, 46, 48] := by unfold labL; rw [dec0]; rfl
theorem lab01 : labL 0 1 0 = [48, 46, 49, 46, 48] := by unfold labL; rw [dec0, dec1]; rfl
theorem mac00 : (macF seedL [48, 46, 48, 46, 48]).head? = some 125 := by decide +kernel
theorem mac01 : (macF seedL [48, 46, 49, 46, 48]).head? = some 196 := by decide +kernel
theorem cand_one (a : Nat) (c : UInt8) (h : (macL seedL (labL 0 a 0)).head? = some c) : candN seedL 0 a 1 = c.toNat % 2 := by
  have e : candL seedL 0 a 1 = [c] := by
    show (([] : List UInt8) ++ macL seedL (labL 0 a 0)).take 1 = [c]
    rw [List.nil_append]
    cases hl : macL seedL (labL 0 a 0) with
    | nil => rw [hl] at h; cases h
    | cons x l => rw [hl] at h; simp at h; subst h; rfl
  unfold candN candM
  rw [e]
  show bval [UInt8.ofNat (c.toNat % 2 ^ (8 - 7))] = _
  have : c.toNat % 2 < 256 := by omega
  show bval [UInt8.ofNat (c.toNat % 2)] = _
  simp [bval, Nat.mod_eq_of_lt this]
theorem cand00 : candN seedL 0 0 1 = 1 := by
  rw [cand_one 0 125 (by rw [lab00, ← macF_eq _ _ (by decide)]; exact mac00)]; rfl
theorem cand01 : candN seedL 0 1 1 = 0 := by
  rw [cand_one 1 196 (by rw [lab01, ← macF_eq _ _ (by decide)]; exact mac01)]; rfl
theorem first_seed : firstN seedL 0 1 0 256 = some 0 := by
  show (if candN seedL 0 0 (nbits 1) < 1 then _ else firstN seedL 0 1 1 255) = _
  rw [show nbits 1 = 1 from rfl, cand00, if_neg (by omega)]
  show (if candN seedL 0 1 (nbits 1) < 1 then _ else _) = _
  rw [show nbits 1 = 1 from rfl, cand01, if_pos (by omega)]
end Go.Proofs.YtehbbghobagkjaaGreatDoor
