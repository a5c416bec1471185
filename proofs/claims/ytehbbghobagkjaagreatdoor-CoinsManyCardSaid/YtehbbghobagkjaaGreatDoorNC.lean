/-
  Several parts in one text (NC).
-/
import Derived.Test.YtehbbghobagkjaaGreatDoorNB
import Derived.Deep.QuietTactic
import Derived.BigQuiet
import Derived.Lib.SliceRun
/-
  Contracts of package natural, the sixth part: addRow, Mul.
-/
namespace Go.Proofs.YtehbbghobagkjaaGreatDoor
open Go.RowKit
set_option linter.unusedVariables false

/-- The carry behind j digits of c + d y. -/
def carryM (c d y j : Nat) : Nat := (c % B32 ^ j + d * (y % B32 ^ j)) / B32 ^ j
theorem carryM_zero (c d y : Nat) : carryM c d y 0 = 0 := by simp [carryM, Nat.mod_one]
theorem carryM_lt (c d y j : Nat) (hd : d < 4294967296) : carryM c d y j < 4294967296 := by
  have h := b32_pos j
  have h1 := Nat.mod_lt c h
  have h2 := Nat.mod_lt y h
  unfold carryM
  apply Nat.div_lt_of_lt_mul
  have h3 := Nat.mul_le_mul (show d ≤ 4294967295 by omega) (show y % B32 ^ j ≤ B32 ^ j - 1 by omega)
  rw [Nat.mul_sub] at h3
  have e : B32 ^ j * 4294967296 = 4294967295 * B32 ^ j + B32 ^ j := by omega
  have h4 : 4294967295 ≤ 4294967295 * B32 ^ j := Nat.le_mul_of_pos_right _ h
  omega
theorem mul_step (c d y j : Nat) : (carryM c d y j + (wd c j + d * wd y j)) % 4294967296 = wd (c + d * y) j ∧ (carryM c d y j + (wd c j + d * wd y j)) / 4294967296 = carryM c d y (j + 1) := by
  have hB : (4294967296 : Nat) = B32 := rfl
  rw [hB]
  unfold carryM wd
  have h := b32_pos j
  rw [Nat.pow_succ]
  generalize B32 ^ j = p at *
  have ec : c % (p * B32) = c % p + p * (c / p % B32) := Nat.mod_mul
  have ey : y % (p * B32) = y % p + p * (y / p % B32) := Nat.mod_mul
  have hc := Nat.div_add_mod c p
  have hy := Nat.div_add_mod y p
  have e1 : (c + d * y) / p = c / p + d * (y / p) + (c % p + d * (y % p)) / p := by
    have : c + d * y = p * (c / p + d * (y / p)) + (c % p + d * (y % p)) := by
      conv => lhs; rw [← hc, ← hy]
      rw [Nat.mul_add, Nat.mul_add, ← Nat.mul_assoc d p, ← Nat.mul_assoc p d, Nat.mul_comm d p]; omega
    rw [this, Nat.mul_add_div h]
  have e2 : (c % (p * B32) + d * (y % (p * B32))) / (p * B32) = ((c % p + d * (y % p)) / p + (c / p % B32 + d * (y / p % B32))) / B32 := by
    rw [ec, ey, ← Nat.div_div_eq_div_mul]
    have : c % p + p * (c / p % B32) + d * (y % p + p * (y / p % B32)) = p * (c / p % B32 + d * (y / p % B32)) + (c % p + d * (y % p)) := by
      rw [Nat.mul_add, Nat.mul_add, ← Nat.mul_assoc d p, ← Nat.mul_assoc p d, Nat.mul_comm d p]; omega
    rw [this, Nat.mul_add_div h, Nat.add_comm]
  rw [e1, e2]
  refine ⟨?_, rfl⟩
  generalize (c % p + d * (y % p)) / p = k
  rw [Nat.add_mod, Nat.add_mod (c / p + d * (y / p)), Nat.add_mod (c / p % B32), Nat.mod_mod, Nat.mul_mod d (y / p % B32), Nat.mod_mod, ← Nat.mul_mod, ← Nat.add_mod (c / p), ← Nat.add_mod, ← Nat.add_mod, Nat.add_comm]

/-- The digits from place o on. -/
theorem wd_shift (n o j : Nat) : wd n (o + j) = wd (n / B32 ^ o) j := by unfold wd; rw [Nat.pow_add, Nat.div_div_eq_div_mul]
theorem wd_add_low (p q o i : Nat) (h : i < o) : wd (p + q * B32 ^ o) i = wd p i := by
  unfold wd
  have : B32 ^ o = B32 ^ i * (B32 * B32 ^ (o - i - 1)) := by rw [← Nat.pow_succ', ← Nat.pow_add]; congr 1; omega
  rw [this, Nat.mul_comm q, Nat.mul_assoc, Nat.add_mul_div_left _ _ (b32_pos i), Nat.mul_assoc, Nat.add_mul_mod_self_left]
theorem add_high (p q o : Nat) : (p + q * B32 ^ o) / B32 ^ o = p / B32 ^ o + q := by rw [Nat.mul_comm, Nat.add_mul_div_left _ _ (b32_pos o)]

/-- Digits i of P2 below place a, of P from there on. -/
def mix (P2 P a i : Nat) : Nat := if i < a then wd P2 i else wd P i
theorem mix_step {w : World} {g t L P2 P a : Nat} {v : Int} (h : w.rowIs g t L (fun j => .int .u32 (mix P2 P a j : Nat))) (hv : v = (wd P2 a : Nat)) :
    (w.setCell ⟨g, a, none⟩ (.int .u32 v)).rowIs g t L (fun j => .int .u32 (mix P2 P (a + 1) j : Nat)) :=
  set_row (h := mix P2 P (a + 1)) h (by rw [hv]; unfold mix; rw [if_pos (by omega)]) (fun j hj => by
    unfold mix
    by_cases h1 : j < a
    · rw [if_pos h1, if_pos (by omega)]
    · rw [if_neg h1, if_neg (by omega)])

/-- Only block g, and what is new, has turned. -/
structure Only (g : Nat) (w w' : World) : Prop where
  os : w'.os = w.os
  tape : w'.tape = w.tape
  output : w'.output = w.output
  size : w.heap.size ≤ w'.heap.size
  block : ∀ k, k < w.heap.size → k ≠ g → w'.heap[k]? = w.heap[k]?
theorem Only.refl (g : Nat) (w : World) : Only g w w := ⟨rfl, rfl, rfl, Nat.le_refl _, fun _ _ _ => rfl⟩
theorem Only.trans {g : Nat} {a b c : World} (h : Only g a b) (k : Only g b c) : Only g a c :=
  ⟨k.os.trans h.os, k.tape.trans h.tape, k.output.trans h.output, Nat.le_trans h.size k.size, fun i hi hn => (k.block i (Nat.lt_of_lt_of_le hi h.size) hn).trans (h.block i hi hn)⟩
theorem Only.drewN {g : Nat} {a b : World} (h : Only g a b) (n : Nat) : Only g a (b.drewN n) := ⟨h.os, h.tape, h.output, h.size, h.block⟩
theorem Only.drew {g : Nat} {a b : World} (h : Only g a b) : Only g a b.drew := ⟨h.os, h.tape, h.output, h.size, h.block⟩
theorem Only.set {g : Nat} {a b : World} (h : Only g a b) (o : Nat) (u : Value) : Only g a (b.setCell ⟨g, o, none⟩ u) :=
  h.trans ⟨rfl, rfl, rfl, by simp [World.setCell], fun i _ hn => Below.heap_setCell _ _ _ _ hn⟩
theorem Only.below {g B : Nat} {a w w' : World} (h : Below B a w) (k : Only g w w') (hB : B ≤ w.heap.size) (hg : B ≤ g) : Below B a w' :=
  h.trans ⟨k.os, k.tape, k.output, k.size, fun i hi => k.block i (by omega) (by omega)⟩
theorem Only.cell {g : Nat} {w w' : World} (h : Only g w w') {b o : Nat} (hb : b < w.heap.size) (hn : b ≠ g) : w'.cell? ⟨b, o, none⟩ = w.cell? ⟨b, o, none⟩ :=
  World.cell?_of_block (w := w) (a := ⟨b, o, none⟩) (h.block b hb hn)
theorem Only.words {g : Nat} {w w' : World} (h : Only g w w') {b o n N : Nat} (hb : b < w.heap.size) (hn : b ≠ g) (hw : Words w b o n N) : Words w' b o n N :=
  fun j hj => (h.cell hb hn).trans (hw j hj)
theorem Only.row {g : Nat} {w w' : World} (h : Only g w w') {b t n : Nat} {f : Nat → Value} (hn : b ≠ g) (hw : w.rowIs b t n f) : w'.rowIs b t n f :=
  hw.of_block (h.block b hw.lt hn)
theorem carryM_end {c d y m : Nat} (hc : c < B32 ^ m) (hy : y < B32 ^ m) : carryM c d y m = (c + d * y) / B32 ^ m := by
  unfold carryM; rw [Nat.mod_eq_of_lt hc, Nat.mod_eq_of_lt hy]
theorem end_lt {c d y m : Nat} (hc : c < B32 ^ m) (hy : y < B32 ^ m) (hd : d < 4294967296) : c + d * y < B32 ^ (m + 1) := by
  have h := b32_pos m
  have h3 := Nat.mul_le_mul (show d ≤ 4294967295 by omega) (show y ≤ B32 ^ m - 1 by omega)
  have e : B32 ^ (m + 1) = 4294967295 * B32 ^ m + B32 ^ m := by rw [Nat.pow_succ, b32_eq]; omega
  rw [Nat.mul_sub] at h3
  have h4 : 4294967295 ≤ 4294967295 * B32 ^ m := Nat.le_mul_of_pos_right _ h
  omega

/-- The number of the first i digits. -/
def lowW (n i : Nat) : Nat := n % B32 ^ i
theorem lowW_succ (n i : Nat) : lowW n (i + 1) = lowW n i + wd n i * B32 ^ i := by
  unfold lowW wd; rw [Nat.pow_succ, Nat.mod_mul, Nat.mul_comm (B32 ^ i)]
theorem lowW_lt (n i : Nat) : lowW n i < B32 ^ i := Nat.mod_lt _ (b32_pos i)
theorem lowW_zero (n : Nat) : lowW n 0 = 0 := by simp [lowW, Nat.mod_one]
theorem lowW_nd (n : Nat) : lowW n (nd n) = n := Nat.mod_eq_of_lt (nd_lt n)
theorem mul_lt_pow {a b i j : Nat} (ha : a < B32 ^ i) (hb : b < B32 ^ j) : a * b < B32 ^ (i + j) := by
  rw [Nat.pow_add]
  exact Nat.mul_lt_mul'' ha hb
theorem mul_round (x y i : Nat) : lowW x i * y + wd x i * y * B32 ^ i = lowW x (i + 1) * y := by
  rw [lowW_succ, Nat.add_mul, Nat.mul_right_comm]

theorem setCells_zero {g t n : Nat} {z : Value} : ∀ (m o : Nat) (w : World), w.rowIs g t n (fun _ => z) → (w.setCells g o (List.replicate m z)).rowIs g t n (fun _ => z) ∧ Only g w (w.setCells g o (List.replicate m z)) := by
  intro m
  induction m with
  | zero => intro o w h; exact ⟨h, Only.refl _ _⟩
  | succ m ih =>
    intro o w h
    have h1 : (w.setCell ⟨g, o, none⟩ z).rowIs g t n (fun _ => z) := (h.set o z).congr fun j _ => by
      show (if j = o then z else z) = z
      split <;> rfl
    have := ih (o + 1) _ h1
    exact ⟨this.1, ((Only.refl g w).set o z).trans this.2⟩
theorem run_clear_words {W : World} {g t n c ty : Nat} (h : W.rowIs g t n (fun _ => .int .u32 0)) (hn : 0 < n) :
    ∃ W', (Builtin.clear_ #[104] ty #[.slice (some ⟨g, 0, none⟩) n c]).run Tryz.prog W = .ok (.tuple #[]) W' ∧ W'.rowIs g t n (fun _ => .int .u32 0) ∧ Only g W W' := by
  have hr := setCells_zero n 0 W h
  refine ⟨_, Lib.run_clear_slice (P := Tryz.prog) W 104 103 ty (.int .u32 0) Tryz.underlying104 (fun _ => by kernel_rfl) rfl rfl g 0 n c hn ?_ ?_, hr⟩
  · intro j hj; rw [Nat.zero_add, h.cell hj]; rfl
  · intro j hj; exact h.frozen _

theorem words_of_row {w : World} {g t n L N : Nat} (h : w.rowIs g t L (fun j => .int .u32 (wd N j : Nat))) (hn : n ≤ L) : Words w g 0 n N :=
  fun j hj => by rw [Nat.zero_add]; exact h.cell (by omega)
theorem alloc_below {B : Nat} {a w : World} {o : Obj} (h : Below B a w) (hB : B ≤ w.heap.size) : Below B a (w.alloc o) := h.alloc hB o
end Go.Proofs.YtehbbghobagkjaaGreatDoor


/-
  Contracts of package natural, the seventh part: divideByDigit, shiftLeft, shiftRight.
-/
namespace Go.Proofs.YtehbbghobagkjaaGreatDoor
open Go.RowKit
set_option linter.unusedVariables false

theorem hi_step (n j : Nat) : n / B32 ^ j = n / B32 ^ (j + 1) * B32 + wd n j := by
  unfold wd
  rw [Nat.pow_succ, ← Nat.div_div_eq_div_mul]
  have := Nat.div_add_mod (n / B32 ^ j) B32
  rw [Nat.mul_comm] at this
  exact this.symm
/-- One step of the division by a digit. -/
theorem digit_step (n j dg : Nat) (hd : 0 < dg) (hd2 : dg < 4294967296) :
    (n / B32 ^ (j + 1) % dg * 4294967296 + wd n j) / dg = wd (n / dg) j ∧ (n / B32 ^ (j + 1) % dg * 4294967296 + wd n j) % dg = n / B32 ^ j % dg := by
  have hB : (4294967296 : Nat) = B32 := rfl
  have hw : wd n j < B32 := wd_lt n j
  rw [hB] at *
  have h1 := hi_step n j
  have hq := Nat.div_add_mod (n / B32 ^ (j + 1)) dg
  generalize n / B32 ^ (j + 1) = m at *
  have hr := Nat.mod_lt m hd
  have hm : m * B32 + wd n j = dg * (m / dg * B32) + (m % dg * B32 + wd n j) := by
    conv => lhs; rw [← hq]
    rw [Nat.add_mul, Nat.mul_assoc]; omega
  constructor
  · have e : wd (n / dg) j = n / B32 ^ j / dg % B32 := by
      unfold wd; rw [Nat.div_div_eq_div_mul, Nat.div_div_eq_div_mul, Nat.mul_comm]
    have hlt : (m % dg * B32 + wd n j) / dg < B32 := by
      apply Nat.div_lt_of_lt_mul
      have := Nat.mul_le_mul_right B32 (show m % dg + 1 ≤ dg from hr)
      rw [Nat.add_mul] at this; omega
    rw [e, h1, hm, Nat.mul_add_div hd, Nat.mul_comm (m / dg), Nat.mul_add_mod, Nat.mod_eq_of_lt hlt]
  · rw [h1, hm, Nat.mul_add_mod]

theorem u64_shl_or (r a : Nat) (h : r < 4294967296) (ha : a < 4294967296) : bits .or .u64 ((r : Int) * 4294967296) (a : Int) = ((r * 4294967296 + a : Nat) : Int) := by
  have h1 := u64_or_nat (r * 4294967296) a (by omega) (by omega)
  rw [show (4294967296 : Nat) = 2 ^ 32 from rfl, or_add 32 r a (by omega)] at h1
  simpa using h1

/-- Block g has L cells, the first n of which are the digits of N. -/
def Row (w : World) (g tt L n N : Nat) : Prop := ∃ f : Nat → Nat, w.rowIs g tt L (fun j => .int .u32 (f j : Nat)) ∧ ∀ j, j < n → f j = wd N j
theorem Row.words {w : World} {g tt L n N : Nat} (h : Row w g tt L n N) (hn : n ≤ L) : Words w g 0 n N := by
  obtain ⟨f, hr, hf⟩ := h
  intro j hj
  rw [Nat.zero_add, hr.cell (by omega), hf j hj]
theorem Row.lt {w : World} {g tt L n N : Nat} (h : Row w g tt L n N) : g < w.heap.size := by
  obtain ⟨f, hr, hf⟩ := h; exact hr.lt
theorem Row.of {w : World} {g tt L n N : Nat} (h : w.rowIs g tt L (fun j => .int .u32 (wd N j : Nat))) : Row w g tt L n N := ⟨_, h, fun _ _ => rfl⟩
/-- The digits below place a are those of N, the ones from there to n those of Q. -/
def Split (w : World) (g tt L n a N Q : Nat) : Prop := ∃ f : Nat → Nat, w.rowIs g tt L (fun j => .int .u32 (f j : Nat)) ∧ (∀ j, j < a → f j = wd N j) ∧ ∀ j, a ≤ j → j < n → f j = wd Q j
theorem Split.step {w : World} {g tt L n a N Q : Nat} {v : Int} (h : Split w g tt L n (a + 1) N Q) (hv : v = (wd Q a : Nat)) (ha : a < n) :
    Split (w.setCell ⟨g, a, none⟩ (.int .u32 v)) g tt L n a N Q := by
  obtain ⟨f, hr, h1, h2⟩ := h
  refine ⟨fun j => if j = a then wd Q a else f j, set_row (h := fun j => if j = a then wd Q a else f j) hr (by rw [hv]; simp) (fun j hj => by simp [hj]), fun j hj => ?_, fun j h3 h4 => ?_⟩
  · show (if j = a then _ else _) = _
    rw [if_neg (by omega)]; exact h1 j (by omega)
  · show (if j = a then _ else _) = _
    by_cases e : j = a
    · rw [if_pos e, e]
    · rw [if_neg e]; exact h2 j (by omega) h4

/-! ### shiftLeft -/
/-- One step: the digits of (N mod B^i) 2^s. -/
theorem shl_step (n i s : Nat) (hs : s < 32) :
    wd (lowW n i * 2 ^ s) i < 2 ^ s ∧ wd (lowW n (i + 1) * 2 ^ s) i = (wd n i * 2 ^ s % 4294967296) + wd (lowW n i * 2 ^ s) i ∧ (wd n i * 2 ^ s % 4294967296) % 2 ^ s = 0 ∧
      wd (lowW n (i + 1) * 2 ^ s) (i + 1) = wd n i * 2 ^ s / 4294967296 ∧ (∀ j, j < i → wd (lowW n (i + 1) * 2 ^ s) j = wd (lowW n i * 2 ^ s) j) ∧ (∀ j, i + 1 < j → wd (lowW n (i + 1) * 2 ^ s) j = wd (lowW n i * 2 ^ s) j) := by
  have hB : (4294967296 : Nat) = B32 := rfl
  have hS : 0 < 2 ^ s := Nat.pow_pos (by omega)
  have hSB : 2 ^ s * 2 ^ (32 - s) = B32 := by rw [← Nat.pow_add, show s + (32 - s) = 32 by omega]; rfl
  have h2 : 2 ≤ 2 ^ (32 - s) := by
    have : 2 ^ 1 ≤ 2 ^ (32 - s) := Nat.pow_le_pow_right (by omega) (by omega)
    simpa using this
  rw [hB]
  have hl := lowW_lt n i
  have hd : wd n i < B32 := wd_lt n i
  have hsucc := lowW_succ n i
  have hp := b32_pos i
  generalize 2 ^ s = S at *
  generalize 2 ^ (32 - s) = T at *
  have hlS : lowW n i * S / B32 ^ i < S := Nat.div_lt_of_lt_mul (Nat.mul_lt_mul_of_pos_right hl hS)
  have hSle : S ≤ B32 := by rw [← hSB]; exact Nat.le_mul_of_pos_right _ (by omega)
  have hw : wd (lowW n i * S) i = lowW n i * S / B32 ^ i := by unfold wd; rw [Nat.mod_eq_of_lt (by omega)]
  have hnew : lowW n (i + 1) * S = lowW n i * S + wd n i * S * B32 ^ i := by rw [hsucc, Nat.add_mul, Nat.mul_right_comm]
  have hdiv : lowW n (i + 1) * S / B32 ^ i = wd n i * S + lowW n i * S / B32 ^ i := by rw [hnew, add_high, Nat.add_comm]
  have hmul : wd n i * S % B32 % S = 0 := by rw [← hSB, Nat.mod_mul_right_mod, Nat.mul_mod_left]
  have hle : wd n i * S % B32 + S ≤ B32 := by
    have hlt : wd n i * S % B32 < B32 := Nat.mod_lt _ (by decide)
    obtain ⟨q, hq⟩ := Nat.dvd_of_mod_eq_zero hmul
    rw [hq] at hlt ⊢
    rw [← hSB] at hlt ⊢
    have : q < T := Nat.lt_of_mul_lt_mul_left hlt
    rw [← Nat.mul_succ]
    exact Nat.mul_le_mul_left _ this
  have hdm := Nat.div_add_mod (wd n i * S) B32
  refine ⟨by rw [hw]; exact hlS, ?_, hmul, ?_, ?_, ?_⟩
  · rw [hw]
    unfold wd
    rw [hdiv]
    unfold wd at hdm hle ⊢
    conv => lhs; rw [← hdm]
    rw [Nat.add_assoc, Nat.mul_add_mod, Nat.mod_eq_of_lt (by omega)]
  · have : lowW n (i + 1) * S / B32 ^ (i + 1) = wd n i * S / B32 := by
      rw [Nat.pow_succ, ← Nat.div_div_eq_div_mul, hdiv]
      have hz : (wd n i * S % B32 + lowW n i * S / B32 ^ i) / B32 = 0 := Nat.div_eq_of_lt (by omega)
      conv => lhs; rw [← hdm]
      rw [Nat.add_assoc, Nat.mul_add_div (by decide), hz, Nat.add_zero]
    show lowW n (i + 1) * S / B32 ^ (i + 1) % B32 = _
    rw [this]
    apply Nat.mod_eq_of_lt
    apply Nat.div_lt_of_lt_mul
    exact Nat.lt_of_lt_of_le (Nat.mul_lt_mul_of_pos_right hd hS) (Nat.mul_le_mul_left _ hSle)
  · intro j hj
    rw [hnew, wd_add_low _ _ _ _ hj]
  · intro j hj
    have h1 : lowW n (i + 1) * S < B32 ^ j := by
      have := Nat.mul_lt_mul'' (lowW_lt n (i + 1)) (Nat.lt_succ_of_le hSle)
      have h3 : lowW n (i + 1) * S < B32 ^ (i + 1) * B32 := Nat.lt_of_lt_of_le (Nat.mul_lt_mul_of_pos_right (lowW_lt n (i + 1)) hS) (Nat.mul_le_mul_left _ hSle)
      rw [← Nat.pow_succ] at h3
      exact Nat.lt_of_lt_of_le h3 (Nat.pow_le_pow_right (by decide) (by omega))
    have h2 : lowW n i * S < B32 ^ j := Nat.lt_of_le_of_lt (by rw [hnew]; omega) h1
    unfold wd
    rw [Nat.div_eq_of_lt h1, Nat.div_eq_of_lt h2]

theorem shl_pow_lt (n m s : Nat) (hn : n < B32 ^ m) (hs : s < 32) : n * 2 ^ s < B32 ^ (m + 1) := by
  rw [Nat.pow_succ]
  have : 2 ^ s < B32 := by rw [show B32 = 2 ^ 32 from rfl]; exact Nat.pow_lt_pow_right (by omega) hs
  exact Nat.mul_lt_mul'' hn this
theorem low_eq_self {n m : Nat} (h : n < B32 ^ m) : lowW n m = n := Nat.mod_eq_of_lt h
theorem u32_or_add (s a b : Nat) (hs : s < 32) (ha : a < 4294967296) (hm : a % 2 ^ s = 0) (hb : b < 2 ^ s) : bits .or .u32 (b : Int) (a : Int) = ((a + b : Nat) : Int) := by
  have hb2 : b < 4294967296 := Nat.lt_of_lt_of_le hb (by
    have : 2 ^ s ≤ 2 ^ 32 := Nat.pow_le_pow_right (by omega) (by omega)
    simpa using this)
  rw [u32_or_nat _ _ hb2 ha, Nat.or_comm]
  obtain ⟨q, rfl⟩ := Nat.dvd_of_mod_eq_zero hm
  rw [Nat.mul_comm, or_add s q b hb]

/-! ### shiftRight -/
theorem shr_step (n i s : Nat) (hs : s < 32) : (wd n (i + 1) * 4294967296 + wd n i) / 2 ^ s % 4294967296 = wd (n / 2 ^ s) i := by
  have hB : (4294967296 : Nat) = B32 := rfl
  have hS : 0 < 2 ^ s := Nat.pow_pos (by omega)
  have hSB : 2 ^ s * 2 ^ (32 - s) = B32 := by rw [← Nat.pow_add, show s + (32 - s) = 32 by omega]; rfl
  rw [hB]
  have e : wd (n / 2 ^ s) i = n / B32 ^ i / 2 ^ s % B32 := by
    unfold wd; rw [Nat.div_div_eq_div_mul, Nat.div_div_eq_div_mul, Nat.mul_comm]
  rw [e, hi_step n i, hi_step n (i + 1)]
  generalize 2 ^ s = S at *
  generalize 2 ^ (32 - s) = T at *
  have e2 : (n / B32 ^ (i + 1 + 1) * B32 + wd n (i + 1)) * B32 + wd n i = S * (B32 * (T * (n / B32 ^ (i + 1 + 1)))) + (wd n (i + 1) * B32 + wd n i) := by
    rw [Nat.add_mul, Nat.mul_left_comm S B32, ← Nat.mul_assoc S T, hSB, Nat.mul_comm (n / B32 ^ (i + 1 + 1)) B32, Nat.mul_comm _ B32, Nat.add_assoc]
  rw [e2, Nat.mul_add_div hS, Nat.mul_add_mod]

theorem mix_zero {w : World} {g t L Q : Nat} (h : w.rowIs g t L (fun _ => .int .u32 0)) : w.rowIs g t L (fun j => .int .u32 (mix Q 0 0 j : Nat)) :=
  h.congr fun j _ => by unfold mix; rw [if_neg (by omega), wd_zero]; rfl
theorem mix_full {w : World} {g t L Q : Nat} (h : w.rowIs g t L (fun j => .int .u32 (mix Q 0 L j : Nat))) : w.rowIs g t L (fun j => .int .u32 (wd Q j : Nat)) :=
  h.congr fun j hj => by unfold mix; rw [if_pos hj]

end Go.Proofs.YtehbbghobagkjaaGreatDoor


/-
  Contracts of package natural, the eighth part: the library's Add32 and Sub32; guess.
-/
namespace Go.Proofs.YtehbbghobagkjaaGreatDoor
open Go.RowKit
set_option linter.unusedVariables false
/-- The borrow behind a digit. -/
def bout (x y b : Nat) : Nat := if x < y + b then 1 else 0
/-- The digit of a difference. -/
def bdig (x y b : Nat) : Nat := (x + 4294967296 - y + (4294967296 - b)) % 4294967296
theorem bdig_lt (x y b : Nat) : bdig x y b < 4294967296 := Nat.mod_lt _ (by omega)
theorem top_bit {v : Nat} (h : v < 4294967296) : v / 2147483648 = (v.testBit 31).toNat := by
  rw [Nat.testBit_eq_decide_div_mod_eq]
  have h2 : v / 2 ^ 31 < 2 := Nat.div_lt_of_lt_mul (by omega)
  have e : v / 2147483648 = v / 2 ^ 31 := rfl
  rw [e]
  generalize v / 2 ^ 31 = q at *
  have : q = 0 ∨ q = 1 := by omega
  rcases this with rfl | rfl <;> rfl
theorem bit31 {v : Nat} (h : v < 4294967296) : v.testBit 31 = decide (2147483648 ≤ v) := by
  rw [Nat.testBit_eq_decide_div_mod_eq]
  have h2 : v / 2 ^ 31 < 2 := Nat.div_lt_of_lt_mul (by omega)
  rw [Nat.mod_eq_of_lt h2]
  congr 1
  apply propext
  constructor
  · intro h3; omega
  · intro h3; omega
theorem sub_top (x y b : Nat) (hx : x < 4294967296) (hy : y < 4294967296) (hb : b ≤ 1) :
    ((4294967295 ^^^ x) &&& y ||| (4294967295 ^^^ (x ^^^ y)) &&& bdig x y b) / 2147483648 = bout x y b := by
  have hd := bdig_lt x y b
  have h1 : (4294967295 ^^^ x) &&& y < 2 ^ 32 := Nat.and_lt_two_pow _ (by omega)
  have h2 : (4294967295 ^^^ (x ^^^ y)) &&& bdig x y b < 2 ^ 32 := Nat.and_lt_two_pow _ (by omega)
  have h3 := Nat.or_lt_two_pow h1 h2
  rw [top_bit (by omega), Nat.testBit_or, Nat.testBit_and, Nat.testBit_and, Nat.testBit_xor, Nat.testBit_xor, Nat.testBit_xor, bit31 hx, bit31 hy, bit31 hd,
    show Nat.testBit 4294967295 31 = true from by decide +kernel]
  unfold bout bdig
  have e : x < y + b ∨ ¬ x < y + b := by omega
  by_cases a : 2147483648 ≤ x <;> by_cases c : 2147483648 ≤ y <;> by_cases d : 2147483648 ≤ (x + 4294967296 - y + (4294967296 - b)) % 4294967296 <;> rcases e with e | e <;> simp only [a, c, d, e, decide_true, decide_false, if_true, if_false] <;> first | rfl | (exfalso; omega)
theorem u32_max : IntKind.u32.max = (4294967295 : Nat) := by decide
theorem sub_bits (x y b : Nat) (hx : x < 4294967296) (hy : y < 4294967296) (hb : b ≤ 1) :
    bits .or .u32 (bits .and .u32 (bits .xor .u32 IntKind.u32.max x) y) (bits .and .u32 (bits .xor .u32 IntKind.u32.max (bits .xor .u32 x y)) (bdig x y b)) / 2147483648 = (bout x y b : Nat) := by
  have hd := bdig_lt x y b
  have h4 : x ^^^ y < 2 ^ 32 := Nat.xor_lt_two_pow (by omega) (by omega)
  have h5 : 4294967295 ^^^ x < 2 ^ 32 := Nat.xor_lt_two_pow (by omega) (by omega)
  have h6 : 4294967295 ^^^ (x ^^^ y) < 2 ^ 32 := Nat.xor_lt_two_pow (by omega) h4
  have h1 : (4294967295 ^^^ x) &&& y < 2 ^ 32 := Nat.and_lt_two_pow _ (by omega)
  have h2 : (4294967295 ^^^ (x ^^^ y)) &&& bdig x y b < 2 ^ 32 := Nat.and_lt_two_pow _ (by omega)
  rw [u32_max, u32_xor_nat _ _ (by omega) hx, u32_xor_nat _ _ hx hy, u32_xor_nat _ _ (by omega) (by omega), u32_and_nat _ _ (by omega) hy, u32_and_nat _ _ (by omega) hd, u32_or_nat _ _ (by omega) (by omega), ← sub_top x y b hx hy hb]
  simp
theorem bdig_int (x y b : Nat) (hx : x < 4294967296) (hy : y < 4294967296) (hb : b ≤ 1) : ((x : Int) - y - b) % 4294967296 = (bdig x y b : Nat) := by
  unfold bdig; omega

/-! ### guess -/
/-- What the loop of guess knows: q d1 + r is the two highest digits, and q is not less than the quotient. -/
structure Gs (D P d1 d2 p2 p q r top t : Nat) : Prop where
  eq : q * d1 + r = top
  lo : P / D ≤ q
  d1p : 1 ≤ d1
  d1l : d1 < B32
  d2l : d2 < B32
  p2l : p2 < B32
  Dl : (d1 * B32 + d2) * p ≤ D
  Dh : D < (d1 * B32 + d2 + 1) * p
  Pl : (top * B32 + p2) * p ≤ P
  Ph : P < (top * B32 + p2 + 1) * p
  toph : top < (d1 + 1) * B32
  D0 : 0 < D
  p0 : 0 < p

theorem Gs.down {D P d1 d2 p2 p q r top t : Nat} (h : Gs D P d1 d2 p2 p q r top t) (hPD : P < D * B32) (hc : B32 ≤ q ∨ r * B32 + p2 < q * d2) : P / D ≤ q - 1 ∧ 1 ≤ q := by
  have key : P / D < q := by
    rcases hc with hc | hc
    · exact Nat.lt_of_lt_of_le (Nat.div_lt_of_lt_mul hPD) hc
    · apply Nat.div_lt_of_lt_mul
      have e1 : top * B32 + p2 + 1 ≤ q * (d1 * B32 + d2) := by
        have : top * B32 = q * (d1 * B32) + r * B32 := by rw [← h.eq, Nat.add_mul, Nat.mul_assoc]
        rw [this, Nat.mul_add]; omega
      have e2 := Nat.mul_le_mul_right p e1
      have e3 := Nat.mul_le_mul_left q h.Dl
      have := h.Ph
      rw [← Nat.mul_assoc] at e3
      rw [Nat.mul_comm D q]
      omega
  generalize P / D = z at *
  omega

/-- The guess is right, or too large by 1. -/
theorem Gs.done {D P d1 d2 p2 p q r top t : Nat} (h : Gs D P d1 d2 p2 p q r top t) (hq : q ≤ B32) (hc : q * d2 ≤ r * B32 + p2) : q ≤ P / D + 1 := by
  rcases Nat.eq_zero_or_pos q with h0 | h0
  · rw [h0]; exact Nat.zero_le _
  have key : q - 1 ≤ P / D := by
    rw [Nat.le_div_iff_mul_le h.D0]
    have e1 : q * (d1 * B32 + d2) ≤ top * B32 + p2 := by
      have : top * B32 = q * (d1 * B32) + r * B32 := by rw [← h.eq, Nat.add_mul, Nat.mul_assoc]
      rw [this, Nat.mul_add]; omega
    have e2 : (q - 1) * (d1 * B32 + d2 + 1) ≤ top * B32 + p2 := by
      obtain ⟨k, rfl⟩ : ∃ k, q = k + 1 := ⟨q - 1, by omega⟩
      rw [Nat.add_mul, Nat.one_mul] at e1
      have hb : B32 ≤ d1 * B32 := Nat.le_mul_of_pos_left _ h.d1p
      rw [Nat.add_sub_cancel, Nat.mul_add k (d1 * B32 + d2) 1, Nat.mul_one]
      omega
    have e3 := Nat.mul_le_mul_right p e2
    have e4 := Nat.mul_le_mul_left (q - 1) (Nat.le_of_lt h.Dh)
    rw [← Nat.mul_assoc] at e4
    have := h.Pl
    omega
  generalize P / D = z at *
  omega

theorem Gs.next {D P d1 d2 p2 p q r top t : Nat} (h : Gs D P d1 d2 p2 p q r top t) (hl : P / D ≤ q - 1) (hq : 1 ≤ q) : Gs D P d1 d2 p2 p (q - 1) (r + d1) top t :=
  { h with
    eq := by
      obtain ⟨k, rfl⟩ : ∃ k, q = k + 1 := ⟨q - 1, by omega⟩
      have := h.eq
      rw [Nat.add_mul, Nat.one_mul] at this
      rw [Nat.add_sub_cancel]; omega
    lo := hl }

/-- When the rest has become too large, the guess is small enough. -/
theorem Gs.broke {D P d1 d2 p2 p q r top t : Nat} (h : Gs D P d1 d2 p2 p q r top t) (hr : B32 ≤ r) : q < B32 ∧ q ≤ P / D + 1 := by
  have h1 : q < B32 := by
    have h2 : q * d1 < B32 * d1 := by
      have e1 := h.eq
      have e2 := h.toph
      rw [Nat.add_mul, Nat.one_mul] at e2
      rw [Nat.mul_comm B32]; omega
    exact Nat.lt_of_mul_lt_mul_right h2
  refine ⟨h1, h.done (Nat.le_of_lt h1) ?_⟩
  have h3 : q * d2 ≤ B32 * B32 := Nat.mul_le_mul (Nat.le_of_lt h1) (Nat.le_of_lt h.d2l)
  have h4 := Nat.mul_le_mul_right B32 hr
  omega

theorem Gs.start {D P m : Nat} (hm : 2 ≤ m) (hD : D < B32 ^ m) (hP : P < D * B32) (h1 : 1 ≤ wd D (m - 1)) :
    Gs D P (wd D (m - 1)) (wd D (m - 2)) (wd P (m - 2)) (B32 ^ (m - 2)) ((wd P m * B32 + wd P (m - 1)) / wd D (m - 1)) ((wd P m * B32 + wd P (m - 1)) % wd D (m - 1)) (wd P m * B32 + wd P (m - 1)) 0 := by
  obtain ⟨k, rfl⟩ : ∃ k, m = k + 2 := ⟨m - 2, by omega⟩
  simp only [Nat.add_sub_cancel, show k + 2 - 1 = k + 1 by omega]
  rw [show k + 2 - 1 = k + 1 by omega] at h1
  have hp := b32_pos k
  have hPl : P < B32 ^ (k + 2 + 1) := by
    rw [Nat.pow_succ]
    exact Nat.lt_trans hP (Nat.mul_lt_mul_of_pos_right hD (by decide))
  have eD0 : D / B32 ^ (k + 2) = 0 := Nat.div_eq_of_lt hD
  have eD1 := hi_step D (k + 1)
  rw [show k + 1 + 1 = k + 2 by omega, eD0, Nat.zero_mul, Nat.zero_add] at eD1
  have eD2 := hi_step D k
  rw [eD1] at eD2
  have eP0 : P / B32 ^ (k + 2 + 1) = 0 := Nat.div_eq_of_lt hPl
  have eP1 := hi_step P (k + 2)
  rw [eP0, Nat.zero_mul, Nat.zero_add] at eP1
  have eP2 := hi_step P (k + 1)
  rw [show k + 1 + 1 = k + 2 by omega, eP1] at eP2
  have eP3 := hi_step P k
  rw [eP2] at eP3
  have b1 : wd D (k + 1) < B32 := wd_lt _ _
  have b2 : wd D k < B32 := wd_lt _ _
  have b3 : wd P k < B32 := wd_lt _ _
  have dD := Nat.div_add_mod D (B32 ^ k)
  have dP := Nat.div_add_mod P (B32 ^ k)
  have mD := Nat.mod_lt D hp
  have mP := Nat.mod_lt P hp
  rw [eD2] at dD
  rw [eP3] at dP
  have hD0 : 0 < D := by
    rcases Nat.eq_zero_or_pos D with e | e
    · rw [e, wd_zero] at h1; omega
    · exact e
  generalize wd D (k + 1) = d1 at *
  generalize wd D k = d2 at *
  generalize wd P k = p2 at *
  generalize wd P (k + 2) = x at *
  generalize wd P (k + 1) = y at *
  generalize hp' : B32 ^ k = p at *
  have hDl : (d1 * B32 + d2) * p ≤ D := by rw [Nat.mul_comm]; omega
  have hDh : D < (d1 * B32 + d2 + 1) * p := by rw [Nat.add_mul, Nat.mul_comm _ p]; omega
  have hPl2 : ((x * B32 + y) * B32 + p2) * p ≤ P := by rw [Nat.mul_comm]; omega
  have hPh : P < ((x * B32 + y) * B32 + p2 + 1) * p := by rw [Nat.add_mul, Nat.mul_comm _ p]; omega
  have htop : x * B32 + y < (d1 + 1) * B32 := by
    have t1 : (x * B32 + y) * B32 * p ≤ P := Nat.le_trans (Nat.mul_le_mul_right _ (Nat.le_add_right _ _)) hPl2
    have t2 : D * B32 < (d1 + 1) * B32 * B32 * p := by
      have : D < (d1 + 1) * B32 * p := Nat.lt_of_lt_of_le hDh (Nat.mul_le_mul_right _ (by rw [Nat.add_mul]; omega))
      have := Nat.mul_lt_mul_of_pos_right this (show 0 < B32 by decide)
      rwa [Nat.mul_right_comm ((d1 + 1) * B32) p B32] at this
    have t3 : (x * B32 + y) * B32 * p < (d1 + 1) * B32 * B32 * p := by omega
    exact Nat.lt_of_mul_lt_mul_right (Nat.lt_of_mul_lt_mul_right t3)
  refine ⟨?_, ?_, h1, b1, b2, b3, hDl, hDh, hPl2, hPh, htop, hD0, hp⟩
  · rw [Nat.mul_comm]; exact Nat.div_add_mod _ _
  · rw [Nat.le_div_iff_mul_le (by omega)]
    have a1 : P / D * D ≤ P := Nat.div_mul_le_self _ _
    have a2 : P / D * (d1 * B32 * p) ≤ P := Nat.le_trans (Nat.mul_le_mul_left _ (Nat.le_trans (Nat.mul_le_mul_right _ (Nat.le_add_right _ _)) hDl)) a1
    have a3 : P < (x * B32 + y + 1) * (B32 * p) := by
      rw [← Nat.mul_assoc]
      exact Nat.lt_of_lt_of_le hPh (Nat.mul_le_mul_right _ (by rw [Nat.add_mul (x * B32 + y) 1 B32]; omega))
    have a4 : P / D * d1 * (B32 * p) < (x * B32 + y + 1) * (B32 * p) := by
      rw [Nat.mul_assoc (P / D), ← Nat.mul_assoc d1]; omega
    exact Nat.le_of_lt_succ (Nat.lt_of_mul_lt_mul_right a4)

/-- The quotient, or one more; the world has only drawn. -/
def GuessP (P D : Nat) (w : World) (e : Ending) (w' : World) : Prop := (∃ q : Nat, e = .returned (.int .u32 q) ∧ P / D ≤ q ∧ q ≤ P / D + 1 ∧ q < 4294967296) ∧ ∃ k, w.drewN k = w'
/-- What the loop knows of its slots. -/
def GuessR (D P d1 d2 p2 m top : Nat) (q r : Value) : Prop := ∃ q1 r1 : Nat, q = .int .u64 q1 ∧ r = .int .u64 r1 ∧ r1 < 4294967296 ∧ q1 ≤ 18446744073709551615 ∧ Hid (Gs D P d1 d2 p2 (B32 ^ (m - 2)) q1 r1 top 0)
theorem hi_zero {q : Nat} (h : q < 4294967296) : ((q : Int) / 4294967296 != 0) = false := by
  have : (q : Int) / 4294967296 = 0 := by omega
  rw [this]; rfl
theorem hi_one {q : Nat} (h : 4294967296 ≤ q) : ((q : Int) / 4294967296 != 0) = true := by
  rw [bne_iff_ne]; omega
theorem u64_or_lo (r a : Nat) (h : r < 4294967296) (ha : a < 4294967296) : bits .or .u64 ((r : Int) * 4294967296) (a : Int) = ((r * 4294967296 + a : Nat) : Int) := u64_shl_or r a h ha

end Go.Proofs.YtehbbghobagkjaaGreatDoor


/-
  Contracts of package natural, the ninth part: subtractRow, addBack.
-/
namespace Go.Proofs.YtehbbghobagkjaaGreatDoor
open Go.RowKit
set_option linter.unusedVariables false

/-- The borrow behind k digits of P - Z. -/
def bw (P Z k : Nat) : Nat := if P % B32 ^ k < Z % B32 ^ k then 1 else 0
theorem bw_le (P Z k : Nat) : bw P Z k ≤ 1 := by unfold bw; split <;> omega
theorem bw_zero (P Z : Nat) : bw P Z 0 = 0 := by simp [bw, Nat.mod_one]
theorem bw_step (P Z k : Nat) : bout (wd P k) (wd Z k) (bw P Z k) = bw P Z (k + 1) := by
  unfold bout bw
  have hp := b32_pos k
  rw [Nat.pow_succ, Nat.mod_mul, Nat.mod_mul]
  have h1 := Nat.mod_lt P hp
  have h2 := Nat.mod_lt Z hp
  show (if wd P k < wd Z k + _ then 1 else 0) = if P % B32 ^ k + B32 ^ k * (wd P k) < Z % B32 ^ k + B32 ^ k * (wd Z k) then 1 else 0
  generalize wd P k = x
  generalize wd Z k = z
  generalize P % B32 ^ k = a at *
  generalize Z % B32 ^ k = c at *
  generalize B32 ^ k = p at *
  rcases Nat.lt_trichotomy x z with h | h | h
  · have := Nat.mul_le_mul_left p (show x + 1 ≤ z from h)
    rw [Nat.mul_add] at this
    rw [if_pos (by omega), if_pos (by omega)]
  · subst h
    by_cases hb : a < c
    · rw [if_pos hb, if_pos (by omega), if_pos (by omega)]
    · rw [if_neg hb, if_neg (by omega), if_neg (by omega)]
  · have := Nat.mul_le_mul_left p (show z + 1 ≤ x from h)
    rw [Nat.mul_add] at this
    rw [if_neg (by split <;> omega), if_neg (by omega)]
/-- What is left of P - Z in m + 1 digits. -/
def dif (P Z m : Nat) : Nat := (P + B32 ^ (m + 1) - Z) % B32 ^ (m + 1)
theorem bdig_step (P Z m k : Nat) (hk : k ≤ m) (hZ : Z < B32 ^ (m + 1)) : bdig (wd P k) (wd Z k) (bw P Z k) = wd (dif P Z m) k := by
  have hp := b32_pos k
  have hM : B32 ^ (m + 1) = B32 ^ k * (B32 * B32 ^ (m - k)) := by rw [← Nat.pow_succ', ← Nat.pow_add]; congr 1; omega
  have e1 : wd (dif P Z m) k = (P + B32 ^ (m + 1) - Z) / B32 ^ k % B32 := by
    unfold wd dif
    rw [hM, Nat.mod_mul_right_div_self, Nat.mod_mul_right_mod]
  rw [e1]
  rw [hM] at hZ ⊢
  have h1 := Nat.div_add_mod P (B32 ^ k)
  have h2 := Nat.div_add_mod Z (B32 ^ k)
  have h3 := Nat.mod_lt P hp
  have h4 := Nat.mod_lt Z hp
  have hc : Z / B32 ^ k < B32 * B32 ^ (m - k) := Nat.div_lt_of_lt_mul hZ
  have e2 : (P + B32 ^ k * (B32 * B32 ^ (m - k)) - Z) / B32 ^ k = P / B32 ^ k + B32 * B32 ^ (m - k) - Z / B32 ^ k - bw P Z k := by
    unfold bw
    generalize P / B32 ^ k = a at *
    generalize Z / B32 ^ k = c at *
    generalize B32 * B32 ^ (m - k) = N at *
    generalize P % B32 ^ k = u at *
    generalize Z % B32 ^ k = v at *
    generalize B32 ^ k = p at *
    by_cases hb : u < v
    · rw [if_pos hb]
      have : P + p * N - Z = p * (a + N - c - 1) + (u + p - v) := by
        have e3 : p * (a + N - c - 1) + p * (c + 1) = p * a + p * N := by rw [← Nat.mul_add, ← Nat.mul_add]; congr 1; omega
        rw [Nat.mul_add] at e3
        omega
      rw [this, Nat.mul_add_div hp, Nat.div_eq_of_lt (by omega)]; omega
    · rw [if_neg hb]
      have : P + p * N - Z = p * (a + N - c) + (u - v) := by
        have e3 : p * (a + N - c) + p * c = p * a + p * N := by rw [← Nat.mul_add, ← Nat.mul_add]; congr 1; omega
        omega
      rw [this, Nat.mul_add_div hp, Nat.div_eq_of_lt (by omega)]; omega
  rw [e2]
  have hb := bw_le P Z k
  unfold bdig wd
  rw [b32_eq] at *
  generalize P / 4294967296 ^ k = a at *
  generalize Z / 4294967296 ^ k = c at *
  generalize 4294967296 ^ (m - k) = T at *
  generalize bw P Z k = b at *
  omega
theorem bw_end {P Z m : Nat} (hP : P < B32 ^ (m + 1)) (hZ : Z < B32 ^ (m + 1)) : bw P Z (m + 1) = if P < Z then 1 else 0 := by
  unfold bw; rw [Nat.mod_eq_of_lt hP, Nat.mod_eq_of_lt hZ]
theorem dif_of {P Z m : Nat} (hP : P < B32 ^ (m + 1)) (h : Z ≤ P) : dif P Z m = P - Z := by
  unfold dif
  rw [show P + B32 ^ (m + 1) - Z = (P - Z) + B32 ^ (m + 1) by omega, Nat.add_mod_right, Nat.mod_eq_of_lt (by omega)]

/-- Of the n digits from place o on, the first k are those of R, the others those of P; outside of them f. -/
def PartAt (w : World) (g tt L o n k R P : Nat) (f : Nat → Nat) : Prop :=
  ∃ h : Nat → Nat, w.rowIs g tt L (fun j => .int .u32 (h j : Nat)) ∧ (∀ i, i < k → h (o + i) = wd R i) ∧ (∀ i, k ≤ i → i < n → h (o + i) = wd P i) ∧ ∀ j, (j < o ∨ o + n ≤ j) → h j = f j
theorem PartAt.step {w : World} {g tt L o n k R P : Nat} {f : Nat → Nat} {v : Int} (h : PartAt w g tt L o n k R P f) (hk : k < n) (hv : v = (wd R k : Nat)) :
    PartAt (w.setCell ⟨g, o + k, none⟩ (.int .u32 v)) g tt L o n (k + 1) R P f := by
  obtain ⟨h, hr, h1, h2, h3⟩ := h
  refine ⟨fun j => if j = o + k then wd R k else h j, set_row (h := fun j => if j = o + k then wd R k else h j) hr (by rw [hv]; simp) (fun j hj => by simp [hj]), fun i hi => ?_, fun i h4 h5 => ?_, fun j hj => ?_⟩
  · show (if o + i = o + k then _ else _) = _
    by_cases e : i = k
    · rw [if_pos (by omega), e]
    · rw [if_neg (by omega)]; exact h1 i (by omega)
  · show (if o + i = o + k then _ else _) = _
    rw [if_neg (by omega)]; exact h2 i (by omega) h5
  · show (if j = o + k then _ else _) = _
    rw [if_neg (by omega)]; exact h3 j hj
theorem PartAt.cell {w : World} {g tt L o n k R P : Nat} {f : Nat → Nat} (h : PartAt w g tt L o n k R P f) (hk : k < n) (hL : o + n ≤ L) : w.cell? ⟨g, o + k, none⟩ = some (.int .u32 (wd P k : Nat)) := by
  obtain ⟨h, hr, h1, h2, h3⟩ := h
  rw [hr.cell (by omega), h2 k (by omega) hk]
theorem PartAt.frozen {w : World} {g tt L o n k R P : Nat} {f : Nat → Nat} (h : PartAt w g tt L o n k R P f) (i : Nat) : w.frozen? ⟨g, i, none⟩ = false := by
  obtain ⟨h, hr, h1, h2, h3⟩ := h
  exact hr.frozen i
theorem PartAt.drewN {w : World} {g tt L o n k R P : Nat} {f : Nat → Nat} (h : PartAt w g tt L o n k R P f) (q : Nat) : PartAt (w.drewN q) g tt L o n k R P f := h
theorem PartAt.drew {w : World} {g tt L o n k R P : Nat} {f : Nat → Nat} (h : PartAt w g tt L o n k R P f) : PartAt w.drew g tt L o n k R P f := h

end Go.Proofs.YtehbbghobagkjaaGreatDoor


/-
  Contracts of package natural, the tenth part: divideLong.
-/
namespace Go.Proofs.YtehbbghobagkjaaGreatDoor
open Go.RowKit
set_option linter.unusedVariables false

theorem flip_v {P : Program} {f : FuncId} {args : Array Value} {w : World} {v : Ending} (h : Calls P f args w fun e w' => e = v ∧ w' = w) : Calls P f args w fun e w' => e = v ∧ w = w' :=
  h.mono fun _ _ ⟨a, b⟩ => ⟨a, b.symm⟩
/-- Quotient and remainder lie in two slices. -/
def DivP (U D : Nat) (w : World) (e : Ending) (w' : World) : Prop :=
  ∃ v1 v2, e = .returned (.tuple #[v1, v2]) ∧ Sl w' v1 (nd (U / D)) (U / D) ∧ Sl w' v2 (nd (U % D)) (U % D) ∧ Below w.heap.size w w'

theorem norm_shift {D m s : Nat} (hm : 1 ≤ m) (hD : D < B32 ^ m) (ht : wd D (m - 1) ≠ 0) (hs : s = 32 - nbits (wd D (m - 1))) :
    s < 32 ∧ D * 2 ^ s < B32 ^ m ∧ 2147483648 * B32 ^ (m - 1) ≤ D * 2 ^ s := by
  obtain ⟨k, rfl⟩ : ∃ k, m = k + 1 := ⟨m - 1, by omega⟩
  rw [Nat.add_sub_cancel] at *
  have hb := wd_lt D k
  have e0 : D / B32 ^ (k + 1) = 0 := Nat.div_eq_of_lt hD
  have e1 := hi_step D k
  rw [e0, Nat.zero_mul, Nat.zero_add] at e1
  generalize wd D k = t at *
  have hp := b32_pos k
  have dm := Nat.div_add_mod D (B32 ^ k)
  have ml := Nat.mod_lt D hp
  rw [e1] at dm
  generalize D % B32 ^ k = u at dm ml
  have hl : nbits t = Nat.log2 t + 1 := by unfold nbits; rw [if_neg ht]
  have l1 : 2 ^ Nat.log2 t ≤ t := (Nat.le_log2 ht).1 (Nat.le_refl _)
  have l2 : t < 2 ^ (Nat.log2 t + 1) := (Nat.log2_lt ht).1 (by omega)
  have l3 : Nat.log2 t < 32 := (Nat.log2_lt ht).2 hb
  have hs2 : Nat.log2 t + s = 31 := by omega
  have p31 : 2 ^ Nat.log2 t * 2 ^ s = 2147483648 := by rw [← Nat.pow_add, hs2]
  refine ⟨by omega, ?_, ?_⟩
  · have h1 : D < 2 ^ (Nat.log2 t + 1) * B32 ^ k := by
      have := Nat.mul_le_mul_right (B32 ^ k) (show t + 1 ≤ 2 ^ (Nat.log2 t + 1) from l2)
      rw [Nat.add_mul, Nat.one_mul, Nat.mul_comm t] at this
      omega
    have h2 := Nat.mul_lt_mul_of_pos_right h1 (Nat.pow_pos (n := s) (show 0 < 2 by omega))
    have h3 : 2 ^ (Nat.log2 t + 1) * B32 ^ k * 2 ^ s = B32 ^ (k + 1) := by
      rw [Nat.mul_right_comm, Nat.pow_succ, Nat.mul_right_comm (2 ^ Nat.log2 t), p31, Nat.pow_succ, Nat.mul_comm (B32 ^ k)]; rfl
    rw [h3] at h2; exact h2
  · have h1 : 2 ^ Nat.log2 t * B32 ^ k ≤ D := by
      have := Nat.mul_le_mul_right (B32 ^ k) l1
      rw [Nat.mul_comm t] at this
      exact Nat.le_trans this (by omega)
    have h2 := Nat.mul_le_mul_right (2 ^ s) h1
    rw [Nat.mul_right_comm, p31] at h2
    exact h2
theorem norm_top {D m : Nat} (hm : 1 ≤ m) (hD : D < B32 ^ m) (hl : 2147483648 * B32 ^ (m - 1) ≤ D) : 2147483648 ≤ wd D (m - 1) := by
  obtain ⟨k, rfl⟩ : ∃ k, m = k + 1 := ⟨m - 1, by omega⟩
  rw [Nat.add_sub_cancel] at *
  have e0 : D / B32 ^ (k + 1) = 0 := Nat.div_eq_of_lt hD
  have e1 := hi_step D k
  rw [e0, Nat.zero_mul, Nat.zero_add] at e1
  rw [← e1, Nat.le_div_iff_mul_le (b32_pos k)]
  exact hl

/-- What is left of R0 when the digits from a on are divided. -/
def rem (R D a : Nat) : Nat := R % (D * B32 ^ a)
theorem rem_lt {R D a : Nat} (hD : 0 < D) : rem R D a < D * B32 ^ a := Nat.mod_lt _ (Nat.mul_pos hD (b32_pos a))
theorem rem_digit {R D a : Nat} : rem R D (a + 1) / B32 ^ a / D = wd (R / D) a := by
  unfold rem wd
  rw [Nat.div_div_eq_div_mul, Nat.div_div_eq_div_mul, Nat.mul_comm (B32 ^ a) D, Nat.pow_succ, ← Nat.mul_assoc, Nat.mod_mul_right_div_self]
theorem rem_next {R D a : Nat} : rem R D (a + 1) = rem R D a + wd (R / D) a * D * B32 ^ a := by
  have h := Nat.div_add_mod (rem R D (a + 1)) (D * B32 ^ a)
  have e1 : rem R D (a + 1) % (D * B32 ^ a) = rem R D a := by
    unfold rem; rw [Nat.pow_succ, ← Nat.mul_assoc, Nat.mod_mul_right_mod]
  have e2 : rem R D (a + 1) / (D * B32 ^ a) = wd (R / D) a := by
    rw [← rem_digit, Nat.div_div_eq_div_mul, Nat.mul_comm (B32 ^ a)]
  rw [e1, e2] at h
  rw [← h, Nat.mul_comm (D * B32 ^ a), ← Nat.mul_assoc, Nat.add_comm]
theorem rem_part_lt {R D a : Nat} (hD : 0 < D) : rem R D (a + 1) / B32 ^ a < D * B32 := by
  apply Nat.div_lt_of_lt_mul
  have := rem_lt (R := R) (a := a + 1) hD
  rw [Nat.pow_succ, ← Nat.mul_assoc, Nat.mul_right_comm, Nat.mul_comm] at this
  exact this
theorem rem_part_next {R D a : Nat} : rem R D (a + 1) / B32 ^ a = rem R D a / B32 ^ a + wd (R / D) a * D := by
  rw [rem_next, add_high]

/-- The row behind one step: the part is replaced by what is left of it. -/
theorem row_next {w : World} {g tt L m a R D X P : Nat} (hm : D < B32 ^ m) (hD : 0 < D)
    (h : PartAt w g tt L a (m + 1) (m + 1) X P (wd (rem R D (a + 1)))) (hX : ∀ i, i ≤ m → wd X i = wd (rem R D a / B32 ^ a) i) :
    w.rowIs g tt L (fun j => .int .u32 (wd (rem R D a) j : Nat)) := by
  obtain ⟨f, hr, h1, _, h3⟩ := h
  refine hr.congr fun j _ => ?_
  have e : f j = wd (rem R D a) j := by
    by_cases h4 : j < a
    · rw [h3 j (.inl h4), rem_next, wd_add_low _ _ _ _ h4]
    · by_cases h5 : j < a + (m + 1)
      · obtain ⟨i, rfl⟩ : ∃ i, j = a + i := ⟨j - a, by omega⟩
        rw [h1 i (by omega), hX i (by omega), wd_shift]
      · rw [h3 j (.inr (by omega))]
        have hb : rem R D (a + 1) < B32 ^ j := by
          have s1 := rem_lt (R := R) (a := a + 1) hD
          have s2 := Nat.mul_lt_mul_of_pos_right hm (b32_pos (a + 1))
          rw [← Nat.pow_add] at s2
          exact Nat.lt_of_lt_of_le (Nat.lt_trans s1 s2) (Nat.pow_le_pow_right (by decide) (by omega))
        have hb2 : rem R D a < B32 ^ j := Nat.lt_of_le_of_lt (by rw [rem_next]; exact Nat.le_add_right _ _) hb
        unfold wd
        rw [Nat.div_eq_of_lt hb, Nat.div_eq_of_lt hb2]
  rw [e]
theorem part_of_row {w : World} {g tt L a n R : Nat} (h : w.rowIs g tt L (fun j => .int .u32 (wd R j : Nat))) : PartAt w g tt L a n 0 0 (R / B32 ^ a) (wd R) :=
  ⟨wd R, h, fun i hi => absurd hi (by omega), fun i _ _ => wd_shift R a i, fun _ _ => rfl⟩
theorem part_words {w : World} {g tt L a n P : Nat} {f : Nat → Nat} (h : PartAt w g tt L a n 0 0 P f) (hL : a + n ≤ L) : Words w g a n P := by
  obtain ⟨f, hr, _, h2, _⟩ := h
  intro j hj
  rw [hr.cell (by omega), h2 j (by omega) hj]
theorem rem_top {U D n m t s : Nat} (hn : n = m + t) (hm : 1 ≤ m) (hU : U < B32 ^ n) (hs : s < 32) (hl : 2147483648 * B32 ^ (m - 1) ≤ D) : rem (U * 2 ^ s) D (t + 1) = U * 2 ^ s := by
  apply Nat.mod_eq_of_lt
  have h1 : 2 ^ s ≤ 2147483648 := by
    have : 2 ^ s ≤ 2 ^ 31 := Nat.pow_le_pow_right (by omega) (by omega)
    simpa using this
  have h2 : U * 2 ^ s < B32 ^ n * 2147483648 := Nat.lt_of_lt_of_le (Nat.mul_lt_mul_of_pos_right hU (Nat.pow_pos (by omega))) (Nat.mul_le_mul_left _ h1)
  have h3 := Nat.mul_le_mul_right (B32 ^ (t + 1)) hl
  rw [Nat.mul_assoc, ← Nat.pow_add, show m - 1 + (t + 1) = n by omega, Nat.mul_comm] at h3
  omega
theorem rem_zero (R D : Nat) : rem R D 0 = R % D := by simp [rem]
theorem quot_lt {R D t : Nat} (hD : 0 < D) (h : rem R D (t + 1) = R) : R / D < B32 ^ (t + 1) := by
  apply Nat.div_lt_of_lt_mul
  rw [← h]; exact rem_lt hD

theorem Split.only {w w' : World} {g b tt L n a N Q : Nat} (h : Split w g tt L n a N Q) (ho : Only b w w') (hn : g ≠ b) : Split w' g tt L n a N Q := by
  obtain ⟨f, h1, h2⟩ := h
  exact ⟨f, ho.row hn h1, h2⟩
theorem Split.drewN {w : World} {g tt L n a N Q : Nat} (h : Split w g tt L n a N Q) (k : Nat) : Split (w.drewN k) g tt L n a N Q := h
/-- The right digit, when the guess was right. -/
theorem right_digit {P D q : Nat} (hD : 0 < D) (h1 : P / D ≤ q) (h2 : ¬ P < q * D) : q = P / D := by
  have : q ≤ P / D := (Nat.le_div_iff_mul_le hD).2 (by omega)
  omega
theorem wrong_digit {P D q : Nat} (hD : 0 < D) (h1 : q ≤ P / D + 1) (h2 : P < q * D) : q = P / D + 1 := by
  have : P / D < q := (Nat.div_lt_iff_lt_mul hD).2 h2
  omega
theorem back_digit {P D m i : Nat} (hD : 0 < D) (hDl : D < B32 ^ m) (hP : P < B32 ^ (m + 1)) (hi : i ≤ m) (h2 : P < (P / D + 1) * D) : wd (dif P ((P / D + 1) * D) m + D) i = wd (P - P / D * D) i := by
  have h1 : P / D * D ≤ P := Nat.div_mul_le_self _ _
  have hp : B32 ^ m ≤ B32 ^ (m + 1) := Nat.pow_le_pow_right (by decide) (by omega)
  have e : dif P ((P / D + 1) * D) m + D = (P - P / D * D) + 1 * B32 ^ (m + 1) := by
    unfold dif
    rw [Nat.add_mul, Nat.one_mul] at *
    rw [Nat.mod_eq_of_lt (by omega)]
    omega
  rw [e, wd_add_low _ _ _ _ (by omega)]

end Go.Proofs.YtehbbghobagkjaaGreatDoor


/-
  Contracts of package natural, the eleventh part: divide, DivMod.
-/
namespace Go.Proofs.YtehbbghobagkjaaGreatDoor
open Go.RowKit
set_option linter.unusedVariables false

theorem setCells_row {g t L : Nat} : ∀ (ns : List Nat) (o : Nat) (w : World) (f : Nat → Nat), w.rowIs g t L (fun j => .int .u32 (f j : Nat)) →
    ∃ f' : Nat → Nat, (w.setCells g o (ns.map fun x => Value.int .u32 (x : Nat))).rowIs g t L (fun j => .int .u32 (f' j : Nat)) ∧ (∀ i (h : i < ns.length), f' (o + i) = ns[i]) ∧ (∀ j, j < o → f' j = f j) ∧ Only g w (w.setCells g o (ns.map fun x => Value.int .u32 (x : Nat))) := by
  intro ns
  induction ns with
  | nil => intro o w f h; exact ⟨f, h, fun i hi => absurd hi (by simp), fun _ _ => rfl, Only.refl _ _⟩
  | cons x ns ih =>
    intro o w f h
    have h1 := set_row (h := fun j => if j = o then x else f j) h (i := o) (v := (x : Nat)) (by simp) (fun j hj => by simp [hj])
    obtain ⟨f', r1, r2, r3, r4⟩ := ih (o + 1) _ _ h1
    refine ⟨f', r1, fun i hi => ?_, fun j hj => ?_, ((Only.refl g w).set o _).trans r4⟩
    · cases i with
      | zero => rw [Nat.add_zero, r3 o (by omega)]; simp
      | succ i =>
        have := r2 i (by simpa using hi)
        rw [show o + (i + 1) = o + 1 + i by omega, this]; rfl
    · rw [r3 j (by omega)]
      show (if j = o then _ else _) = _
      rw [if_neg (by omega)]
theorem run_copy_words {W : World} {g t n gu ou c cu N ty : Nat} (h : W.rowIs g t n (fun _ => .int .u32 0)) (hu : Words W gu ou n N) :
    ∃ W', (Builtin.copy_ #[104, 104] ty #[.slice (some ⟨g, 0, none⟩) n c, .slice (some ⟨gu, ou, none⟩) n cu]).run Tryz.prog W = .ok (goInt n) W' ∧ Row W' g t n n N ∧ Only g W W' := by
  have hr : W.rowIs g t n (fun j => .int .u32 ((fun _ => 0 : Nat → Nat) j : Nat)) := h
  obtain ⟨f', r1, r2, r3, r4⟩ := setCells_row ((List.range n).map (wd N)) 0 W _ hr
  have hlen : (((List.range n).map (wd N)).map fun x => Value.int .u32 (x : Nat)).length = n := by simp
  refine ⟨_, ?_, ⟨f', r1, fun j hj => ?_⟩, r4⟩
  · have hs : ((Tryz.prog.info? 103).map (·.size)) = some 1 := by kernel_rfl
    have := Go.run_copy_cells (P := Tryz.prog) W 104 104 ty 103 g 0 n c ⟨gu, ou, none⟩ n cu (((List.range n).map (wd N)).map fun x => Value.int .u32 (x : Nat)) Tryz.underlying104 hs (by simp)
      (fun j v hj => by
        have hjn : j < n := by
          have := (List.getElem?_eq_some_iff.1 hj).1
          simpa using this
        have e : (⟨gu, ou, none⟩ : Addr).add j = ⟨gu, ou + j, none⟩ := by unfold Addr.add; split <;> simp_all
        rw [e, hu j hjn]
        simp [hjn] at hj
        rw [hj]) (fun j hj => by rw [Nat.zero_add, h.cell (by simpa using hj)]; rfl) (fun j _ => h.frozen _) (fun v hv => by
        simp at hv
        obtain ⟨a, _, rfl⟩ := hv
        rfl)
    rw [hlen] at this
    exact this
  · have := r2 j (by simpa using hj)
    simpa using this

theorem nd_one {D : Nat} (h : nd D = 1) : D < 4294967296 ∧ 0 < D ∧ wd D 0 = D := by
  have h1 := nd_lt D
  rw [h, Nat.pow_one] at h1
  refine ⟨h1, ?_, ?_⟩
  · rcases Nat.eq_zero_or_pos D with e | e
    · rw [e] at h; exact absurd h (by decide)
    · exact e
  · unfold wd; simp; exact Nat.mod_eq_of_lt h1
theorem nd_small {U D : Nat} (h : nd U < nd D) : U < D := by
  rcases Nat.lt_or_ge U D with h1 | h1
  · exact h1
  · have : nd D ≤ nd U := nd_le.2 (Nat.lt_of_le_of_lt h1 (nd_lt U))
    omega
theorem nd_top {D : Nat} (h : 2 ≤ nd D) : wd D (nd D - 1) ≠ 0 := by
  intro e
  have h1 : D < B32 ^ (nd D - 1 + 1) := by rw [Nat.sub_add_cancel (by omega)]; exact nd_lt D
  have := nd_le.2 ((wd_top h1).1 e)
  omega

theorem sl_load {w : World} {s : ByteArray} {g : Nat} (h : Can s) (hr : w.rowIs g 103 ((s.size + 3) / 4) (fun j => .int .u32 (wd (V s) j : Nat))) :
    Sl w (.slice (some ⟨g, 0, none⟩) ((s.size + 3) / 4) ((s.size + 3) / 4)) (nd (V s)) (V s) := by
  have h1 := h.1
  rw [← nd_can h] at hr ⊢
  have h2 : nd (V s) ≤ 100 := by rw [nd_can h]; omega
  exact ⟨_, _, rfl, Nat.le_refl _, by omega, fun _ => ⟨g, 0, rfl, hr.lt, words_of_row hr (Nat.le_refl _)⟩⟩
/-- Quotient and remainder, or ErrZero. -/
def divN (a b : Nat) : Value := if b = 0 then .tuple #[.string (E 0), .string (E 0), .int .i64 11] else .tuple #[.string (E (a / b)), .string (E (a % b)), .int .i64 0]
theorem ret_three {a b c x y z : Value} (h1 : a = x) (h2 : b = y) (h3 : c = z) : Ending.returned (.tuple #[a, b, c]) = .returned (.tuple #[x, y, z]) := by rw [h1, h2, h3]

theorem V_zero_iff {s : ByteArray} (h : Can s) : V s = 0 ↔ s.size = 0 := by
  constructor
  · intro e
    have := enc_bval h.2
    unfold V at e
    rw [e] at this
    rw [size_eq, ← this]; rfl
  · intro e
    unfold V
    have : s.data.toList = [] := List.eq_nil_of_length_eq_zero (by rw [← size_eq]; exact e)
    rw [this]; rfl

end Go.Proofs.YtehbbghobagkjaaGreatDoor

