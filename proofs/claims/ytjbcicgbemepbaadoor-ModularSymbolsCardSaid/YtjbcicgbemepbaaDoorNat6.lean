/-
  Contracts of package natural, the sixth part: addRow, Mul.
-/
import Derived.Test.YtjbcicgbemepbaaDoorNat5
import Derived.Deep.QuietTactic
import Derived.BigQuiet
import Derived.Lib.SliceRun
namespace Go.Proofs.YtjbcicgbemepbaaDoor
open Go.RowKit
set_option linter.unusedVariables false

/-- The carry behind j digits of c + d y. -/
def carryM (c d y j : Nat) : Nat := (c % B32 ^ j + d * (y % B32 ^ j)) / B32 ^ j
theorem carryM_zero (c d y : Nat) : carryM c d y 0 = 0 := by simp [carryM, Nat.mod_one]
theorem carryM_lt (c d y j : Nat) (hd : d < 4294967296) : carryM c d y j < 4294967296 := by
  have h := b32_pos j
  have h1 := Nat.mod_lt c h
  have h2 := Nat.mod_lt y h
  unfold carryM
  apply Nat.div_lt_of_lt_mul
  have h3 := Nat.mul_le_mul (show d ≤ 4294967295 by omega) (show y % B32 ^ j ≤ B32 ^ j - 1 by omega)
  rw [Nat.mul_sub] at h3
  have e : B32 ^ j * 4294967296 = 4294967295 * B32 ^ j + B32 ^ j := by omega
  have h4 : 4294967295 ≤ 4294967295 * B32 ^ j := Nat.le_mul_of_pos_right _ h
  omega
theorem mul_step (c d y j : Nat) : (carryM c d y j + (wd c j + d * wd y j)) % 4294967296 = wd (c + d * y) j ∧ (carryM c d y j + (wd c j + d * wd y j)) / 4294967296 = carryM c d y (j + 1) := by
  have hB : (4294967296 : Nat) = B32 := rfl
  rw [hB]
  unfold carryM wd
  have h := b32_pos j
  rw [Nat.pow_succ]
  generalize B32 ^ j = p at *
  have ec : c % (p * B32) = c % p + p * (c / p % B32) := Nat.mod_mul
  have ey : y % (p * B32) = y % p + p * (y / p % B32) := Nat.mod_mul
  have hc := Nat.div_add_mod c p
  have hy := Nat.div_add_mod y p
  have e1 : (c + d * y) / p = c / p + d * (y / p) + (c % p + d * (y % p)) / p := by
    have : c + d * y = p * (c / p + d * (y / p)) + (c % p + d * (y % p)) := by
      conv => lhs; rw [← hc, ← hy]
      rw [Nat.mul_add, Nat.mul_add, ← Nat.mul_assoc d p, ← Nat.mul_assoc p d, Nat.mul_comm d p]; omega
    rw [this, Nat.mul_add_div h]
  have e2 : (c % (p * B32) + d * (y % (p * B32))) / (p * B32) = ((c % p + d * (y % p)) / p + (c / p % B32 + d * (y / p % B32))) / B32 := by
    rw [ec, ey, ← Nat.div_div_eq_div_mul]
    have : c % p + p * (c / p % B32) + d * (y % p + p * (y / p % B32)) = p * (c / p % B32 + d * (y / p % B32)) + (c % p + d * (y % p)) := by
      rw [Nat.mul_add, Nat.mul_add, ← Nat.mul_assoc d p, ← Nat.mul_assoc p d, Nat.mul_comm d p]; omega
    rw [this, Nat.mul_add_div h, Nat.add_comm]
  rw [e1, e2]
  refine ⟨?_, rfl⟩
  generalize (c % p + d * (y % p)) / p = k
  rw [Nat.add_mod, Nat.add_mod (c / p + d * (y / p)), Nat.add_mod (c / p % B32), Nat.mod_mod, Nat.mul_mod d (y / p % B32), Nat.mod_mod, ← Nat.mul_mod, ← Nat.add_mod (c / p), ← Nat.add_mod, ← Nat.add_mod, Nat.add_comm]

/-- The digits from place o on. -/
theorem wd_shift (n o j : Nat) : wd n (o + j) = wd (n / B32 ^ o) j := by unfold wd; rw [Nat.pow_add, Nat.div_div_eq_div_mul]
theorem wd_add_low (p q o i : Nat) (h : i < o) : wd (p + q * B32 ^ o) i = wd p i := by
  unfold wd
  have : B32 ^ o = B32 ^ i * (B32 * B32 ^ (o - i - 1)) := by rw [← Nat.pow_succ', ← Nat.pow_add]; congr 1; omega
  rw [this, Nat.mul_comm q, Nat.mul_assoc, Nat.add_mul_div_left _ _ (b32_pos i), Nat.mul_assoc, Nat.add_mul_mod_self_left]
theorem add_high (p q o : Nat) : (p + q * B32 ^ o) / B32 ^ o = p / B32 ^ o + q := by rw [Nat.mul_comm, Nat.add_mul_div_left _ _ (b32_pos o)]

/-- Digits i of P2 below place a, of P from there on. -/
def mix (P2 P a i : Nat) : Nat := if i < a then wd P2 i else wd P i
theorem mix_step {w : World} {g t L P2 P a : Nat} {v : Int} (h : w.rowIs g t L (fun j => .int .u32 (mix P2 P a j : Nat))) (hv : v = (wd P2 a : Nat)) :
    (w.setCell ⟨g, a, none⟩ (.int .u32 v)).rowIs g t L (fun j => .int .u32 (mix P2 P (a + 1) j : Nat)) :=
  set_row (h := mix P2 P (a + 1)) h (by rw [hv]; unfold mix; rw [if_pos (by omega)]) (fun j hj => by
    unfold mix
    by_cases h1 : j < a
    · rw [if_pos h1, if_pos (by omega)]
    · rw [if_neg h1, if_neg (by omega)])

/-- Only block g, and what is new, has turned. -/
structure Only (g : Nat) (w w' : World) : Prop where
  os : w'.os = w.os
  tape : w'.tape = w.tape
  output : w'.output = w.output
  size : w.heap.size ≤ w'.heap.size
  block : ∀ k, k < w.heap.size → k ≠ g → w'.heap[k]? = w.heap[k]?
theorem Only.refl (g : Nat) (w : World) : Only g w w := ⟨rfl, rfl, rfl, Nat.le_refl _, fun _ _ _ => rfl⟩
theorem Only.trans {g : Nat} {a b c : World} (h : Only g a b) (k : Only g b c) : Only g a c :=
  ⟨k.os.trans h.os, k.tape.trans h.tape, k.output.trans h.output, Nat.le_trans h.size k.size, fun i hi hn => (k.block i (Nat.lt_of_lt_of_le hi h.size) hn).trans (h.block i hi hn)⟩
theorem Only.drewN {g : Nat} {a b : World} (h : Only g a b) (n : Nat) : Only g a (b.drewN n) := ⟨h.os, h.tape, h.output, h.size, h.block⟩
theorem Only.drew {g : Nat} {a b : World} (h : Only g a b) : Only g a b.drew := ⟨h.os, h.tape, h.output, h.size, h.block⟩
theorem Only.set {g : Nat} {a b : World} (h : Only g a b) (o : Nat) (u : Value) : Only g a (b.setCell ⟨g, o, none⟩ u) :=
  h.trans ⟨rfl, rfl, rfl, by simp [World.setCell], fun i _ hn => Below.heap_setCell _ _ _ _ hn⟩
theorem Only.below {g B : Nat} {a w w' : World} (h : Below B a w) (k : Only g w w') (hB : B ≤ w.heap.size) (hg : B ≤ g) : Below B a w' :=
  h.trans ⟨k.os, k.tape, k.output, k.size, fun i hi => k.block i (by omega) (by omega)⟩
theorem Only.cell {g : Nat} {w w' : World} (h : Only g w w') {b o : Nat} (hb : b < w.heap.size) (hn : b ≠ g) : w'.cell? ⟨b, o, none⟩ = w.cell? ⟨b, o, none⟩ :=
  World.cell?_of_block (w := w) (a := ⟨b, o, none⟩) (h.block b hb hn)
theorem Only.words {g : Nat} {w w' : World} (h : Only g w w') {b o n N : Nat} (hb : b < w.heap.size) (hn : b ≠ g) (hw : Words w b o n N) : Words w' b o n N :=
  fun j hj => (h.cell hb hn).trans (hw j hj)
theorem Only.row {g : Nat} {w w' : World} (h : Only g w w') {b t n : Nat} {f : Nat → Value} (hn : b ≠ g) (hw : w.rowIs b t n f) : w'.rowIs b t n f :=
  hw.of_block (h.block b hw.lt hn)
theorem carryM_end {c d y m : Nat} (hc : c < B32 ^ m) (hy : y < B32 ^ m) : carryM c d y m = (c + d * y) / B32 ^ m := by
  unfold carryM; rw [Nat.mod_eq_of_lt hc, Nat.mod_eq_of_lt hy]
theorem end_lt {c d y m : Nat} (hc : c < B32 ^ m) (hy : y < B32 ^ m) (hd : d < 4294967296) : c + d * y < B32 ^ (m + 1) := by
  have h := b32_pos m
  have h3 := Nat.mul_le_mul (show d ≤ 4294967295 by omega) (show y ≤ B32 ^ m - 1 by omega)
  have e : B32 ^ (m + 1) = 4294967295 * B32 ^ m + B32 ^ m := by rw [Nat.pow_succ, b32_eq]; omega
  rw [Nat.mul_sub] at h3
  have h4 : 4294967295 ≤ 4294967295 * B32 ^ m := Nat.le_mul_of_pos_right _ h
  omega

set_option maxHeartbeats 400000 in
set_option maxRecDepth 20000 in
theorem addRow_any (g o n c gy oy m cy d L P Y : Nat) (w : World) (tt : Nat) (hm : m + 1 ≤ n) (hn : n ≤ c) (hc : c ≤ 1000) (hmy : m ≤ cy) (hcy : cy ≤ 1000) (ho : o + n ≤ L) (hL : L ≤ 1000) (hd : d < 4294967296)
    (hP : P < B32 ^ (o + m)) (hY : Y < B32 ^ m) (hrow : w.rowIs g tt L (fun j => .int .u32 (wd P j : Nat))) (hne : gy ≠ g) (hgy : gy < w.heap.size) (hyy : Words w gy oy m Y) :
    Calls Tryd.prog 27 #[.slice (some ⟨g, o, none⟩) n c, .slice (some ⟨gy, oy, none⟩) m cy, .int .u32 d] w fun e w' => e = .returned (.tuple #[]) ∧ w'.rowIs g tt L (fun j => .int .u32 (wd (P + d * Y * B32 ^ o) j : Nat)) ∧ Only g w w' := by
  have HY := Lib.hid hyy; clear hyy
  have HP := Lib.hid hP; clear hP
  have HYl := Lib.hid hY; clear hY
  have hrow0 : w.rowIs g tt L (fun j => .int .u32 (mix (P + d * Y * B32 ^ o) P (o + 0) j : Nat)) := hrow.congr fun j _ => by
    unfold mix
    split
    · rw [wd_add_low _ _ _ _ (by omega)]
    · rfl
  clear hrow
  have HR0 := Lib.hid hrow0; clear hrow0
  go_enter Tryd.func27, Tryd.ntmps27
  go_wp2
  go_loopw [6, 7, 10] (fun cr _ v wr => ∃ k : Nat, k ≤ m ∧ v = .int .i64 k ∧ cr = .int .u64 (carryM (P / B32 ^ o) d Y k : Nat) ∧ wr.rowIs g tt L (fun j => .int .u32 (mix (P + d * Y * B32 ^ o) P (o + k) j : Nat)) ∧ Only g w wr) (fun _ _ v _ => m - (intOf v).toNat)
  case atStart => exact ⟨0, by omega, rfl, by rw [carryM_zero]; rfl, HR0.out, Only.refl _ _⟩
  case round =>
    obtain ⟨k, hk, rfl, rfl, hrow, hbel⟩ := hrel
    have hcar := carryM_lt (P / B32 ^ o) d Y k hd
    by_cases hlt : k < m
    · have hst := mul_step (P / B32 ^ o) d Y k
      have hcell0 := hrow.cell (i := o + k) (by omega)
      have hmx : mix (P + d * Y * B32 ^ o) P (o + k) (o + k) = wd (P / B32 ^ o) k := by unfold mix; rw [if_neg (by omega), wd_shift]
      rw [hmx] at hcell0
      have hx := wd_lt (P / B32 ^ o) k
      have hy := wd_lt Y k
      have hsrc0 : wr.cell? ⟨gy, oy + k, none⟩ = some (.int .u32 (wd Y k : Nat)) := by
        rw [← HY.out k hlt]; exact hbel.cell hgy hne
      have hw2 : wd (P + d * Y * B32 ^ o) (o + k) = wd (P / B32 ^ o + d * Y) k := by rw [wd_shift, add_high]
      have hfr := hrow.frozen (o + k)
      have HM := Lib.hid hmx; clear hmx
      have HS := Lib.hid hst; clear hst
      have HW2 := Lib.hid hw2; clear hw2
      have HR := Lib.hid hrow; clear hrow
      obtain ⟨x, hxe⟩ : ∃ x, x = wd (P / B32 ^ o) k := ⟨_, rfl⟩
      obtain ⟨y, hye⟩ : ∃ y, y = wd Y k := ⟨_, rfl⟩
      obtain ⟨cr, hcre⟩ : ∃ q, q = carryM (P / B32 ^ o) d Y k := ⟨_, rfl⟩
      rw [← hxe] at hcell0 hx
      rw [← hye] at hsrc0 hy
      rw [← hcre] at hcar ⊢
      have HX := Lib.hid hxe; clear hxe
      have HYE := Lib.hid hye; clear hye
      have HCR := Lib.hid hcre; clear hcre
      have hmul : d * y ≤ 18446744065119617025 := Nat.mul_le_mul (show d ≤ 4294967295 by omega) (show y ≤ 4294967295 by omega)
      have i1 : (k : Int) < (n : Int) := by omega
      have i2 : (k : Int) < (m : Int) := by omega
      go_wp2
      go_quiet (fail)
      go_wp2
      go_roundw
      case rel =>
        have e := HS.out
        rw [← HX.out, ← HYE.out, ← HCR.out] at e
        exact ⟨k + 1, by omega, by go_num, int_eq (by rw [← e.2]; simp), mix_step (a := o + k) (HR.out : World.rowIs (wr.drewN nq) _ _ _ _) (by rw [HW2.out, ← e.1]; simp), (hbel.drewN nq).set _ _⟩
      case measure => simp [intOf]; omega
    · obtain rfl : k = m := by omega
      have hcell := hrow.cell (i := o + k) (by omega)
      have hfr := hrow.frozen (o + k)
      have hb := Nat.div_lt_of_lt_mul (m := P) (n := B32 ^ o) (k := B32 ^ k) (by rw [← Nat.pow_add]; exact HP.out)
      have hce := carryM_end (d := d) hb HYl.out
      have htop : carryM (P / B32 ^ o) d Y k = wd (P + d * Y * B32 ^ o) (o + k) := by
        rw [hce, wd_shift, add_high]
        unfold wd
        rw [Nat.mod_eq_of_lt]
        exact Nat.div_lt_of_lt_mul (by rw [← Nat.pow_succ]; exact end_lt hb HYl.out hd)
      have HT := Lib.hid htop; clear htop hce hb
      have HR := Lib.hid hrow; clear hrow
      have hfin : ∀ j, o + (k + 1) ≤ j → wd P j = wd (P + d * Y * B32 ^ o) j := by
        intro j hj
        have h1 : P < B32 ^ j := Nat.lt_of_lt_of_le HP.out (Nat.pow_le_pow_right (by decide) (by omega))
        have hb := Nat.div_lt_of_lt_mul (m := P) (n := B32 ^ o) (k := B32 ^ k) (by rw [← Nat.pow_add]; exact HP.out)
        have h2 := end_lt hb HYl.out hd
        obtain ⟨i, rfl⟩ : ∃ i, j = o + i := ⟨j - o, by omega⟩
        rw [wd_shift, wd_shift, add_high]
        have h3 : P / B32 ^ o < B32 ^ i := Nat.lt_of_lt_of_le hb (Nat.pow_le_pow_right (by decide) (by omega))
        have h4 := Nat.lt_of_lt_of_le h2 (Nat.pow_le_pow_right (show 0 < B32 by decide) (show k + 1 ≤ i by omega))
        unfold wd
        rw [Nat.div_eq_of_lt h3, Nat.div_eq_of_lt h4]
      have HF := Lib.hid hfin; clear hfin
      go_wp2
      go_end0
      refine ⟨rfl, ?_, hbel.set _ _⟩
      refine (mix_step (a := o + k) HR.out (by rw [← HT.out])).congr fun j _ => ?_
      unfold mix
      split
      · rfl
      · rw [HF.out j (by omega)]

/-- The number of the first i digits. -/
def lowW (n i : Nat) : Nat := n % B32 ^ i
theorem lowW_succ (n i : Nat) : lowW n (i + 1) = lowW n i + wd n i * B32 ^ i := by
  unfold lowW wd; rw [Nat.pow_succ, Nat.mod_mul, Nat.mul_comm (B32 ^ i)]
theorem lowW_lt (n i : Nat) : lowW n i < B32 ^ i := Nat.mod_lt _ (b32_pos i)
theorem lowW_zero (n : Nat) : lowW n 0 = 0 := by simp [lowW, Nat.mod_one]
theorem lowW_nd (n : Nat) : lowW n (nd n) = n := Nat.mod_eq_of_lt (nd_lt n)
theorem mul_lt_pow {a b i j : Nat} (ha : a < B32 ^ i) (hb : b < B32 ^ j) : a * b < B32 ^ (i + j) := by
  rw [Nat.pow_add]
  exact Nat.mul_lt_mul'' ha hb
theorem mul_round (x y i : Nat) : lowW x i * y + wd x i * y * B32 ^ i = lowW x (i + 1) * y := by
  rw [lowW_succ, Nat.add_mul, Nat.mul_right_comm]

theorem setCells_zero {g t n : Nat} {z : Value} : ∀ (m o : Nat) (w : World), w.rowIs g t n (fun _ => z) → (w.setCells g o (List.replicate m z)).rowIs g t n (fun _ => z) ∧ Only g w (w.setCells g o (List.replicate m z)) := by
  intro m
  induction m with
  | zero => intro o w h; exact ⟨h, Only.refl _ _⟩
  | succ m ih =>
    intro o w h
    have h1 : (w.setCell ⟨g, o, none⟩ z).rowIs g t n (fun _ => z) := (h.set o z).congr fun j _ => by
      show (if j = o then z else z) = z
      split <;> rfl
    have := ih (o + 1) _ h1
    exact ⟨this.1, ((Only.refl g w).set o z).trans this.2⟩
theorem run_clear_words {W : World} {g t n c ty : Nat} (h : W.rowIs g t n (fun _ => .int .u32 0)) (hn : 0 < n) :
    ∃ W', (Builtin.clear_ #[44] ty #[.slice (some ⟨g, 0, none⟩) n c]).run Tryd.prog W = .ok (.tuple #[]) W' ∧ W'.rowIs g t n (fun _ => .int .u32 0) ∧ Only g W W' := by
  have hr := setCells_zero n 0 W h
  refine ⟨_, Lib.run_clear_slice (P := Tryd.prog) W 44 49 ty (.int .u32 0) Tryd.underlying44 (fun _ => by kernel_rfl) rfl rfl g 0 n c hn ?_ ?_, hr⟩
  · intro j hj; rw [Nat.zero_add, h.cell hj]; rfl
  · intro j hj; exact h.frozen _

theorem words_of_row {w : World} {g t n L N : Nat} (h : w.rowIs g t L (fun j => .int .u32 (wd N j : Nat))) (hn : n ≤ L) : Words w g 0 n N :=
  fun j hj => by rw [Nat.zero_add]; exact h.cell (by omega)
theorem alloc_below {B : Nat} {a w : World} {o : Obj} (h : Below B a w) (hB : B ≤ w.heap.size) : Below B a (w.alloc o) := h.alloc hB o
set_option maxHeartbeats 400000 in
theorem mul_no (s t : ByteArray) (w : World) (h : ¬ (Can s ∧ Can t)) :
    Calls Tryd.prog 14 #[.string s, .string t] w fun e w' => e = .returned (.tuple #[.string (E 0), .int .i64 3]) ∧ w = w' := by
  by_cases hc : Can s
  · have hd : ¬ Can t := fun q => h ⟨hc, q⟩
    have HC := Lib.hid hc; clear hc h
    have HD := Lib.hid hd; clear hd
    go_enter Tryd.func14, Tryd.ntmps14
    go_wp2_with fail
    refine (valid_yes s _ HC.out).mono ?_; rintro e w' ⟨rfl, rfl⟩
    go_wp2_with fail
    refine (valid_no t _ HD.out).mono ?_; rintro e w' ⟨rfl, rfl⟩
    go_wp2
    go_ret2
    exact ⟨rfl, rfl⟩
  · have HC := Lib.hid hc; clear hc h
    go_enter Tryd.func14, Tryd.ntmps14
    go_wp2_with fail
    refine (valid_no s _ HC.out).mono ?_; rintro e w' ⟨rfl, rfl⟩
    go_wp2
    go_ret2
    exact ⟨rfl, rfl⟩

set_option maxHeartbeats 400000 in
set_option maxRecDepth 20000 in
theorem mul_yes (s t : ByteArray) (w : World) (hs : Can s) (ht : Can t) :
    Calls Tryd.prog 14 #[.string s, .string t] w fun e w' => e = .returned (okN (V s * V t)) ∧ Below w.heap.size w w' := by
  have h1 := hs.1
  have h2 := ht.1
  obtain ⟨mx, hmx⟩ : ∃ m, m = (s.size + 3) / 4 := ⟨_, rfl⟩
  obtain ⟨my, hmy⟩ : ∃ m, m = (t.size + 3) / 4 := ⟨_, rfl⟩
  have hx32 : mx ≤ 32 := by omega
  have hy32 : my ≤ 32 := by omega
  have hxn : nd (V s) = mx := by rw [hmx, nd_can hs]
  have hyn : nd (V t) = my := by rw [hmy, nd_can ht]
  have HS := Lib.hid hs; clear hs
  have HT := Lib.hid ht; clear ht
  have HX := Lib.hid hmx; clear hmx
  have HY := Lib.hid hmy; clear hmy
  have HXN := Lib.hid hxn; clear hxn
  have HYN := Lib.hid hyn; clear hyn
  go_enter Tryd.func14, Tryd.ntmps14
  go_wp2_with fail
  refine (valid_yes s _ HS.out).mono ?_; rintro e w' ⟨rfl, rfl⟩
  go_wp2_with fail
  refine (valid_yes t _ HT.out).mono ?_; rintro e w' ⟨rfl, rfl⟩
  go_wp2_with fail
  refine (load_any s _ (by omega)).mono ?_
  rintro e w1 ⟨rfl, hx, hb1⟩
  rw [← HX.out] at hx ⊢
  have HX1 := Lib.hid hx; clear hx
  go_wp2_with fail
  refine (load_any t _ (by omega)).mono ?_
  rintro e w2 ⟨rfl, hy, hb2⟩
  rw [← HY.out] at hy ⊢
  have HY1 := Lib.hid hy; clear hy
  go_wp2
  have hz64 : ∀ i, i < (Array.replicate 64 (Value.int .u32 0)).size → (Array.replicate 64 (Value.int .u32 0))[i]? = some (.int .u32 0) := fun i hi => by
    rw [Array.getElem?_replicate, if_pos (by simpa using hi)]
  have hr3 : (w2.alloc (.cells (Array.replicate 64 (.int .u32 0)) 50)).rowIs w2.heap.size 50 64 (fun _ => .int .u32 0) := World.rowIs_alloc w2 _ _ _ hz64
  have hb3 : Below w.heap.size w (w2.alloc (.cells (Array.replicate 64 (.int .u32 0)) 50)) := (hb1.trans (hb2.mono hb1.size)).alloc (Nat.le_trans hb1.size hb2.size) _
  have hb3x : Below w2.heap.size w2 (w2.alloc (.cells (Array.replicate 64 (.int .u32 0)) 50)) := (Below.refl _ _).alloc (Nat.le_refl _) _
  have hs3 : (w2.alloc (.cells (Array.replicate 64 (.int .u32 0)) 50)).heap.size = w2.heap.size + 1 := by simp
  have e64 : (Array.replicate 64 (Value.int .u32 0)) = #[.int .u32 0, .int .u32 0, .int .u32 0, .int .u32 0, .int .u32 0, .int .u32 0, .int .u32 0, .int .u32 0, .int .u32 0, .int .u32 0, .int .u32 0, .int .u32 0, .int .u32 0, .int .u32 0, .int .u32 0, .int .u32 0, .int .u32 0, .int .u32 0, .int .u32 0, .int .u32 0, .int .u32 0, .int .u32 0, .int .u32 0, .int .u32 0, .int .u32 0, .int .u32 0, .int .u32 0, .int .u32 0, .int .u32 0, .int .u32 0, .int .u32 0, .int .u32 0, .int .u32 0, .int .u32 0, .int .u32 0, .int .u32 0, .int .u32 0, .int .u32 0, .int .u32 0, .int .u32 0, .int .u32 0, .int .u32 0, .int .u32 0, .int .u32 0, .int .u32 0, .int .u32 0, .int .u32 0, .int .u32 0, .int .u32 0, .int .u32 0, .int .u32 0, .int .u32 0, .int .u32 0, .int .u32 0, .int .u32 0, .int .u32 0, .int .u32 0, .int .u32 0, .int .u32 0, .int .u32 0, .int .u32 0, .int .u32 0, .int .u32 0, .int .u32 0] := rfl
  rw [e64] at hr3 hb3 hs3 hb3x
  clear e64 hz64
  generalize w2.alloc _ = w3 at *
  obtain ⟨w4, hrun, hr4, ho4⟩ := run_clear_words (c := 64) (ty := 0) hr3 (by omega)
  rw [hrun]
  have hb4 : Below w.heap.size w w4 := ho4.below hb3 hb3.size (Nat.le_trans hb1.size hb2.size)
  have hxw : Words w4 w.heap.size 0 mx (V s) := by
    have h1 := words_of_row (HX1.out) (Nat.le_refl mx)
    have h2 : Words w2 w.heap.size 0 mx (V s) := h1.below hb2 HX1.out.lt
    have h3 : Words w3 w.heap.size 0 mx (V s) := fun j hj => (hb3x.cell (p := ⟨w.heap.size, 0 + j, none⟩) (Nat.lt_of_lt_of_le HX1.out.lt hb2.size)).trans (h2 j hj)
    exact ho4.words (by have := HX1.out.lt; have := hb2.size; have := hb3x.size; omega) (by have := HX1.out.lt; have := hb2.size; omega) h3
  have hyw : Words w4 w1.heap.size 0 my (V t) := by
    have h1 := words_of_row (HY1.out) (Nat.le_refl my)
    have h3 : Words w3 w1.heap.size 0 my (V t) := fun j hj => (hb3x.cell (p := ⟨w1.heap.size, 0 + j, none⟩) HY1.out.lt).trans (h1 j hj)
    exact ho4.words (by have := HY1.out.lt; have := hb3x.size; omega) (by have := HY1.out.lt; omega) h3
  have hxg : w.heap.size < w4.heap.size ∧ w.heap.size ≠ w2.heap.size := ⟨by have := HX1.out.lt; have := hb2.size; have := hb3x.size; have := ho4.size; omega, by have := HX1.out.lt; have := hb2.size; omega⟩
  have hyg : w1.heap.size < w4.heap.size ∧ w1.heap.size ≠ w2.heap.size := ⟨by have := HY1.out.lt; have := hb3x.size; have := ho4.size; omega, by have := HY1.out.lt; omega⟩
  have hcg : w2.heap.size < w4.heap.size := hr4.lt
  have hwc : w.heap.size ≤ w2.heap.size := Nat.le_trans hb1.size hb2.size
  have hw4 : w.heap.size ≤ w4.heap.size := hb4.size
  have HXW := Lib.hid hxw; clear hxw
  have HYW := Lib.hid hyw; clear hyw
  have HR4 := Lib.hid hr4; clear hr4
  clear hrun hb1 hb2 hb3 hb3x hs3 hr3 ho4 HX1 HY1
  have HXG := Lib.hid hxg; clear hxg
  have HYG := Lib.hid hyg; clear hyg
  generalize hgx : w.heap.size = gx at *
  have HGX := Lib.hid hgx; clear hgx
  generalize w1.heap.size = gy at *
  generalize w2.heap.size = gc at *
  go_wp2
  go_loopw [9, 25] (fun _ v wr => ∃ k : Nat, k ≤ mx ∧ v = .int .i64 k ∧ wr.rowIs gc 50 64 (fun j => .int .u32 (wd (lowW (V s) k * V t) j : Nat)) ∧ Only gc w4 wr) (fun _ v _ => mx - (intOf v).toNat)
  case atStart => exact ⟨0, by omega, rfl, HR4.out.congr (fun j _ => by rw [lowW_zero, Nat.zero_mul, wd_zero]; rfl), Only.refl _ _⟩
  case round =>
    obtain ⟨k, hk, rfl, hrow, ho⟩ := hrel
    by_cases hlt : k < mx
    · have hcell : wr.cell? ⟨gx, k, none⟩ = some (.int .u32 (wd (V s) k : Nat)) := by
        have := ho.words HXG.out.1 HXG.out.2 HXW.out k hlt
        rwa [Nat.zero_add] at this
      have hwl := wd_lt (V s) k
      have i1 : (k : Int) < (mx : Int) := by omega
      have i3 : (k : Int) ≤ 64 := by omega
      have i4 : ¬ (64 = k) := by omega
      have HR := Lib.hid hrow; clear hrow
      go_wp2
      refine wp_region_still_tail 7 (by kernel_rfl) (by kernel_rfl) ?_
      simp only [List.take_succ_cons, List.take_zero, List.drop_succ_cons, List.drop_zero]
      iterate 7 still_step
      refine wpStill_nil ?_
      change wpList _ _ _ _ _ wr.drew
      have HR2 : wr.drew.rowIs gc 50 64 (fun j => .int .u32 (wd (lowW (V s) k * V t) j : Nat)) := HR.out
      have ho2 : Only gc w4 wr.drew := ho.drew
      have hmr := mul_round (V s) (V t) k
      have HMR := Lib.hid hmr; clear hmr
      have hP : lowW (V s) k * V t < B32 ^ (k + my) := mul_lt_pow (lowW_lt _ _) (by rw [← HYN.out]; exact nd_lt _)
      have hYl : V t < B32 ^ my := by rw [← HYN.out]; exact nd_lt _
      have HP := Lib.hid hP; clear hP
      have HYl := Lib.hid hYl; clear hYl
      have HR2 := Lib.hid HR2
      have hyw2 := ho2.words HYG.out.1 HYG.out.2 HYW.out
      have hgy2 : gy < wr.drew.heap.size := Nat.lt_of_lt_of_le HYG.out.1 ho2.size
      have HYW2 := Lib.hid hyw2; clear hyw2
      have HGY := Lib.hid HYG.out.2
      generalize wr.drew = w5 at *
      go_wp2_with fail
      refine (addRow_any gc k (64 - k) (64 - k) gy 0 my my (wd (V s) k) 64 _ _ _ 50 (by omega) (by omega) (by omega) (by omega) (by omega) (by omega) (by omega) hwl HP.out HYl.out HR2.out HGY.out hgy2 HYW2.out).mono ?_
      rintro e w6 ⟨rfl, hr6, ho6⟩
      have hr6 : w6.rowIs gc 50 64 (fun j => .int .u32 (wd (lowW (V s) (k + 1) * V t) j : Nat)) := by rw [← HMR.out]; exact hr6
      have HR6 := Lib.hid hr6; clear hr6
      go_wp2
      go_roundw
      case rel => exact ⟨k + 1, by omega, by go_num, HR6.out, ho2.trans ho6⟩
      case measure => simp [intOf]; omega
    · obtain rfl : k = mx := by omega
      have hfin : lowW (V s) k = V s := by rw [← HXN.out]; exact lowW_nd _
      rw [hfin] at hrow
      have hN : V s * V t < B32 ^ (k + my) := mul_lt_pow (by rw [← HXN.out]; exact nd_lt _) (by rw [← HYN.out]; exact nd_lt _)
      have hsl : Sl wr (.slice (some ⟨gc, 0, none⟩) (k + my) 64) (k + my) (V s * V t) := ⟨_, 64, rfl, by omega, by omega, fun _ => ⟨gc, 0, rfl, hrow.lt, words_of_row hrow (by omega)⟩⟩
      have hbw : Below gx w wr := ho.below hb4 hw4 hwc
      have HN := Lib.hid hN; clear hN hfin
      have HSL := Lib.hid hsl; clear hsl hrow
      have j1 : (k : Int) + (my : Int) ≤ 64 := by omega
      have j2 : (0 : Int) ≤ (k : Int) + (my : Int) := by omega
      have j3 : ((k : Int) + (my : Int)).toNat = k + my := by omega
      go_wp2_with fail
      refine (store_any _ (k + my) (V s * V t) _ HN.out HSL.out).mono ?_
      rintro e w6 ⟨rfl, hb6⟩
      have hbf : Below gx w w6 := hbw.trans (hb6.mono (Nat.le_trans hw4 ho.size))
      by_cases hfit : V s * V t < Lim
      · rw [okN_yes hfit]
        have ho' := Lib.hid (okN_yes hfit)
        clear hfit
        go_wp2
        go_ret2
        exact ⟨ret_v ho'.out.symm, by rw [HGX.out]; exact hbf⟩
      · rw [okN_no hfit]
        have ho' := Lib.hid (okN_no hfit)
        clear hfit
        go_wp2
        go_ret2
        exact ⟨ret_v ho'.out.symm, by rw [HGX.out]; exact hbf⟩
end Go.Proofs.YtjbcicgbemepbaaDoor
