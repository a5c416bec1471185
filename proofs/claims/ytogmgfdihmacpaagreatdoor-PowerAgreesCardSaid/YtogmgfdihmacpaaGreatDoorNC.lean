/-
  Several parts in one text (NC).
-/
import Derived.Test.YtogmgfdihmacpaaGreatDoorNB
import Derived.Deep.QuietTactic
import Derived.BigQuiet
import Derived.Lib.SliceRun
/-
  Contracts of package natural, the sixth part: addRow, Mul.
-/
namespace Go.Proofs.YtogmgfdihmacpaaGreatDoor
open Go.RowKit
set_option linter.unusedVariables false

/-- The carry behind j digits of c + d y. -/
def carryM (c d y j : Nat) : Nat := (c % B32 ^ j + d * (y % B32 ^ j)) / B32 ^ j
theorem carryM_zero (c d y : Nat) : carryM c d y 0 = 0 := by simp [carryM, Nat.mod_one]
theorem carryM_lt (c d y j : Nat) (hd : d < 4294967296) : carryM c d y j < 4294967296 := by
  have h := b32_pos j
  have h1 := Nat.mod_lt c h
  have h2 := Nat.mod_lt y h
  unfold carryM
  apply Nat.div_lt_of_lt_mul
  have h3 := Nat.mul_le_mul (show d ≤ 4294967295 by omega) (show y % B32 ^ j ≤ B32 ^ j - 1 by omega)
  rw [Nat.mul_sub] at h3
  have e : B32 ^ j * 4294967296 = 4294967295 * B32 ^ j + B32 ^ j := by omega
  have h4 : 4294967295 ≤ 4294967295 * B32 ^ j := Nat.le_mul_of_pos_right _ h
  omega
theorem mul_step (c d y j : Nat) : (carryM c d y j + (wd c j + d * wd y j)) % 4294967296 = wd (c + d * y) j ∧ (carryM c d y j + (wd c j + d * wd y j)) / 4294967296 = carryM c d y (j + 1) := by
  have hB : (4294967296 : Nat) = B32 := rfl
  rw [hB]
  unfold carryM wd
  have h := b32_pos j
  rw [Nat.pow_succ]
  generalize B32 ^ j = p at *
  have ec : c % (p * B32) = c % p + p * (c / p % B32) := Nat.mod_mul
  have ey : y % (p * B32) = y % p + p * (y / p % B32) := Nat.mod_mul
  have hc := Nat.div_add_mod c p
  have hy := Nat.div_add_mod y p
  have e1 : (c + d * y) / p = c / p + d * (y / p) + (c % p + d * (y % p)) / p := by
    have : c + d * y = p * (c / p + d * (y / p)) + (c % p + d * (y % p)) := by
      conv => lhs; rw [← hc, ← hy]
      rw [Nat.mul_add, Nat.mul_add, ← Nat.mul_assoc d p, ← Nat.mul_assoc p d, Nat.mul_comm d p]; omega
    rw [this, Nat.mul_add_div h]
  have e2 : (c % (p * B32) + d * (y % (p * B32))) / (p * B32) = ((c % p + d * (y % p)) / p + (c / p % B32 + d * (y / p % B32))) / B32 := by
    rw [ec, ey, ← Nat.div_div_eq_div_mul]
    have : c % p + p * (c / p % B32) + d * (y % p + p * (y / p % B32)) = p * (c / p % B32 + d * (y / p % B32)) + (c % p + d * (y % p)) := by
      rw [Nat.mul_add, Nat.mul_add, ← Nat.mul_assoc d p, ← Nat.mul_assoc p d, Nat.mul_comm d p]; omega
    rw [this, Nat.mul_add_div h, Nat.add_comm]
  rw [e1, e2]
  refine ⟨?_, rfl⟩
  generalize (c % p + d * (y % p)) / p = k
  rw [Nat.add_mod, Nat.add_mod (c / p + d * (y / p)), Nat.add_mod (c / p % B32), Nat.mod_mod, Nat.mul_mod d (y / p % B32), Nat.mod_mod, ← Nat.mul_mod, ← Nat.add_mod (c / p), ← Nat.add_mod, ← Nat.add_mod, Nat.add_comm]

/-- The digits from place o on. -/
theorem wd_shift (n o j : Nat) : wd n (o + j) = wd (n / B32 ^ o) j := by unfold wd; rw [Nat.pow_add, Nat.div_div_eq_div_mul]
theorem wd_add_low (p q o i : Nat) (h : i < o) : wd (p + q * B32 ^ o) i = wd p i := by
  unfold wd
  have : B32 ^ o = B32 ^ i * (B32 * B32 ^ (o - i - 1)) := by rw [← Nat.pow_succ', ← Nat.pow_add]; congr 1; omega
  rw [this, Nat.mul_comm q, Nat.mul_assoc, Nat.add_mul_div_left _ _ (b32_pos i), Nat.mul_assoc, Nat.add_mul_mod_self_left]
theorem add_high (p q o : Nat) : (p + q * B32 ^ o) / B32 ^ o = p / B32 ^ o + q := by rw [Nat.mul_comm, Nat.add_mul_div_left _ _ (b32_pos o)]

/-- Digits i of P2 below place a, of P from there on. -/
def mix (P2 P a i : Nat) : Nat := if i < a then wd P2 i else wd P i
theorem mix_step {w : World} {g t L P2 P a : Nat} {v : Int} (h : w.rowIs g t L (fun j => .int .u32 (mix P2 P a j : Nat))) (hv : v = (wd P2 a : Nat)) :
    (w.setCell ⟨g, a, none⟩ (.int .u32 v)).rowIs g t L (fun j => .int .u32 (mix P2 P (a + 1) j : Nat)) :=
  set_row (h := mix P2 P (a + 1)) h (by rw [hv]; unfold mix; rw [if_pos (by omega)]) (fun j hj => by
    unfold mix
    by_cases h1 : j < a
    · rw [if_pos h1, if_pos (by omega)]
    · rw [if_neg h1, if_neg (by omega)])

/-- Only block g, and what is new, has turned. -/
structure Only (g : Nat) (w w' : World) : Prop where
  os : w'.os = w.os
  tape : w'.tape = w.tape
  output : w'.output = w.output
  size : w.heap.size ≤ w'.heap.size
  block : ∀ k, k < w.heap.size → k ≠ g → w'.heap[k]? = w.heap[k]?
theorem Only.refl (g : Nat) (w : World) : Only g w w := ⟨rfl, rfl, rfl, Nat.le_refl _, fun _ _ _ => rfl⟩
theorem Only.trans {g : Nat} {a b c : World} (h : Only g a b) (k : Only g b c) : Only g a c :=
  ⟨k.os.trans h.os, k.tape.trans h.tape, k.output.trans h.output, Nat.le_trans h.size k.size, fun i hi hn => (k.block i (Nat.lt_of_lt_of_le hi h.size) hn).trans (h.block i hi hn)⟩
theorem Only.drewN {g : Nat} {a b : World} (h : Only g a b) (n : Nat) : Only g a (b.drewN n) := ⟨h.os, h.tape, h.output, h.size, h.block⟩
theorem Only.drew {g : Nat} {a b : World} (h : Only g a b) : Only g a b.drew := ⟨h.os, h.tape, h.output, h.size, h.block⟩
theorem Only.set {g : Nat} {a b : World} (h : Only g a b) (o : Nat) (u : Value) : Only g a (b.setCell ⟨g, o, none⟩ u) :=
  h.trans ⟨rfl, rfl, rfl, by simp [World.setCell], fun i _ hn => Below.heap_setCell _ _ _ _ hn⟩
theorem Only.below {g B : Nat} {a w w' : World} (h : Below B a w) (k : Only g w w') (hB : B ≤ w.heap.size) (hg : B ≤ g) : Below B a w' :=
  h.trans ⟨k.os, k.tape, k.output, k.size, fun i hi => k.block i (by omega) (by omega)⟩
theorem Only.cell {g : Nat} {w w' : World} (h : Only g w w') {b o : Nat} (hb : b < w.heap.size) (hn : b ≠ g) : w'.cell? ⟨b, o, none⟩ = w.cell? ⟨b, o, none⟩ :=
  World.cell?_of_block (w := w) (a := ⟨b, o, none⟩) (h.block b hb hn)
theorem Only.words {g : Nat} {w w' : World} (h : Only g w w') {b o n N : Nat} (hb : b < w.heap.size) (hn : b ≠ g) (hw : Words w b o n N) : Words w' b o n N :=
  fun j hj => (h.cell hb hn).trans (hw j hj)
theorem Only.row {g : Nat} {w w' : World} (h : Only g w w') {b t n : Nat} {f : Nat → Value} (hn : b ≠ g) (hw : w.rowIs b t n f) : w'.rowIs b t n f :=
  hw.of_block (h.block b hw.lt hn)
theorem carryM_end {c d y m : Nat} (hc : c < B32 ^ m) (hy : y < B32 ^ m) : carryM c d y m = (c + d * y) / B32 ^ m := by
  unfold carryM; rw [Nat.mod_eq_of_lt hc, Nat.mod_eq_of_lt hy]
theorem end_lt {c d y m : Nat} (hc : c < B32 ^ m) (hy : y < B32 ^ m) (hd : d < 4294967296) : c + d * y < B32 ^ (m + 1) := by
  have h := b32_pos m
  have h3 := Nat.mul_le_mul (show d ≤ 4294967295 by omega) (show y ≤ B32 ^ m - 1 by omega)
  have e : B32 ^ (m + 1) = 4294967295 * B32 ^ m + B32 ^ m := by rw [Nat.pow_succ, b32_eq]; omega
  rw [Nat.mul_sub] at h3
  have h4 : 4294967295 ≤ 4294967295 * B32 ^ m := Nat.le_mul_of_pos_right _ h
  omega

set_option maxHeartbeats 400000 in
set_option maxRecDepth 20000 in
theorem addRow_any (g o n c gy oy m cy d L P Y : Nat) (w : World) (tt : Nat) (hm : m + 1 ≤ n) (hn : n ≤ c) (hc : c ≤ 1000) (hmy : m ≤ cy) (hcy : cy ≤ 1000) (ho : o + n ≤ L) (hL : L ≤ 1000) (hd : d < 4294967296)
    (hP : P < B32 ^ (o + m)) (hY : Y < B32 ^ m) (hrow : w.rowIs g tt L (fun j => .int .u32 (wd P j : Nat))) (hne : gy ≠ g) (hgy : gy < w.heap.size) (hyy : Words w gy oy m Y) :
    Calls Tryz.prog 57 #[.slice (some ⟨g, o, none⟩) n c, .slice (some ⟨gy, oy, none⟩) m cy, .int .u32 d] w fun e w' => e = .returned (.tuple #[]) ∧ w'.rowIs g tt L (fun j => .int .u32 (wd (P + d * Y * B32 ^ o) j : Nat)) ∧ Only g w w' := by
  have HY := Lib.hid hyy; clear hyy
  have HP := Lib.hid hP; clear hP
  have HYl := Lib.hid hY; clear hY
  have hrow0 : w.rowIs g tt L (fun j => .int .u32 (mix (P + d * Y * B32 ^ o) P (o + 0) j : Nat)) := hrow.congr fun j _ => by
    unfold mix
    split
    · rw [wd_add_low _ _ _ _ (by omega)]
    · rfl
  clear hrow
  have HR0 := Lib.hid hrow0; clear hrow0
  go_enter Tryz.func57, Tryz.ntmps57
  go_wp2
  go_loopw [6, 7, 10] (fun cr _ v wr => ∃ k : Nat, k ≤ m ∧ v = .int .i64 k ∧ cr = .int .u64 (carryM (P / B32 ^ o) d Y k : Nat) ∧ wr.rowIs g tt L (fun j => .int .u32 (mix (P + d * Y * B32 ^ o) P (o + k) j : Nat)) ∧ Only g w wr) (fun _ _ v _ => m - (intOf v).toNat)
  case atStart => exact ⟨0, by omega, rfl, by rw [carryM_zero]; rfl, HR0.out, Only.refl _ _⟩
  case round =>
    obtain ⟨k, hk, rfl, rfl, hrow, hbel⟩ := hrel
    have hcar := carryM_lt (P / B32 ^ o) d Y k hd
    by_cases hlt : k < m
    · have hst := mul_step (P / B32 ^ o) d Y k
      have hcell0 := hrow.cell (i := o + k) (by omega)
      have hmx : mix (P + d * Y * B32 ^ o) P (o + k) (o + k) = wd (P / B32 ^ o) k := by unfold mix; rw [if_neg (by omega), wd_shift]
      rw [hmx] at hcell0
      have hx := wd_lt (P / B32 ^ o) k
      have hy := wd_lt Y k
      have hsrc0 : wr.cell? ⟨gy, oy + k, none⟩ = some (.int .u32 (wd Y k : Nat)) := by
        rw [← HY.out k hlt]; exact hbel.cell hgy hne
      have hw2 : wd (P + d * Y * B32 ^ o) (o + k) = wd (P / B32 ^ o + d * Y) k := by rw [wd_shift, add_high]
      have hfr := hrow.frozen (o + k)
      have HM := Lib.hid hmx; clear hmx
      have HS := Lib.hid hst; clear hst
      have HW2 := Lib.hid hw2; clear hw2
      have HR := Lib.hid hrow; clear hrow
      obtain ⟨x, hxe⟩ : ∃ x, x = wd (P / B32 ^ o) k := ⟨_, rfl⟩
      obtain ⟨y, hye⟩ : ∃ y, y = wd Y k := ⟨_, rfl⟩
      obtain ⟨cr, hcre⟩ : ∃ q, q = carryM (P / B32 ^ o) d Y k := ⟨_, rfl⟩
      rw [← hxe] at hcell0 hx
      rw [← hye] at hsrc0 hy
      rw [← hcre] at hcar ⊢
      have HX := Lib.hid hxe; clear hxe
      have HYE := Lib.hid hye; clear hye
      have HCR := Lib.hid hcre; clear hcre
      have hmul : d * y ≤ 18446744065119617025 := Nat.mul_le_mul (show d ≤ 4294967295 by omega) (show y ≤ 4294967295 by omega)
      have i1 : (k : Int) < (n : Int) := by omega
      have i2 : (k : Int) < (m : Int) := by omega
      go_wp2
      go_quiet (fail)
      go_wp2
      go_roundw
      case rel =>
        have e := HS.out
        rw [← HX.out, ← HYE.out, ← HCR.out] at e
        exact ⟨k + 1, by omega, by go_num, int_eq (by rw [← e.2]; simp), mix_step (a := o + k) (HR.out : World.rowIs (wr.drewN nq) _ _ _ _) (by rw [HW2.out, ← e.1]; simp), (hbel.drewN nq).set _ _⟩
      case measure => simp [intOf]; omega
    · obtain rfl : k = m := by omega
      have hcell := hrow.cell (i := o + k) (by omega)
      have hfr := hrow.frozen (o + k)
      have hb := Nat.div_lt_of_lt_mul (m := P) (n := B32 ^ o) (k := B32 ^ k) (by rw [← Nat.pow_add]; exact HP.out)
      have hce := carryM_end (d := d) hb HYl.out
      have htop : carryM (P / B32 ^ o) d Y k = wd (P + d * Y * B32 ^ o) (o + k) := by
        rw [hce, wd_shift, add_high]
        unfold wd
        rw [Nat.mod_eq_of_lt]
        exact Nat.div_lt_of_lt_mul (by rw [← Nat.pow_succ]; exact end_lt hb HYl.out hd)
      have HT := Lib.hid htop; clear htop hce hb
      have HR := Lib.hid hrow; clear hrow
      have hfin : ∀ j, o + (k + 1) ≤ j → wd P j = wd (P + d * Y * B32 ^ o) j := by
        intro j hj
        have h1 : P < B32 ^ j := Nat.lt_of_lt_of_le HP.out (Nat.pow_le_pow_right (by decide) (by omega))
        have hb := Nat.div_lt_of_lt_mul (m := P) (n := B32 ^ o) (k := B32 ^ k) (by rw [← Nat.pow_add]; exact HP.out)
        have h2 := end_lt hb HYl.out hd
        obtain ⟨i, rfl⟩ : ∃ i, j = o + i := ⟨j - o, by omega⟩
        rw [wd_shift, wd_shift, add_high]
        have h3 : P / B32 ^ o < B32 ^ i := Nat.lt_of_lt_of_le hb (Nat.pow_le_pow_right (by decide) (by omega))
        have h4 := Nat.lt_of_lt_of_le h2 (Nat.pow_le_pow_right (show 0 < B32 by decide) (show k + 1 ≤ i by omega))
        unfold wd
        rw [Nat.div_eq_of_lt h3, Nat.div_eq_of_lt h4]
      have HF := Lib.hid hfin; clear hfin
      go_wp2
      go_end0
      refine ⟨rfl, ?_, hbel.set _ _⟩
      refine (mix_step (a := o + k) HR.out (by rw [← HT.out])).congr fun j _ => ?_
      unfold mix
      split
      · rfl
      · rw [HF.out j (by omega)]

/-- The number of the first i digits. -/
def lowW (n i : Nat) : Nat := n % B32 ^ i
theorem lowW_succ (n i : Nat) : lowW n (i + 1) = lowW n i + wd n i * B32 ^ i := by
  unfold lowW wd; rw [Nat.pow_succ, Nat.mod_mul, Nat.mul_comm (B32 ^ i)]
theorem lowW_lt (n i : Nat) : lowW n i < B32 ^ i := Nat.mod_lt _ (b32_pos i)
theorem lowW_zero (n : Nat) : lowW n 0 = 0 := by simp [lowW, Nat.mod_one]
theorem lowW_nd (n : Nat) : lowW n (nd n) = n := Nat.mod_eq_of_lt (nd_lt n)
theorem mul_lt_pow {a b i j : Nat} (ha : a < B32 ^ i) (hb : b < B32 ^ j) : a * b < B32 ^ (i + j) := by
  rw [Nat.pow_add]
  exact Nat.mul_lt_mul'' ha hb
theorem mul_round (x y i : Nat) : lowW x i * y + wd x i * y * B32 ^ i = lowW x (i + 1) * y := by
  rw [lowW_succ, Nat.add_mul, Nat.mul_right_comm]

theorem setCells_zero {g t n : Nat} {z : Value} : ∀ (m o : Nat) (w : World), w.rowIs g t n (fun _ => z) → (w.setCells g o (List.replicate m z)).rowIs g t n (fun _ => z) ∧ Only g w (w.setCells g o (List.replicate m z)) := by
  intro m
  induction m with
  | zero => intro o w h; exact ⟨h, Only.refl _ _⟩
  | succ m ih =>
    intro o w h
    have h1 : (w.setCell ⟨g, o, none⟩ z).rowIs g t n (fun _ => z) := (h.set o z).congr fun j _ => by
      show (if j = o then z else z) = z
      split <;> rfl
    have := ih (o + 1) _ h1
    exact ⟨this.1, ((Only.refl g w).set o z).trans this.2⟩
theorem run_clear_words {W : World} {g t n c ty : Nat} (h : W.rowIs g t n (fun _ => .int .u32 0)) (hn : 0 < n) :
    ∃ W', (Builtin.clear_ #[84] ty #[.slice (some ⟨g, 0, none⟩) n c]).run Tryz.prog W = .ok (.tuple #[]) W' ∧ W'.rowIs g t n (fun _ => .int .u32 0) ∧ Only g W W' := by
  have hr := setCells_zero n 0 W h
  refine ⟨_, Lib.run_clear_slice (P := Tryz.prog) W 84 86 ty (.int .u32 0) Tryz.underlying84 (fun _ => by kernel_rfl) rfl rfl g 0 n c hn ?_ ?_, hr⟩
  · intro j hj; rw [Nat.zero_add, h.cell hj]; rfl
  · intro j hj; exact h.frozen _

theorem words_of_row {w : World} {g t n L N : Nat} (h : w.rowIs g t L (fun j => .int .u32 (wd N j : Nat))) (hn : n ≤ L) : Words w g 0 n N :=
  fun j hj => by rw [Nat.zero_add]; exact h.cell (by omega)
theorem alloc_below {B : Nat} {a w : World} {o : Obj} (h : Below B a w) (hB : B ≤ w.heap.size) : Below B a (w.alloc o) := h.alloc hB o
set_option maxHeartbeats 400000 in
theorem mul_no (s t : ByteArray) (w : World) (h : ¬ (Can s ∧ Can t)) :
    Calls Tryz.prog 29 #[.string s, .string t] w fun e w' => e = .returned (.tuple #[.string (E 0), .int .i64 3]) ∧ w = w' := by
  by_cases hc : Can s
  · have hd : ¬ Can t := fun q => h ⟨hc, q⟩
    have HC := Lib.hid hc; clear hc h
    have HD := Lib.hid hd; clear hd
    go_enter Tryz.func29, Tryz.ntmps29
    go_wp2_with fail
    refine (valid_yes s _ HC.out).mono ?_; rintro e w' ⟨rfl, rfl⟩
    go_wp2_with fail
    refine (valid_no t _ HD.out).mono ?_; rintro e w' ⟨rfl, rfl⟩
    go_wp2
    go_ret2
    exact ⟨rfl, rfl⟩
  · have HC := Lib.hid hc; clear hc h
    go_enter Tryz.func29, Tryz.ntmps29
    go_wp2_with fail
    refine (valid_no s _ HC.out).mono ?_; rintro e w' ⟨rfl, rfl⟩
    go_wp2
    go_ret2
    exact ⟨rfl, rfl⟩

set_option maxHeartbeats 400000 in
set_option maxRecDepth 20000 in
theorem mul_yes (s t : ByteArray) (w : World) (hs : Can s) (ht : Can t) :
    Calls Tryz.prog 29 #[.string s, .string t] w fun e w' => e = .returned (okN (V s * V t)) ∧ Below w.heap.size w w' := by
  have h1 := hs.1
  have h2 := ht.1
  obtain ⟨mx, hmx⟩ : ∃ m, m = (s.size + 3) / 4 := ⟨_, rfl⟩
  obtain ⟨my, hmy⟩ : ∃ m, m = (t.size + 3) / 4 := ⟨_, rfl⟩
  have hx32 : mx ≤ 32 := by omega
  have hy32 : my ≤ 32 := by omega
  have hxn : nd (V s) = mx := by rw [hmx, nd_can hs]
  have hyn : nd (V t) = my := by rw [hmy, nd_can ht]
  have HS := Lib.hid hs; clear hs
  have HT := Lib.hid ht; clear ht
  have HX := Lib.hid hmx; clear hmx
  have HY := Lib.hid hmy; clear hmy
  have HXN := Lib.hid hxn; clear hxn
  have HYN := Lib.hid hyn; clear hyn
  go_enter Tryz.func29, Tryz.ntmps29
  go_wp2_with fail
  refine (valid_yes s _ HS.out).mono ?_; rintro e w' ⟨rfl, rfl⟩
  go_wp2_with fail
  refine (valid_yes t _ HT.out).mono ?_; rintro e w' ⟨rfl, rfl⟩
  go_wp2_with fail
  refine (load_any s _ (by omega)).mono ?_
  rintro e w1 ⟨rfl, hx, hb1⟩
  rw [← HX.out] at hx ⊢
  have HX1 := Lib.hid hx; clear hx
  go_wp2_with fail
  refine (load_any t _ (by omega)).mono ?_
  rintro e w2 ⟨rfl, hy, hb2⟩
  rw [← HY.out] at hy ⊢
  have HY1 := Lib.hid hy; clear hy
  go_wp2
  have hz64 : ∀ i, i < (Array.replicate 64 (Value.int .u32 0)).size → (Array.replicate 64 (Value.int .u32 0))[i]? = some (.int .u32 0) := fun i hi => by
    rw [Array.getElem?_replicate, if_pos (by simpa using hi)]
  have hr3 : (w2.alloc (.cells (Array.replicate 64 (.int .u32 0)) 87)).rowIs w2.heap.size 87 64 (fun _ => .int .u32 0) := World.rowIs_alloc w2 _ _ _ hz64
  have hb3 : Below w.heap.size w (w2.alloc (.cells (Array.replicate 64 (.int .u32 0)) 87)) := (hb1.trans (hb2.mono hb1.size)).alloc (Nat.le_trans hb1.size hb2.size) _
  have hb3x : Below w2.heap.size w2 (w2.alloc (.cells (Array.replicate 64 (.int .u32 0)) 87)) := (Below.refl _ _).alloc (Nat.le_refl _) _
  have hs3 : (w2.alloc (.cells (Array.replicate 64 (.int .u32 0)) 87)).heap.size = w2.heap.size + 1 := by simp
  have e64 : (Array.replicate 64 (Value.int .u32 0)) = #[.int .u32 0, .int .u32 0, .int .u32 0, .int .u32 0, .int .u32 0, .int .u32 0, .int .u32 0, .int .u32 0, .int .u32 0, .int .u32 0, .int .u32 0, .int .u32 0, .int .u32 0, .int .u32 0, .int .u32 0, .int .u32 0, .int .u32 0, .int .u32 0, .int .u32 0, .int .u32 0, .int .u32 0, .int .u32 0, .int .u32 0, .int .u32 0, .int .u32 0, .int .u32 0, .int .u32 0, .int .u32 0, .int .u32 0, .int .u32 0, .int .u32 0, .int .u32 0, .int .u32 0, .int .u32 0, .int .u32 0, .int .u32 0, .int .u32 0, .int .u32 0, .int .u32 0, .int .u32 0, .int .u32 0, .int .u32 0, .int .u32 0, .int .u32 0, .int .u32 0, .int .u32 0, .int .u32 0, .int .u32 0, .int .u32 0, .int .u32 0, .int .u32 0, .int .u32 0, .int .u32 0, .int .u32 0, .int .u32 0, .int .u32 0, .int .u32 0, .int .u32 0, .int .u32 0, .int .u32 0, .int .u32 0, .int .u32 0, .int .u32 0, .int .u32 0] := rfl
  rw [e64] at hr3 hb3 hs3 hb3x
  clear e64 hz64
  generalize w2.alloc _ = w3 at *
  obtain ⟨w4, hrun, hr4, ho4⟩ := run_clear_words (c := 64) (ty := 0) hr3 (by omega)
  rw [hrun]
  have hb4 : Below w.heap.size w w4 := ho4.below hb3 hb3.size (Nat.le_trans hb1.size hb2.size)
  have hxw : Words w4 w.heap.size 0 mx (V s) := by
    have h1 := words_of_row (HX1.out) (Nat.le_refl mx)
    have h2 : Words w2 w.heap.size 0 mx (V s) := h1.below hb2 HX1.out.lt
    have h3 : Words w3 w.heap.size 0 mx (V s) := fun j hj => (hb3x.cell (p := ⟨w.heap.size, 0 + j, none⟩) (Nat.lt_of_lt_of_le HX1.out.lt hb2.size)).trans (h2 j hj)
    exact ho4.words (by have := HX1.out.lt; have := hb2.size; have := hb3x.size; omega) (by have := HX1.out.lt; have := hb2.size; omega) h3
  have hyw : Words w4 w1.heap.size 0 my (V t) := by
    have h1 := words_of_row (HY1.out) (Nat.le_refl my)
    have h3 : Words w3 w1.heap.size 0 my (V t) := fun j hj => (hb3x.cell (p := ⟨w1.heap.size, 0 + j, none⟩) HY1.out.lt).trans (h1 j hj)
    exact ho4.words (by have := HY1.out.lt; have := hb3x.size; omega) (by have := HY1.out.lt; omega) h3
  have hxg : w.heap.size < w4.heap.size ∧ w.heap.size ≠ w2.heap.size := ⟨by have := HX1.out.lt; have := hb2.size; have := hb3x.size; have := ho4.size; omega, by have := HX1.out.lt; have := hb2.size; omega⟩
  have hyg : w1.heap.size < w4.heap.size ∧ w1.heap.size ≠ w2.heap.size := ⟨by have := HY1.out.lt; have := hb3x.size; have := ho4.size; omega, by have := HY1.out.lt; omega⟩
  have hcg : w2.heap.size < w4.heap.size := hr4.lt
  have hwc : w.heap.size ≤ w2.heap.size := Nat.le_trans hb1.size hb2.size
  have hw4 : w.heap.size ≤ w4.heap.size := hb4.size
  have HXW := Lib.hid hxw; clear hxw
  have HYW := Lib.hid hyw; clear hyw
  have HR4 := Lib.hid hr4; clear hr4
  clear hrun hb1 hb2 hb3 hb3x hs3 hr3 ho4 HX1 HY1
  have HXG := Lib.hid hxg; clear hxg
  have HYG := Lib.hid hyg; clear hyg
  generalize hgx : w.heap.size = gx at *
  have HGX := Lib.hid hgx; clear hgx
  generalize w1.heap.size = gy at *
  generalize w2.heap.size = gc at *
  go_wp2
  go_loopw [9, 25] (fun _ v wr => ∃ k : Nat, k ≤ mx ∧ v = .int .i64 k ∧ wr.rowIs gc 87 64 (fun j => .int .u32 (wd (lowW (V s) k * V t) j : Nat)) ∧ Only gc w4 wr) (fun _ v _ => mx - (intOf v).toNat)
  case atStart => exact ⟨0, by omega, rfl, HR4.out.congr (fun j _ => by rw [lowW_zero, Nat.zero_mul, wd_zero]; rfl), Only.refl _ _⟩
  case round =>
    obtain ⟨k, hk, rfl, hrow, ho⟩ := hrel
    by_cases hlt : k < mx
    · have hcell : wr.cell? ⟨gx, k, none⟩ = some (.int .u32 (wd (V s) k : Nat)) := by
        have := ho.words HXG.out.1 HXG.out.2 HXW.out k hlt
        rwa [Nat.zero_add] at this
      have hwl := wd_lt (V s) k
      have i1 : (k : Int) < (mx : Int) := by omega
      have i3 : (k : Int) ≤ 64 := by omega
      have i4 : ¬ (64 = k) := by omega
      have HR := Lib.hid hrow; clear hrow
      go_wp2
      refine wp_region_still_tail 7 (by kernel_rfl) (by kernel_rfl) ?_
      simp only [List.take_succ_cons, List.take_zero, List.drop_succ_cons, List.drop_zero]
      iterate 7 still_step
      refine wpStill_nil ?_
      change wpList _ _ _ _ _ wr.drew
      have HR2 : wr.drew.rowIs gc 87 64 (fun j => .int .u32 (wd (lowW (V s) k * V t) j : Nat)) := HR.out
      have ho2 : Only gc w4 wr.drew := ho.drew
      have hmr := mul_round (V s) (V t) k
      have HMR := Lib.hid hmr; clear hmr
      have hP : lowW (V s) k * V t < B32 ^ (k + my) := mul_lt_pow (lowW_lt _ _) (by rw [← HYN.out]; exact nd_lt _)
      have hYl : V t < B32 ^ my := by rw [← HYN.out]; exact nd_lt _
      have HP := Lib.hid hP; clear hP
      have HYl := Lib.hid hYl; clear hYl
      have HR2 := Lib.hid HR2
      have hyw2 := ho2.words HYG.out.1 HYG.out.2 HYW.out
      have hgy2 : gy < wr.drew.heap.size := Nat.lt_of_lt_of_le HYG.out.1 ho2.size
      have HYW2 := Lib.hid hyw2; clear hyw2
      have HGY := Lib.hid HYG.out.2
      generalize wr.drew = w5 at *
      go_wp2_with fail
      refine (addRow_any gc k (64 - k) (64 - k) gy 0 my my (wd (V s) k) 64 _ _ _ 87 (by omega) (by omega) (by omega) (by omega) (by omega) (by omega) (by omega) hwl HP.out HYl.out HR2.out HGY.out hgy2 HYW2.out).mono ?_
      rintro e w6 ⟨rfl, hr6, ho6⟩
      have hr6 : w6.rowIs gc 87 64 (fun j => .int .u32 (wd (lowW (V s) (k + 1) * V t) j : Nat)) := by rw [← HMR.out]; exact hr6
      have HR6 := Lib.hid hr6; clear hr6
      go_wp2
      go_roundw
      case rel => exact ⟨k + 1, by omega, by go_num, HR6.out, ho2.trans ho6⟩
      case measure => simp [intOf]; omega
    · obtain rfl : k = mx := by omega
      have hfin : lowW (V s) k = V s := by rw [← HXN.out]; exact lowW_nd _
      rw [hfin] at hrow
      have hN : V s * V t < B32 ^ (k + my) := mul_lt_pow (by rw [← HXN.out]; exact nd_lt _) (by rw [← HYN.out]; exact nd_lt _)
      have hsl : Sl wr (.slice (some ⟨gc, 0, none⟩) (k + my) 64) (k + my) (V s * V t) := ⟨_, 64, rfl, by omega, by omega, fun _ => ⟨gc, 0, rfl, hrow.lt, words_of_row hrow (by omega)⟩⟩
      have hbw : Below gx w wr := ho.below hb4 hw4 hwc
      have HN := Lib.hid hN; clear hN hfin
      have HSL := Lib.hid hsl; clear hsl hrow
      have j1 : (k : Int) + (my : Int) ≤ 64 := by omega
      have j2 : (0 : Int) ≤ (k : Int) + (my : Int) := by omega
      have j3 : ((k : Int) + (my : Int)).toNat = k + my := by omega
      go_wp2_with fail
      refine (store_any _ (k + my) (V s * V t) _ HN.out HSL.out).mono ?_
      rintro e w6 ⟨rfl, hb6⟩
      have hbf : Below gx w w6 := hbw.trans (hb6.mono (Nat.le_trans hw4 ho.size))
      by_cases hfit : V s * V t < Lim
      · rw [okN_yes hfit]
        have ho' := Lib.hid (okN_yes hfit)
        clear hfit
        go_wp2
        go_ret2
        exact ⟨ret_v ho'.out.symm, by rw [HGX.out]; exact hbf⟩
      · rw [okN_no hfit]
        have ho' := Lib.hid (okN_no hfit)
        clear hfit
        go_wp2
        go_ret2
        exact ⟨ret_v ho'.out.symm, by rw [HGX.out]; exact hbf⟩
end Go.Proofs.YtogmgfdihmacpaaGreatDoor


/-
  Contracts of package natural, the seventh part: divideByDigit, shiftLeft, shiftRight.
-/
namespace Go.Proofs.YtogmgfdihmacpaaGreatDoor
open Go.RowKit
set_option linter.unusedVariables false

theorem hi_step (n j : Nat) : n / B32 ^ j = n / B32 ^ (j + 1) * B32 + wd n j := by
  unfold wd
  rw [Nat.pow_succ, ← Nat.div_div_eq_div_mul]
  have := Nat.div_add_mod (n / B32 ^ j) B32
  rw [Nat.mul_comm] at this
  exact this.symm
/-- One step of the division by a digit. -/
theorem digit_step (n j dg : Nat) (hd : 0 < dg) (hd2 : dg < 4294967296) :
    (n / B32 ^ (j + 1) % dg * 4294967296 + wd n j) / dg = wd (n / dg) j ∧ (n / B32 ^ (j + 1) % dg * 4294967296 + wd n j) % dg = n / B32 ^ j % dg := by
  have hB : (4294967296 : Nat) = B32 := rfl
  have hw : wd n j < B32 := wd_lt n j
  rw [hB] at *
  have h1 := hi_step n j
  have hq := Nat.div_add_mod (n / B32 ^ (j + 1)) dg
  generalize n / B32 ^ (j + 1) = m at *
  have hr := Nat.mod_lt m hd
  have hm : m * B32 + wd n j = dg * (m / dg * B32) + (m % dg * B32 + wd n j) := by
    conv => lhs; rw [← hq]
    rw [Nat.add_mul, Nat.mul_assoc]; omega
  constructor
  · have e : wd (n / dg) j = n / B32 ^ j / dg % B32 := by
      unfold wd; rw [Nat.div_div_eq_div_mul, Nat.div_div_eq_div_mul, Nat.mul_comm]
    have hlt : (m % dg * B32 + wd n j) / dg < B32 := by
      apply Nat.div_lt_of_lt_mul
      have := Nat.mul_le_mul_right B32 (show m % dg + 1 ≤ dg from hr)
      rw [Nat.add_mul] at this; omega
    rw [e, h1, hm, Nat.mul_add_div hd, Nat.mul_comm (m / dg), Nat.mul_add_mod, Nat.mod_eq_of_lt hlt]
  · rw [h1, hm, Nat.mul_add_mod]

theorem u64_shl_or (r a : Nat) (h : r < 4294967296) (ha : a < 4294967296) : bits .or .u64 ((r : Int) * 4294967296) (a : Int) = ((r * 4294967296 + a : Nat) : Int) := by
  have h1 := u64_or_nat (r * 4294967296) a (by omega) (by omega)
  rw [show (4294967296 : Nat) = 2 ^ 32 from rfl, or_add 32 r a (by omega)] at h1
  simpa using h1

/-- Block g has L cells, the first n of which are the digits of N. -/
def Row (w : World) (g tt L n N : Nat) : Prop := ∃ f : Nat → Nat, w.rowIs g tt L (fun j => .int .u32 (f j : Nat)) ∧ ∀ j, j < n → f j = wd N j
theorem Row.words {w : World} {g tt L n N : Nat} (h : Row w g tt L n N) (hn : n ≤ L) : Words w g 0 n N := by
  obtain ⟨f, hr, hf⟩ := h
  intro j hj
  rw [Nat.zero_add, hr.cell (by omega), hf j hj]
theorem Row.lt {w : World} {g tt L n N : Nat} (h : Row w g tt L n N) : g < w.heap.size := by
  obtain ⟨f, hr, hf⟩ := h; exact hr.lt
theorem Row.of {w : World} {g tt L n N : Nat} (h : w.rowIs g tt L (fun j => .int .u32 (wd N j : Nat))) : Row w g tt L n N := ⟨_, h, fun _ _ => rfl⟩
/-- The digits below place a are those of N, the ones from there to n those of Q. -/
def Split (w : World) (g tt L n a N Q : Nat) : Prop := ∃ f : Nat → Nat, w.rowIs g tt L (fun j => .int .u32 (f j : Nat)) ∧ (∀ j, j < a → f j = wd N j) ∧ ∀ j, a ≤ j → j < n → f j = wd Q j
theorem Split.step {w : World} {g tt L n a N Q : Nat} {v : Int} (h : Split w g tt L n (a + 1) N Q) (hv : v = (wd Q a : Nat)) (ha : a < n) :
    Split (w.setCell ⟨g, a, none⟩ (.int .u32 v)) g tt L n a N Q := by
  obtain ⟨f, hr, h1, h2⟩ := h
  refine ⟨fun j => if j = a then wd Q a else f j, set_row (h := fun j => if j = a then wd Q a else f j) hr (by rw [hv]; simp) (fun j hj => by simp [hj]), fun j hj => ?_, fun j h3 h4 => ?_⟩
  · show (if j = a then _ else _) = _
    rw [if_neg (by omega)]; exact h1 j (by omega)
  · show (if j = a then _ else _) = _
    by_cases e : j = a
    · rw [if_pos e, e]
    · rw [if_neg e]; exact h2 j (by omega) h4

set_option maxHeartbeats 400000 in
set_option maxRecDepth 20000 in
theorem divideByDigit_any (g n c dg L tt N : Nat) (w : World) (hn : n ≤ c) (hc : c ≤ 1000) (hL : n ≤ L) (hd0 : 0 < dg) (hd : dg < 4294967296)
    (hrow : Row w g tt L n N) (hN : N < B32 ^ n) :
    Calls Tryz.prog 110 #[.slice (some ⟨g, 0, none⟩) n c, .int .u32 dg] w fun e w' => e = .returned (.int .u32 (N % dg : Nat)) ∧ Row w' g tt L n (N / dg) ∧ Only g w w' := by
  have hsp : Split w g tt L n (n - 0) N (N / dg) := by
    obtain ⟨f, h1, h2⟩ := hrow
    exact ⟨f, h1, fun j hj => h2 j (by omega), fun j h3 h4 => by omega⟩
  have HR0 := Lib.hid hsp; clear hrow hsp
  have HN := Lib.hid hN; clear hN
  have hnz : ((dg : Int) == 0) = false := by rw [beq_eq_false_iff_ne]; omega
  go_enter Tryz.func110, Tryz.ntmps110
  go_wp2
  go_loopw [5, 6, 7, 10] (fun r _ _ v wr => ∃ k : Nat, k ≤ n ∧ v = .int .i64 k ∧ r = .int .u64 (N / B32 ^ (n - k) % dg : Nat) ∧ Split wr g tt L n (n - k) N (N / dg) ∧ Only g w wr) (fun _ _ _ v _ => n - (intOf v).toNat)
  case atStart => exact ⟨0, by omega, rfl, by rw [Nat.sub_zero, Nat.div_eq_of_lt HN.out]; rw [Nat.zero_mod]; rfl, HR0.out, Only.refl _ _⟩
  case round =>
    obtain ⟨k, hk, rfl, rfl, hsp, ho⟩ := hrel
    by_cases hlt : k < n
    · obtain ⟨j, hj⟩ : ∃ j, n - k = j + 1 := ⟨n - k - 1, by omega⟩
      have hjn : j = n - 1 - k := by omega
      rw [hj] at hsp ⊢
      have hcell : wr.cell? ⟨g, n - 1 - k, none⟩ = some (.int .u32 (wd N j : Nat)) := by
        obtain ⟨f, h1, h2, _⟩ := hsp
        rw [h1.cell (i := n - 1 - k) (by omega), ← hjn, h2 j (by omega)]
      have hfr : wr.frozen? ⟨g, n - 1 - k, none⟩ = false := by
        obtain ⟨f, h1, _⟩ := hsp
        exact h1.frozen _
      have hst := digit_step N j dg hd0 hd
      have hwl := wd_lt N j
      have hrl : N / B32 ^ (j + 1) % dg < 4294967296 := Nat.lt_of_lt_of_le (Nat.mod_lt _ hd0) (by omega)
      have hql : wd (N / dg) j < 4294967296 := wd_lt _ _
      obtain ⟨r, hr⟩ : ∃ r, r = N / B32 ^ (j + 1) % dg := ⟨_, rfl⟩
      rw [← hr] at hst hrl ⊢
      obtain ⟨x, hx⟩ : ∃ x, x = wd N j := ⟨_, rfl⟩
      rw [← hx] at hst hwl hcell
      have hor := u64_shl_or r x hrl hwl
      have HST := Lib.hid hst; clear hst
      have HR := Lib.hid hsp; clear hsp
      have HJ := Lib.hid hj; clear hj
      have HJN := Lib.hid hjn; clear hjn
      have HRE := Lib.hid hr; clear hr
      have HXE := Lib.hid hx; clear hx
      go_wp2
      have hst := HST.out
      have hj1 : n - (k + 1) = j := by have := HJ.out; omega
      go_roundw
      case rel =>
        refine ⟨k + 1, by omega, by go_num, int_eq ?_, ?_, ho.set _ _⟩
        · rw [hj1, ← hst.2]; simp
        · rw [hj1]
          have e := HR.out.step (v := ((r : Int) * 4294967296 + (x : Int)) / (dg : Int) % 4294967296) (by
            rw [← hst.1]
            have h5 : (((r * 4294967296 + x) / dg : Nat) : Int) = ((r : Int) * 4294967296 + (x : Int)) / (dg : Int) := by simp
            have h6 : (r * 4294967296 + x) / dg < 4294967296 := by rw [hst.1]; exact hql
            omega) (by omega)
          rw [HJN.out] at e ⊢
          exact e
      case measure => simp [intOf]; omega
    · obtain rfl : k = n := by omega
      have hm : N / B32 ^ (k - k) % dg < 4294967296 := Nat.lt_of_lt_of_le (Nat.mod_lt _ hd0) (by omega)
      have he : N / B32 ^ (k - k) % dg = N % dg := by simp
      rw [he] at hm ⊢
      have HSP := Lib.hid hsp; clear hsp he
      go_wp2
      go_ret
      refine ⟨rfl, ?_, ho⟩
      obtain ⟨f, h1, _, h3⟩ := HSP.out
      exact ⟨f, h1, fun j hj => h3 j (by omega) hj⟩

/-! ### shiftLeft -/
/-- One step: the digits of (N mod B^i) 2^s. -/
theorem shl_step (n i s : Nat) (hs : s < 32) :
    wd (lowW n i * 2 ^ s) i < 2 ^ s ∧ wd (lowW n (i + 1) * 2 ^ s) i = (wd n i * 2 ^ s % 4294967296) + wd (lowW n i * 2 ^ s) i ∧ (wd n i * 2 ^ s % 4294967296) % 2 ^ s = 0 ∧
      wd (lowW n (i + 1) * 2 ^ s) (i + 1) = wd n i * 2 ^ s / 4294967296 ∧ (∀ j, j < i → wd (lowW n (i + 1) * 2 ^ s) j = wd (lowW n i * 2 ^ s) j) ∧ (∀ j, i + 1 < j → wd (lowW n (i + 1) * 2 ^ s) j = wd (lowW n i * 2 ^ s) j) := by
  have hB : (4294967296 : Nat) = B32 := rfl
  have hS : 0 < 2 ^ s := Nat.pow_pos (by omega)
  have hSB : 2 ^ s * 2 ^ (32 - s) = B32 := by rw [← Nat.pow_add, show s + (32 - s) = 32 by omega]; rfl
  have h2 : 2 ≤ 2 ^ (32 - s) := by
    have : 2 ^ 1 ≤ 2 ^ (32 - s) := Nat.pow_le_pow_right (by omega) (by omega)
    simpa using this
  rw [hB]
  have hl := lowW_lt n i
  have hd : wd n i < B32 := wd_lt n i
  have hsucc := lowW_succ n i
  have hp := b32_pos i
  generalize 2 ^ s = S at *
  generalize 2 ^ (32 - s) = T at *
  have hlS : lowW n i * S / B32 ^ i < S := Nat.div_lt_of_lt_mul (Nat.mul_lt_mul_of_pos_right hl hS)
  have hSle : S ≤ B32 := by rw [← hSB]; exact Nat.le_mul_of_pos_right _ (by omega)
  have hw : wd (lowW n i * S) i = lowW n i * S / B32 ^ i := by unfold wd; rw [Nat.mod_eq_of_lt (by omega)]
  have hnew : lowW n (i + 1) * S = lowW n i * S + wd n i * S * B32 ^ i := by rw [hsucc, Nat.add_mul, Nat.mul_right_comm]
  have hdiv : lowW n (i + 1) * S / B32 ^ i = wd n i * S + lowW n i * S / B32 ^ i := by rw [hnew, add_high, Nat.add_comm]
  have hmul : wd n i * S % B32 % S = 0 := by rw [← hSB, Nat.mod_mul_right_mod, Nat.mul_mod_left]
  have hle : wd n i * S % B32 + S ≤ B32 := by
    have hlt : wd n i * S % B32 < B32 := Nat.mod_lt _ (by decide)
    obtain ⟨q, hq⟩ := Nat.dvd_of_mod_eq_zero hmul
    rw [hq] at hlt ⊢
    rw [← hSB] at hlt ⊢
    have : q < T := Nat.lt_of_mul_lt_mul_left hlt
    rw [← Nat.mul_succ]
    exact Nat.mul_le_mul_left _ this
  have hdm := Nat.div_add_mod (wd n i * S) B32
  refine ⟨by rw [hw]; exact hlS, ?_, hmul, ?_, ?_, ?_⟩
  · rw [hw]
    unfold wd
    rw [hdiv]
    unfold wd at hdm hle ⊢
    conv => lhs; rw [← hdm]
    rw [Nat.add_assoc, Nat.mul_add_mod, Nat.mod_eq_of_lt (by omega)]
  · have : lowW n (i + 1) * S / B32 ^ (i + 1) = wd n i * S / B32 := by
      rw [Nat.pow_succ, ← Nat.div_div_eq_div_mul, hdiv]
      have hz : (wd n i * S % B32 + lowW n i * S / B32 ^ i) / B32 = 0 := Nat.div_eq_of_lt (by omega)
      conv => lhs; rw [← hdm]
      rw [Nat.add_assoc, Nat.mul_add_div (by decide), hz, Nat.add_zero]
    show lowW n (i + 1) * S / B32 ^ (i + 1) % B32 = _
    rw [this]
    apply Nat.mod_eq_of_lt
    apply Nat.div_lt_of_lt_mul
    exact Nat.lt_of_lt_of_le (Nat.mul_lt_mul_of_pos_right hd hS) (Nat.mul_le_mul_left _ hSle)
  · intro j hj
    rw [hnew, wd_add_low _ _ _ _ hj]
  · intro j hj
    have h1 : lowW n (i + 1) * S < B32 ^ j := by
      have := Nat.mul_lt_mul'' (lowW_lt n (i + 1)) (Nat.lt_succ_of_le hSle)
      have h3 : lowW n (i + 1) * S < B32 ^ (i + 1) * B32 := Nat.lt_of_lt_of_le (Nat.mul_lt_mul_of_pos_right (lowW_lt n (i + 1)) hS) (Nat.mul_le_mul_left _ hSle)
      rw [← Nat.pow_succ] at h3
      exact Nat.lt_of_lt_of_le h3 (Nat.pow_le_pow_right (by decide) (by omega))
    have h2 : lowW n i * S < B32 ^ j := Nat.lt_of_le_of_lt (by rw [hnew]; omega) h1
    unfold wd
    rw [Nat.div_eq_of_lt h1, Nat.div_eq_of_lt h2]

theorem shl_pow_lt (n m s : Nat) (hn : n < B32 ^ m) (hs : s < 32) : n * 2 ^ s < B32 ^ (m + 1) := by
  rw [Nat.pow_succ]
  have : 2 ^ s < B32 := by rw [show B32 = 2 ^ 32 from rfl]; exact Nat.pow_lt_pow_right (by omega) hs
  exact Nat.mul_lt_mul'' hn this
theorem low_eq_self {n m : Nat} (h : n < B32 ^ m) : lowW n m = n := Nat.mod_eq_of_lt h
theorem u32_or_add (s a b : Nat) (hs : s < 32) (ha : a < 4294967296) (hm : a % 2 ^ s = 0) (hb : b < 2 ^ s) : bits .or .u32 (b : Int) (a : Int) = ((a + b : Nat) : Int) := by
  have hb2 : b < 4294967296 := Nat.lt_of_lt_of_le hb (by
    have : 2 ^ s ≤ 2 ^ 32 := Nat.pow_le_pow_right (by omega) (by omega)
    simpa using this)
  rw [u32_or_nat _ _ hb2 ha, Nat.or_comm]
  obtain ⟨q, rfl⟩ := Nat.dvd_of_mod_eq_zero hm
  rw [Nat.mul_comm, or_add s q b hb]

set_option maxHeartbeats 400000 in
set_option maxRecDepth 20000 in
theorem shiftLeft_any (g o n c s N : Nat) (w : World) (hn : n ≤ c) (hc : c ≤ 1000) (hs : s < 32) (hg : g < w.heap.size) (hw : Words w g o n N) (hN : N < B32 ^ n) :
    Calls Tryz.prog 135 #[.slice (some ⟨g, o, none⟩) n c, .int .i64 s] w fun e w' => e = .returned (.slice (some ⟨w.heap.size, 0, none⟩) (n + 1) (n + 1)) ∧
      w'.rowIs w.heap.size 86 (n + 1) (fun j => .int .u32 (wd (N * 2 ^ s) j : Nat)) ∧ Below w.heap.size w w' := by
  have hmk := run_make_words1 n (by omega)
  have HW := Lib.hid hw; clear hw
  have HN := Lib.hid hN; clear hN
  obtain ⟨S, hS⟩ : ∃ S, S = 2 ^ s := ⟨_, rfl⟩
  have hS2 : (2 : Int) ^ s = (S : Int) := by rw [hS]; simp
  have hS0 : 0 < S := by rw [hS]; exact Nat.pow_pos (by omega)
  have hSl : S ≤ 2147483648 := by
    rw [hS]
    have : 2 ^ s ≤ 2 ^ 31 := Nat.pow_le_pow_right (by omega) (by omega)
    simpa using this
  have HS := Lib.hid hS; clear hS
  rw [← HS.out]
  go_enter Tryz.func135, Tryz.ntmps135
  go_wp2
  go_loopw [6, 7, 14] (fun _ _ v wr => ∃ k : Nat, k ≤ n ∧ v = .int .i64 k ∧ wr.rowIs w.heap.size 86 (n + 1) (fun j => .int .u32 (wd (lowW N k * S) j : Nat)) ∧ Below w.heap.size w wr) (fun _ _ v _ => n - (intOf v).toNat)
  case atStart => exact ⟨0, by omega, rfl, (World.rowIs_made w (.int .u32 0) (n + 1) _).congr (fun j _ => by rw [lowW_zero, Nat.zero_mul, wd_zero]; rfl), (Below.refl _ _).alloc (Nat.le_refl _) _⟩
  case round =>
    obtain ⟨k, hk, rfl, hrow, hbel⟩ := hrel
    by_cases hlt : k < n
    · have hsrc : wr.cell? ⟨g, o + k, none⟩ = some (.int .u32 (wd N k : Nat)) := (hbel.cell (p := ⟨g, o + k, none⟩) hg).trans (HW.out k hlt)
      have hst := shl_step N k s hs
      rw [← HS.out] at hst
      have hcell := hrow.cell (i := k) (by omega)
      have hcell2 := hrow.cell (i := k + 1) (by omega)
      have hfr := hrow.frozen k
      have hfr2 := hrow.frozen (k + 1)
      have hwl := wd_lt N k
      have hmul : wd N k * S ≤ 9223372034707292160 := Nat.mul_le_mul (show wd N k ≤ 4294967295 by omega) hSl
      have hwl2 := wd_lt (lowW N k * S) k
      obtain ⟨x, hx⟩ : ∃ x, x = wd N k := ⟨_, rfl⟩
      obtain ⟨y, hy⟩ : ∃ y, y = wd (lowW N k * S) k := ⟨_, rfl⟩
      rw [← hx] at hst hwl hsrc hmul
      rw [← hy] at hst hcell hwl2
      have hor := u32_or_add s (x * S % 4294967296) y hs (Nat.mod_lt _ (by omega)) (by rw [← HS.out]; exact hst.2.2.1) (by rw [← HS.out]; exact hst.1)
      have hlo : x * S % 4294967296 + y < 4294967296 := by rw [← hst.2.1]; exact wd_lt _ _
      have HOR := Lib.hid hor; clear hor
      have HST := Lib.hid hst; clear hst
      have HX := Lib.hid hx; clear hx
      have HY := Lib.hid hy; clear hy
      have HR := Lib.hid hrow; clear hrow
      go_wp2
      go_roundw
      case rel =>
        have e := HST.out
        have r1 := set_row (v := bits BinOp.or IntKind.u32 (y : Int) ((x : Int) * (S : Int) % 4294967296)) (h := fun j => if j = k then x * S % 4294967296 + y else wd (lowW N k * S) j) HR.out (i := k) (by
          show _ = ((if k = k then _ else _ : Nat) : Int)
          rw [if_pos rfl, ← HOR.out]; simp) (fun j hj => by show (if j = k then _ else _) = _; rw [if_neg hj])
        have r2 := set_row (v := (x : Int) * (S : Int) / 4294967296) (h := fun j => wd (lowW N (k + 1) * S) j) r1 (i := k + 1) (by
          show _ = ((wd (lowW N (k + 1) * S) (k + 1) : Nat) : Int)
          rw [e.2.2.2.1]; simp) (fun j hj => by
            show wd (lowW N (k + 1) * S) j = if j = k then _ else _
            by_cases h1 : j = k
            · rw [if_pos h1, h1, e.2.1]
            · rw [if_neg h1]
              rcases Nat.lt_or_ge j k with h2 | h2
              · exact e.2.2.2.2.1 j h2
              · exact e.2.2.2.2.2 j (by omega))
        exact ⟨k + 1, by omega, by go_num, r2, (hbel.setCell (Nat.le_refl _) _).setCell (Nat.le_refl _) _⟩
      case measure => simp [intOf]; omega
    · obtain rfl : k = n := by omega
      rw [low_eq_self HN.out] at hrow
      have HR := Lib.hid hrow; clear hrow
      go_wp2
      go_ret
      exact ⟨rfl, HR.out, hbel⟩

/-! ### shiftRight -/
theorem shr_step (n i s : Nat) (hs : s < 32) : (wd n (i + 1) * 4294967296 + wd n i) / 2 ^ s % 4294967296 = wd (n / 2 ^ s) i := by
  have hB : (4294967296 : Nat) = B32 := rfl
  have hS : 0 < 2 ^ s := Nat.pow_pos (by omega)
  have hSB : 2 ^ s * 2 ^ (32 - s) = B32 := by rw [← Nat.pow_add, show s + (32 - s) = 32 by omega]; rfl
  rw [hB]
  have e : wd (n / 2 ^ s) i = n / B32 ^ i / 2 ^ s % B32 := by
    unfold wd; rw [Nat.div_div_eq_div_mul, Nat.div_div_eq_div_mul, Nat.mul_comm]
  rw [e, hi_step n i, hi_step n (i + 1)]
  generalize 2 ^ s = S at *
  generalize 2 ^ (32 - s) = T at *
  have e2 : (n / B32 ^ (i + 1 + 1) * B32 + wd n (i + 1)) * B32 + wd n i = S * (B32 * (T * (n / B32 ^ (i + 1 + 1)))) + (wd n (i + 1) * B32 + wd n i) := by
    rw [Nat.add_mul, Nat.mul_left_comm S B32, ← Nat.mul_assoc S T, hSB, Nat.mul_comm (n / B32 ^ (i + 1 + 1)) B32, Nat.mul_comm _ B32, Nat.add_assoc]
  rw [e2, Nat.mul_add_div hS, Nat.mul_add_mod]

theorem mix_zero {w : World} {g t L Q : Nat} (h : w.rowIs g t L (fun _ => .int .u32 0)) : w.rowIs g t L (fun j => .int .u32 (mix Q 0 0 j : Nat)) :=
  h.congr fun j _ => by unfold mix; rw [if_neg (by omega), wd_zero]; rfl
theorem mix_full {w : World} {g t L Q : Nat} (h : w.rowIs g t L (fun j => .int .u32 (mix Q 0 L j : Nat))) : w.rowIs g t L (fun j => .int .u32 (wd Q j : Nat)) :=
  h.congr fun j hj => by unfold mix; rw [if_pos hj]

set_option maxHeartbeats 400000 in
set_option maxRecDepth 20000 in
theorem shiftRight_any (g o n c s N : Nat) (w : World) (hn : n ≤ c) (hc : c ≤ 1000) (hs : s < 32) (hg : g < w.heap.size) (hw : Words w g o n N) (hN : N < B32 ^ n) :
    Calls Tryz.prog 139 #[.slice (some ⟨g, o, none⟩) n c, .int .i64 s] w fun e w' => e = .returned (.slice (some ⟨w.heap.size, 0, none⟩) n n) ∧
      w'.rowIs w.heap.size 86 n (fun j => .int .u32 (wd (N / 2 ^ s) j : Nat)) ∧ Below w.heap.size w w' := by
  have hmk := run_make_words n (by omega)
  have HW := Lib.hid hw; clear hw
  have HN := Lib.hid hN; clear hN
  obtain ⟨S, hS⟩ : ∃ S, S = 2 ^ s := ⟨_, rfl⟩
  have hS2 : (2 : Int) ^ s = (S : Int) := by rw [hS]; simp
  have hS0 : 0 < S := by rw [hS]; exact Nat.pow_pos (by omega)
  have HS := Lib.hid hS; clear hS
  rw [← HS.out]
  go_enter Tryz.func139, Tryz.ntmps139
  go_wp2
  go_loopw [6, 7, 13] (fun _ _ v wr => ∃ k : Nat, k ≤ n ∧ v = .int .i64 k ∧ wr.rowIs w.heap.size 86 n (fun j => .int .u32 (mix (N / S) 0 k j : Nat)) ∧ Below w.heap.size w wr) (fun _ _ v _ => n - (intOf v).toNat)
  case atStart => exact ⟨0, by omega, rfl, mix_zero (World.rowIs_made w (.int .u32 0) n _), (Below.refl _ _).alloc (Nat.le_refl _) _⟩
  case round =>
    obtain ⟨k, hk, rfl, hrow, hbel⟩ := hrel
    by_cases hlt : k < n
    · have hsrc : wr.cell? ⟨g, o + k, none⟩ = some (.int .u32 (wd N k : Nat)) := (hbel.cell (p := ⟨g, o + k, none⟩) hg).trans (HW.out k hlt)
      have hst := shr_step N k s hs
      rw [← HS.out] at hst
      have hcell := hrow.cell (i := k) hlt
      have hfr := hrow.frozen k
      have hwl := wd_lt N k
      have hwl2 := wd_lt N (k + 1)
      by_cases hl : k + 1 < n
      · have hsrc2 : wr.cell? ⟨g, o + (k + 1), none⟩ = some (.int .u32 (wd N (k + 1) : Nat)) := (hbel.cell (p := ⟨g, o + (k + 1), none⟩) hg).trans (HW.out (k + 1) hl)
        obtain ⟨x, hx⟩ : ∃ x, x = wd N k := ⟨_, rfl⟩
        obtain ⟨y, hy⟩ : ∃ y, y = wd N (k + 1) := ⟨_, rfl⟩
        rw [← hx] at hst hwl hsrc
        rw [← hy] at hst hwl2 hsrc2
        have hor := u64_shl_or y x hwl2 hwl
        have hor2 : bits .or .u64 (x : Int) ((y : Int) * 4294967296) = ((y * 4294967296 + x : Nat) : Int) := by
          have h1 := u64_or_nat x (y * 4294967296) (by omega) (by omega)
          rw [Nat.or_comm, show (4294967296 : Nat) = 2 ^ 32 from rfl, or_add 32 y x (by omega)] at h1
          simpa using h1
        clear hor
        have HST := Lib.hid hst; clear hst
        have HX := Lib.hid hx; clear hx
        have HY := Lib.hid hy; clear hy
        have HR := Lib.hid hrow; clear hrow
        go_wp2
        go_roundw
        case rel => exact ⟨k + 1, by omega, by go_num, mix_step HR.out (by rw [← HST.out]; simp), hbel.setCell (Nat.le_refl _) _⟩
        case measure => simp [intOf]; omega
      · obtain rfl : n = k + 1 := by omega
        have hy : wd N (k + 1) = 0 := by
          unfold wd; rw [Nat.div_eq_of_lt HN.out]; rfl
        rw [hy, Nat.zero_mul, Nat.zero_add] at hst
        obtain ⟨x, hx⟩ : ∃ x, x = wd N k := ⟨_, rfl⟩
        rw [← hx] at hst hwl hsrc
        have HST := Lib.hid hst; clear hst
        have HX := Lib.hid hx; clear hx hy
        have HR := Lib.hid hrow; clear hrow
        go_wp2
        go_roundw
        case rel => exact ⟨k + 1, by omega, by go_num, mix_step HR.out (by rw [← HST.out]; simp), hbel.setCell (Nat.le_refl _) _⟩
        case measure => simp [intOf]
    · obtain rfl : k = n := by omega
      have HR := Lib.hid (mix_full hrow); clear hrow
      go_wp2
      go_ret
      exact ⟨rfl, HR.out, hbel⟩
end Go.Proofs.YtogmgfdihmacpaaGreatDoor


/-
  Contracts of package natural, the eighth part: the library's Add32 and Sub32; guess.
-/
namespace Go.Proofs.YtogmgfdihmacpaaGreatDoor
open Go.RowKit
set_option linter.unusedVariables false

set_option maxHeartbeats 400000 in
theorem add32_any (x y c : Nat) (w : World) (hx : x < 4294967296) (hy : y < 4294967296) (hc : c ≤ 1) :
    Calls Tryz.prog 156 #[.int .u32 x, .int .u32 y, .int .u32 c] w fun e w' => e = .returned (.tuple #[.int .u32 ((x + y + c) % 4294967296 : Nat), .int .u32 ((x + y + c) / 4294967296 : Nat)]) ∧ w = w' := by
  go_enter Tryz.func156, Tryz.ntmps156
  go_wp2
  go_ret2
  exact ⟨rfl, rfl⟩

/-- The borrow behind a digit. -/
def bout (x y b : Nat) : Nat := if x < y + b then 1 else 0
/-- The digit of a difference. -/
def bdig (x y b : Nat) : Nat := (x + 4294967296 - y + (4294967296 - b)) % 4294967296
theorem bdig_lt (x y b : Nat) : bdig x y b < 4294967296 := Nat.mod_lt _ (by omega)
theorem top_bit {v : Nat} (h : v < 4294967296) : v / 2147483648 = (v.testBit 31).toNat := by
  rw [Nat.testBit_eq_decide_div_mod_eq]
  have h2 : v / 2 ^ 31 < 2 := Nat.div_lt_of_lt_mul (by omega)
  have e : v / 2147483648 = v / 2 ^ 31 := rfl
  rw [e]
  generalize v / 2 ^ 31 = q at *
  have : q = 0 ∨ q = 1 := by omega
  rcases this with rfl | rfl <;> rfl
theorem bit31 {v : Nat} (h : v < 4294967296) : v.testBit 31 = decide (2147483648 ≤ v) := by
  rw [Nat.testBit_eq_decide_div_mod_eq]
  have h2 : v / 2 ^ 31 < 2 := Nat.div_lt_of_lt_mul (by omega)
  rw [Nat.mod_eq_of_lt h2]
  congr 1
  apply propext
  constructor
  · intro h3; omega
  · intro h3; omega
theorem sub_top (x y b : Nat) (hx : x < 4294967296) (hy : y < 4294967296) (hb : b ≤ 1) :
    ((4294967295 ^^^ x) &&& y ||| (4294967295 ^^^ (x ^^^ y)) &&& bdig x y b) / 2147483648 = bout x y b := by
  have hd := bdig_lt x y b
  have h1 : (4294967295 ^^^ x) &&& y < 2 ^ 32 := Nat.and_lt_two_pow _ (by omega)
  have h2 : (4294967295 ^^^ (x ^^^ y)) &&& bdig x y b < 2 ^ 32 := Nat.and_lt_two_pow _ (by omega)
  have h3 := Nat.or_lt_two_pow h1 h2
  rw [top_bit (by omega), Nat.testBit_or, Nat.testBit_and, Nat.testBit_and, Nat.testBit_xor, Nat.testBit_xor, Nat.testBit_xor, bit31 hx, bit31 hy, bit31 hd,
    show Nat.testBit 4294967295 31 = true from by decide +kernel]
  unfold bout bdig
  have e : x < y + b ∨ ¬ x < y + b := by omega
  by_cases a : 2147483648 ≤ x <;> by_cases c : 2147483648 ≤ y <;> by_cases d : 2147483648 ≤ (x + 4294967296 - y + (4294967296 - b)) % 4294967296 <;> rcases e with e | e <;> simp only [a, c, d, e, decide_true, decide_false, if_true, if_false] <;> first | rfl | (exfalso; omega)
theorem u32_max : IntKind.u32.max = (4294967295 : Nat) := by decide
theorem sub_bits (x y b : Nat) (hx : x < 4294967296) (hy : y < 4294967296) (hb : b ≤ 1) :
    bits .or .u32 (bits .and .u32 (bits .xor .u32 IntKind.u32.max x) y) (bits .and .u32 (bits .xor .u32 IntKind.u32.max (bits .xor .u32 x y)) (bdig x y b)) / 2147483648 = (bout x y b : Nat) := by
  have hd := bdig_lt x y b
  have h4 : x ^^^ y < 2 ^ 32 := Nat.xor_lt_two_pow (by omega) (by omega)
  have h5 : 4294967295 ^^^ x < 2 ^ 32 := Nat.xor_lt_two_pow (by omega) (by omega)
  have h6 : 4294967295 ^^^ (x ^^^ y) < 2 ^ 32 := Nat.xor_lt_two_pow (by omega) h4
  have h1 : (4294967295 ^^^ x) &&& y < 2 ^ 32 := Nat.and_lt_two_pow _ (by omega)
  have h2 : (4294967295 ^^^ (x ^^^ y)) &&& bdig x y b < 2 ^ 32 := Nat.and_lt_two_pow _ (by omega)
  rw [u32_max, u32_xor_nat _ _ (by omega) hx, u32_xor_nat _ _ hx hy, u32_xor_nat _ _ (by omega) (by omega), u32_and_nat _ _ (by omega) hy, u32_and_nat _ _ (by omega) hd, u32_or_nat _ _ (by omega) (by omega), ← sub_top x y b hx hy hb]
  simp
theorem bdig_int (x y b : Nat) (hx : x < 4294967296) (hy : y < 4294967296) (hb : b ≤ 1) : ((x : Int) - y - b) % 4294967296 = (bdig x y b : Nat) := by
  unfold bdig; omega

set_option maxHeartbeats 400000 in
theorem sub32_any (x y b : Nat) (w : World) (hx : x < 4294967296) (hy : y < 4294967296) (hb : b ≤ 1) :
    Calls Tryz.prog 155 #[.int .u32 x, .int .u32 y, .int .u32 b] w fun e w' => e = .returned (.tuple #[.int .u32 (bdig x y b : Nat), .int .u32 (bout x y b : Nat)]) ∧ w = w' := by
  have hsg : IntKind.u32.signed = false := rfl
  have h1 := Lib.hid (sub_bits x y b hx hy hb)
  have h2 := Lib.hid (bdig_int x y b hx hy hb)
  go_enter Tryz.func155, Tryz.ntmps155
  go_wp2
  go_ret2
  exact ⟨ret_two (int_eq (by rw [← h2.out]; omega)) (int_eq (by rw [← h1.out, ← h2.out])), rfl⟩

/-! ### guess -/
/-- What the loop of guess knows: q d1 + r is the two highest digits, and q is not less than the quotient. -/
structure Gs (D P d1 d2 p2 p q r top t : Nat) : Prop where
  eq : q * d1 + r = top
  lo : P / D ≤ q
  d1p : 1 ≤ d1
  d1l : d1 < B32
  d2l : d2 < B32
  p2l : p2 < B32
  Dl : (d1 * B32 + d2) * p ≤ D
  Dh : D < (d1 * B32 + d2 + 1) * p
  Pl : (top * B32 + p2) * p ≤ P
  Ph : P < (top * B32 + p2 + 1) * p
  toph : top < (d1 + 1) * B32
  D0 : 0 < D
  p0 : 0 < p

theorem Gs.down {D P d1 d2 p2 p q r top t : Nat} (h : Gs D P d1 d2 p2 p q r top t) (hPD : P < D * B32) (hc : B32 ≤ q ∨ r * B32 + p2 < q * d2) : P / D ≤ q - 1 ∧ 1 ≤ q := by
  have key : P / D < q := by
    rcases hc with hc | hc
    · exact Nat.lt_of_lt_of_le (Nat.div_lt_of_lt_mul hPD) hc
    · apply Nat.div_lt_of_lt_mul
      have e1 : top * B32 + p2 + 1 ≤ q * (d1 * B32 + d2) := by
        have : top * B32 = q * (d1 * B32) + r * B32 := by rw [← h.eq, Nat.add_mul, Nat.mul_assoc]
        rw [this, Nat.mul_add]; omega
      have e2 := Nat.mul_le_mul_right p e1
      have e3 := Nat.mul_le_mul_left q h.Dl
      have := h.Ph
      rw [← Nat.mul_assoc] at e3
      rw [Nat.mul_comm D q]
      omega
  generalize P / D = z at *
  omega

/-- The guess is right, or too large by 1. -/
theorem Gs.done {D P d1 d2 p2 p q r top t : Nat} (h : Gs D P d1 d2 p2 p q r top t) (hq : q ≤ B32) (hc : q * d2 ≤ r * B32 + p2) : q ≤ P / D + 1 := by
  rcases Nat.eq_zero_or_pos q with h0 | h0
  · rw [h0]; exact Nat.zero_le _
  have key : q - 1 ≤ P / D := by
    rw [Nat.le_div_iff_mul_le h.D0]
    have e1 : q * (d1 * B32 + d2) ≤ top * B32 + p2 := by
      have : top * B32 = q * (d1 * B32) + r * B32 := by rw [← h.eq, Nat.add_mul, Nat.mul_assoc]
      rw [this, Nat.mul_add]; omega
    have e2 : (q - 1) * (d1 * B32 + d2 + 1) ≤ top * B32 + p2 := by
      obtain ⟨k, rfl⟩ : ∃ k, q = k + 1 := ⟨q - 1, by omega⟩
      rw [Nat.add_mul, Nat.one_mul] at e1
      have hb : B32 ≤ d1 * B32 := Nat.le_mul_of_pos_left _ h.d1p
      rw [Nat.add_sub_cancel, Nat.mul_add k (d1 * B32 + d2) 1, Nat.mul_one]
      omega
    have e3 := Nat.mul_le_mul_right p e2
    have e4 := Nat.mul_le_mul_left (q - 1) (Nat.le_of_lt h.Dh)
    rw [← Nat.mul_assoc] at e4
    have := h.Pl
    omega
  generalize P / D = z at *
  omega

theorem Gs.next {D P d1 d2 p2 p q r top t : Nat} (h : Gs D P d1 d2 p2 p q r top t) (hl : P / D ≤ q - 1) (hq : 1 ≤ q) : Gs D P d1 d2 p2 p (q - 1) (r + d1) top t :=
  { h with
    eq := by
      obtain ⟨k, rfl⟩ : ∃ k, q = k + 1 := ⟨q - 1, by omega⟩
      have := h.eq
      rw [Nat.add_mul, Nat.one_mul] at this
      rw [Nat.add_sub_cancel]; omega
    lo := hl }

/-- When the rest has become too large, the guess is small enough. -/
theorem Gs.broke {D P d1 d2 p2 p q r top t : Nat} (h : Gs D P d1 d2 p2 p q r top t) (hr : B32 ≤ r) : q < B32 ∧ q ≤ P / D + 1 := by
  have h1 : q < B32 := by
    have h2 : q * d1 < B32 * d1 := by
      have e1 := h.eq
      have e2 := h.toph
      rw [Nat.add_mul, Nat.one_mul] at e2
      rw [Nat.mul_comm B32]; omega
    exact Nat.lt_of_mul_lt_mul_right h2
  refine ⟨h1, h.done (Nat.le_of_lt h1) ?_⟩
  have h3 : q * d2 ≤ B32 * B32 := Nat.mul_le_mul (Nat.le_of_lt h1) (Nat.le_of_lt h.d2l)
  have h4 := Nat.mul_le_mul_right B32 hr
  omega

theorem Gs.start {D P m : Nat} (hm : 2 ≤ m) (hD : D < B32 ^ m) (hP : P < D * B32) (h1 : 1 ≤ wd D (m - 1)) :
    Gs D P (wd D (m - 1)) (wd D (m - 2)) (wd P (m - 2)) (B32 ^ (m - 2)) ((wd P m * B32 + wd P (m - 1)) / wd D (m - 1)) ((wd P m * B32 + wd P (m - 1)) % wd D (m - 1)) (wd P m * B32 + wd P (m - 1)) 0 := by
  obtain ⟨k, rfl⟩ : ∃ k, m = k + 2 := ⟨m - 2, by omega⟩
  simp only [Nat.add_sub_cancel, show k + 2 - 1 = k + 1 by omega]
  rw [show k + 2 - 1 = k + 1 by omega] at h1
  have hp := b32_pos k
  have hPl : P < B32 ^ (k + 2 + 1) := by
    rw [Nat.pow_succ]
    exact Nat.lt_trans hP (Nat.mul_lt_mul_of_pos_right hD (by decide))
  have eD0 : D / B32 ^ (k + 2) = 0 := Nat.div_eq_of_lt hD
  have eD1 := hi_step D (k + 1)
  rw [show k + 1 + 1 = k + 2 by omega, eD0, Nat.zero_mul, Nat.zero_add] at eD1
  have eD2 := hi_step D k
  rw [eD1] at eD2
  have eP0 : P / B32 ^ (k + 2 + 1) = 0 := Nat.div_eq_of_lt hPl
  have eP1 := hi_step P (k + 2)
  rw [eP0, Nat.zero_mul, Nat.zero_add] at eP1
  have eP2 := hi_step P (k + 1)
  rw [show k + 1 + 1 = k + 2 by omega, eP1] at eP2
  have eP3 := hi_step P k
  rw [eP2] at eP3
  have b1 : wd D (k + 1) < B32 := wd_lt _ _
  have b2 : wd D k < B32 := wd_lt _ _
  have b3 : wd P k < B32 := wd_lt _ _
  have dD := Nat.div_add_mod D (B32 ^ k)
  have dP := Nat.div_add_mod P (B32 ^ k)
  have mD := Nat.mod_lt D hp
  have mP := Nat.mod_lt P hp
  rw [eD2] at dD
  rw [eP3] at dP
  have hD0 : 0 < D := by
    rcases Nat.eq_zero_or_pos D with e | e
    · rw [e, wd_zero] at h1; omega
    · exact e
  generalize wd D (k + 1) = d1 at *
  generalize wd D k = d2 at *
  generalize wd P k = p2 at *
  generalize wd P (k + 2) = x at *
  generalize wd P (k + 1) = y at *
  generalize hp' : B32 ^ k = p at *
  have hDl : (d1 * B32 + d2) * p ≤ D := by rw [Nat.mul_comm]; omega
  have hDh : D < (d1 * B32 + d2 + 1) * p := by rw [Nat.add_mul, Nat.mul_comm _ p]; omega
  have hPl2 : ((x * B32 + y) * B32 + p2) * p ≤ P := by rw [Nat.mul_comm]; omega
  have hPh : P < ((x * B32 + y) * B32 + p2 + 1) * p := by rw [Nat.add_mul, Nat.mul_comm _ p]; omega
  have htop : x * B32 + y < (d1 + 1) * B32 := by
    have t1 : (x * B32 + y) * B32 * p ≤ P := Nat.le_trans (Nat.mul_le_mul_right _ (Nat.le_add_right _ _)) hPl2
    have t2 : D * B32 < (d1 + 1) * B32 * B32 * p := by
      have : D < (d1 + 1) * B32 * p := Nat.lt_of_lt_of_le hDh (Nat.mul_le_mul_right _ (by rw [Nat.add_mul]; omega))
      have := Nat.mul_lt_mul_of_pos_right this (show 0 < B32 by decide)
      rwa [Nat.mul_right_comm ((d1 + 1) * B32) p B32] at this
    have t3 : (x * B32 + y) * B32 * p < (d1 + 1) * B32 * B32 * p := by omega
    exact Nat.lt_of_mul_lt_mul_right (Nat.lt_of_mul_lt_mul_right t3)
  refine ⟨?_, ?_, h1, b1, b2, b3, hDl, hDh, hPl2, hPh, htop, hD0, hp⟩
  · rw [Nat.mul_comm]; exact Nat.div_add_mod _ _
  · rw [Nat.le_div_iff_mul_le (by omega)]
    have a1 : P / D * D ≤ P := Nat.div_mul_le_self _ _
    have a2 : P / D * (d1 * B32 * p) ≤ P := Nat.le_trans (Nat.mul_le_mul_left _ (Nat.le_trans (Nat.mul_le_mul_right _ (Nat.le_add_right _ _)) hDl)) a1
    have a3 : P < (x * B32 + y + 1) * (B32 * p) := by
      rw [← Nat.mul_assoc]
      exact Nat.lt_of_lt_of_le hPh (Nat.mul_le_mul_right _ (by rw [Nat.add_mul (x * B32 + y) 1 B32]; omega))
    have a4 : P / D * d1 * (B32 * p) < (x * B32 + y + 1) * (B32 * p) := by
      rw [Nat.mul_assoc (P / D), ← Nat.mul_assoc d1]; omega
    exact Nat.le_of_lt_succ (Nat.lt_of_mul_lt_mul_right a4)

/-- The quotient, or one more; the world has only drawn. -/
def GuessP (P D : Nat) (w : World) (e : Ending) (w' : World) : Prop := (∃ q : Nat, e = .returned (.int .u32 q) ∧ P / D ≤ q ∧ q ≤ P / D + 1 ∧ q < 4294967296) ∧ ∃ k, w.drewN k = w'
/-- What the loop knows of its slots. -/
def GuessR (D P d1 d2 p2 m top : Nat) (q r : Value) : Prop := ∃ q1 r1 : Nat, q = .int .u64 q1 ∧ r = .int .u64 r1 ∧ r1 < 4294967296 ∧ q1 ≤ 18446744073709551615 ∧ Hid (Gs D P d1 d2 p2 (B32 ^ (m - 2)) q1 r1 top 0)
theorem hi_zero {q : Nat} (h : q < 4294967296) : ((q : Int) / 4294967296 != 0) = false := by
  have : (q : Int) / 4294967296 = 0 := by omega
  rw [this]; rfl
theorem hi_one {q : Nat} (h : 4294967296 ≤ q) : ((q : Int) / 4294967296 != 0) = true := by
  rw [bne_iff_ne]; omega
theorem u64_or_lo (r a : Nat) (h : r < 4294967296) (ha : a < 4294967296) : bits .or .u64 ((r : Int) * 4294967296) (a : Int) = ((r * 4294967296 + a : Nat) : Int) := u64_shl_or r a h ha

set_option maxHeartbeats 800000 in
set_option maxRecDepth 20000 in
theorem guess_any (g o gd m n c cd D P : Nat) (w : World) (hm : 2 ≤ m) (hmn : n = m + 1) (hn : n ≤ c) (hc : c ≤ 1000) (hmd : m ≤ cd) (hcd : cd ≤ 1000)
    (hD : D < B32 ^ m) (hnorm : 2147483648 ≤ wd D (m - 1)) (hP : P < D * B32) (hp : Words w g o (m + 1) P) (hd : Words w gd 0 m D) :
    Calls Tryz.prog 136 #[.slice (some ⟨g, o, none⟩) n c, .slice (some ⟨gd, 0, none⟩) m cd] w (GuessP P D w) := by
  have c1 := hd (m - 1) (by omega)
  have c2 := hd (m - 2) (by omega)
  have c3 := hp m (by omega)
  have c4 := hp (m - 1) (by omega)
  have c5 := hp (m - 2) (by omega)
  rw [Nat.zero_add] at c1 c2
  have b1 := wd_lt D (m - 1)
  have b2 := wd_lt D (m - 2)
  have b3 := wd_lt P m
  have b4 := wd_lt P (m - 1)
  have b5 := wd_lt P (m - 2)
  have hs := Gs.start hm hD hP (by omega)
  have HS := Lib.hid hs; clear hs
  generalize wd D (m - 1) = d1 at *
  generalize wd D (m - 2) = d2 at *
  generalize wd P m = x at *
  generalize wd P (m - 1) = y at *
  generalize wd P (m - 2) = p2 at *
  have hor := u64_shl_or x y b3 b4
  have htop : x * 4294967296 + y ≤ 18446744073709551615 := by omega
  obtain ⟨top, htp⟩ : ∃ top, top = x * 4294967296 + y := ⟨_, rfl⟩
  rw [← htp] at hor htop
  have hnz : ((d1 : Int) == 0) = false := by rw [beq_eq_false_iff_ne]; omega
  have hnn : (n : Int) = (m : Int) + 1 := by omega
  have i1 : (m : Int) - 1 < (m : Int) := by omega
  have i2 : (0 : Int) ≤ (m : Int) - 1 := by omega
  have i3 : (m : Int) - 2 < (m : Int) := by omega
  have i4 : (0 : Int) ≤ (m : Int) - 2 := by omega
  have i5 : ((m : Int) - 1).toNat = m - 1 := by omega
  have i6 : ((m : Int) - 2).toNat = m - 2 := by omega
  have w1 : IntKind.i64.wrap ((m : Int) - 1) = (m : Int) - 1 := IntWalk.i64_in _ (by omega)
  have w2 : IntKind.i64.wrap ((m : Int) - 2) = (m : Int) - 2 := IntWalk.i64_in _ (by omega)
  have HT := Lib.hid htp; clear htp
  subst hmn
  clear hnn
  go_enter Tryz.func136, Tryz.ntmps136
  go_wp2
  go_quiet (fail)
  go_wp2
  go_quiet (fail)
  have e0 : top / d1 ≤ top := Nat.div_le_self _ _
  have e0' : top % d1 < d1 := Nat.mod_lt _ (by omega)
  have hbeq : x * B32 + y = top := HT.out.symm
  have HS2 := HS.out
  rw [hbeq] at HS2
  have HS3 := Lib.hid HS2; clear HS2 hbeq HS
  obtain ⟨q0, hq0⟩ : ∃ q, q = top / d1 := ⟨_, rfl⟩
  obtain ⟨r0, hr0⟩ : ∃ r, r = top % d1 := ⟨_, rfl⟩
  rw [← hq0, ← hr0] at HS3
  rw [← hq0] at e0
  rw [← hr0] at e0'
  have e1 : (top : Int) / (d1 : Int) = (q0 : Int) := by rw [hq0]; rfl
  have e2 : (top : Int) % (d1 : Int) = (r0 : Int) := by rw [hr0]; rfl
  have e3 : (top : Int).tdiv (d1 : Int) = (q0 : Int) := by rw [hq0]; rfl
  have e4 : (top : Int).tmod (d1 : Int) = (r0 : Int) := by rw [hr0]; rfl
  have e5 : IntKind.u64.wrap (q0 : Int) = (q0 : Int) := IntWalk.u64_in _ (by omega)
  clear hq0 hr0 hor
  go_wp2
  go_quiet (fail)
  clear e1 e2 e3 e4 e5
  go_wp2
  go_loop [9, 10] (fun q r => GuessR D P d1 d2 p2 m top q r) (fun q _ => (intOf q).toNat)
  case atStart => exact ⟨q0, r0, rfl, rfl, by omega, by omega, HS3⟩
  case round =>
    obtain ⟨q, r, rfl, rfl, hr, hq, HG⟩ := hrel
    have hB : B32 = 4294967296 := rfl
    by_cases hbig : 4294967296 ≤ q
    · have hdn := HG.out.down hP (.inl hbig)
      have HN := Lib.hid (HG.out.next hdn.1 hdn.2)
      have hq1 : 1 ≤ q := hdn.2
      have t1 := hi_one hbig
      clear hdn HG hB
      by_cases hbr : 4294967296 ≤ r + d1
      · have t2 := hi_one hbr
        have hfin := HN.out.broke hbr
        have HF := Lib.hid hfin; clear hfin
        have hql : q - 1 < 4294967296 := HF.out.1
        go_wp2
        go_ret
        exact ⟨⟨q - 1, ret_int (by omega), HN.out.lo, HF.out.2, hql⟩, ⟨_, rfl⟩⟩
      · have t2 := hi_zero (show r + d1 < 4294967296 by omega)
        go_wp2
        go_round
        case rel => exact ⟨q - 1, r + d1, int_eq (by omega), int_eq (by omega), by omega, by omega, HN⟩
        case measure => simp [intOf]; omega
    · have t0 := hi_zero (show q < 4294967296 by omega)
      have hor := u64_or_lo r p2 hr b5
      have hmul : q * d2 ≤ 18446744065119617025 := Nat.mul_le_mul (show q ≤ 4294967295 by omega) (show d2 ≤ 4294967295 by omega)
      by_cases hgt : r * 4294967296 + p2 < q * d2
      · have hdn := HG.out.down hP (.inr hgt)
        have HN := Lib.hid (HG.out.next hdn.1 hdn.2)
        have hq1 : 1 ≤ q := hdn.2
        have t3 : ((r * 4294967296 + p2 : Nat) : Int) < (q : Int) * (d2 : Int) := by rw [← Int.natCast_mul]; omega
        obtain ⟨z, hz⟩ : ∃ z, z = r * 4294967296 + p2 := ⟨_, rfl⟩
        rw [← hz] at hor t3 hgt
        have HZ := Lib.hid hz; clear hz
        clear hdn HG hB
        by_cases hbr : 4294967296 ≤ r + d1
        · have t2 := hi_one hbr
          have hfin := HN.out.broke hbr
          have HF := Lib.hid hfin; clear hfin
          have hql : q - 1 < 4294967296 := HF.out.1
          go_wp2
          go_ret
          exact ⟨⟨q - 1, ret_int (by omega), HN.out.lo, HF.out.2, hql⟩, ⟨_, rfl⟩⟩
        · have t2 := hi_zero (show r + d1 < 4294967296 by omega)
          go_wp2
          go_round
          case rel => exact ⟨q - 1, r + d1, int_eq (by omega), int_eq (by omega), by omega, by omega, HN⟩
          case measure => simp [intOf]; omega
      · have hfin := HG.out.done (by omega) (by rw [hB]; omega)
        have hlo := HG.out.lo
        have HF := Lib.hid hfin
        have HL := Lib.hid hlo
        have t3 : ¬ ((r * 4294967296 + p2 : Nat) : Int) < (q : Int) * (d2 : Int) := by rw [← Int.natCast_mul]; omega
        obtain ⟨z, hz⟩ : ∃ z, z = r * 4294967296 + p2 := ⟨_, rfl⟩
        rw [← hz] at hor t3 hgt
        have HZ := Lib.hid hz; clear hz
        clear hfin hlo HG hB
        have hql : q < 4294967296 := by omega
        go_wp2
        go_ret
        exact ⟨⟨q, rfl, HL.out, HF.out, hql⟩, ⟨_, rfl⟩⟩
end Go.Proofs.YtogmgfdihmacpaaGreatDoor


/-
  Contracts of package natural, the ninth part: subtractRow, addBack.
-/
namespace Go.Proofs.YtogmgfdihmacpaaGreatDoor
open Go.RowKit
set_option linter.unusedVariables false

/-- The borrow behind k digits of P - Z. -/
def bw (P Z k : Nat) : Nat := if P % B32 ^ k < Z % B32 ^ k then 1 else 0
theorem bw_le (P Z k : Nat) : bw P Z k ≤ 1 := by unfold bw; split <;> omega
theorem bw_zero (P Z : Nat) : bw P Z 0 = 0 := by simp [bw, Nat.mod_one]
theorem bw_step (P Z k : Nat) : bout (wd P k) (wd Z k) (bw P Z k) = bw P Z (k + 1) := by
  unfold bout bw
  have hp := b32_pos k
  rw [Nat.pow_succ, Nat.mod_mul, Nat.mod_mul]
  have h1 := Nat.mod_lt P hp
  have h2 := Nat.mod_lt Z hp
  show (if wd P k < wd Z k + _ then 1 else 0) = if P % B32 ^ k + B32 ^ k * (wd P k) < Z % B32 ^ k + B32 ^ k * (wd Z k) then 1 else 0
  generalize wd P k = x
  generalize wd Z k = z
  generalize P % B32 ^ k = a at *
  generalize Z % B32 ^ k = c at *
  generalize B32 ^ k = p at *
  rcases Nat.lt_trichotomy x z with h | h | h
  · have := Nat.mul_le_mul_left p (show x + 1 ≤ z from h)
    rw [Nat.mul_add] at this
    rw [if_pos (by omega), if_pos (by omega)]
  · subst h
    by_cases hb : a < c
    · rw [if_pos hb, if_pos (by omega), if_pos (by omega)]
    · rw [if_neg hb, if_neg (by omega), if_neg (by omega)]
  · have := Nat.mul_le_mul_left p (show z + 1 ≤ x from h)
    rw [Nat.mul_add] at this
    rw [if_neg (by split <;> omega), if_neg (by omega)]
/-- What is left of P - Z in m + 1 digits. -/
def dif (P Z m : Nat) : Nat := (P + B32 ^ (m + 1) - Z) % B32 ^ (m + 1)
theorem bdig_step (P Z m k : Nat) (hk : k ≤ m) (hZ : Z < B32 ^ (m + 1)) : bdig (wd P k) (wd Z k) (bw P Z k) = wd (dif P Z m) k := by
  have hp := b32_pos k
  have hM : B32 ^ (m + 1) = B32 ^ k * (B32 * B32 ^ (m - k)) := by rw [← Nat.pow_succ', ← Nat.pow_add]; congr 1; omega
  have e1 : wd (dif P Z m) k = (P + B32 ^ (m + 1) - Z) / B32 ^ k % B32 := by
    unfold wd dif
    rw [hM, Nat.mod_mul_right_div_self, Nat.mod_mul_right_mod]
  rw [e1]
  rw [hM] at hZ ⊢
  have h1 := Nat.div_add_mod P (B32 ^ k)
  have h2 := Nat.div_add_mod Z (B32 ^ k)
  have h3 := Nat.mod_lt P hp
  have h4 := Nat.mod_lt Z hp
  have hc : Z / B32 ^ k < B32 * B32 ^ (m - k) := Nat.div_lt_of_lt_mul hZ
  have e2 : (P + B32 ^ k * (B32 * B32 ^ (m - k)) - Z) / B32 ^ k = P / B32 ^ k + B32 * B32 ^ (m - k) - Z / B32 ^ k - bw P Z k := by
    unfold bw
    generalize P / B32 ^ k = a at *
    generalize Z / B32 ^ k = c at *
    generalize B32 * B32 ^ (m - k) = N at *
    generalize P % B32 ^ k = u at *
    generalize Z % B32 ^ k = v at *
    generalize B32 ^ k = p at *
    by_cases hb : u < v
    · rw [if_pos hb]
      have : P + p * N - Z = p * (a + N - c - 1) + (u + p - v) := by
        have e3 : p * (a + N - c - 1) + p * (c + 1) = p * a + p * N := by rw [← Nat.mul_add, ← Nat.mul_add]; congr 1; omega
        rw [Nat.mul_add] at e3
        omega
      rw [this, Nat.mul_add_div hp, Nat.div_eq_of_lt (by omega)]; omega
    · rw [if_neg hb]
      have : P + p * N - Z = p * (a + N - c) + (u - v) := by
        have e3 : p * (a + N - c) + p * c = p * a + p * N := by rw [← Nat.mul_add, ← Nat.mul_add]; congr 1; omega
        omega
      rw [this, Nat.mul_add_div hp, Nat.div_eq_of_lt (by omega)]; omega
  rw [e2]
  have hb := bw_le P Z k
  unfold bdig wd
  rw [b32_eq] at *
  generalize P / 4294967296 ^ k = a at *
  generalize Z / 4294967296 ^ k = c at *
  generalize 4294967296 ^ (m - k) = T at *
  generalize bw P Z k = b at *
  omega
theorem bw_end {P Z m : Nat} (hP : P < B32 ^ (m + 1)) (hZ : Z < B32 ^ (m + 1)) : bw P Z (m + 1) = if P < Z then 1 else 0 := by
  unfold bw; rw [Nat.mod_eq_of_lt hP, Nat.mod_eq_of_lt hZ]
theorem dif_of {P Z m : Nat} (hP : P < B32 ^ (m + 1)) (h : Z ≤ P) : dif P Z m = P - Z := by
  unfold dif
  rw [show P + B32 ^ (m + 1) - Z = (P - Z) + B32 ^ (m + 1) by omega, Nat.add_mod_right, Nat.mod_eq_of_lt (by omega)]

/-- Of the n digits from place o on, the first k are those of R, the others those of P; outside of them f. -/
def PartAt (w : World) (g tt L o n k R P : Nat) (f : Nat → Nat) : Prop :=
  ∃ h : Nat → Nat, w.rowIs g tt L (fun j => .int .u32 (h j : Nat)) ∧ (∀ i, i < k → h (o + i) = wd R i) ∧ (∀ i, k ≤ i → i < n → h (o + i) = wd P i) ∧ ∀ j, (j < o ∨ o + n ≤ j) → h j = f j
theorem PartAt.step {w : World} {g tt L o n k R P : Nat} {f : Nat → Nat} {v : Int} (h : PartAt w g tt L o n k R P f) (hk : k < n) (hv : v = (wd R k : Nat)) :
    PartAt (w.setCell ⟨g, o + k, none⟩ (.int .u32 v)) g tt L o n (k + 1) R P f := by
  obtain ⟨h, hr, h1, h2, h3⟩ := h
  refine ⟨fun j => if j = o + k then wd R k else h j, set_row (h := fun j => if j = o + k then wd R k else h j) hr (by rw [hv]; simp) (fun j hj => by simp [hj]), fun i hi => ?_, fun i h4 h5 => ?_, fun j hj => ?_⟩
  · show (if o + i = o + k then _ else _) = _
    by_cases e : i = k
    · rw [if_pos (by omega), e]
    · rw [if_neg (by omega)]; exact h1 i (by omega)
  · show (if o + i = o + k then _ else _) = _
    rw [if_neg (by omega)]; exact h2 i (by omega) h5
  · show (if j = o + k then _ else _) = _
    rw [if_neg (by omega)]; exact h3 j hj
theorem PartAt.cell {w : World} {g tt L o n k R P : Nat} {f : Nat → Nat} (h : PartAt w g tt L o n k R P f) (hk : k < n) (hL : o + n ≤ L) : w.cell? ⟨g, o + k, none⟩ = some (.int .u32 (wd P k : Nat)) := by
  obtain ⟨h, hr, h1, h2, h3⟩ := h
  rw [hr.cell (by omega), h2 k (by omega) hk]
theorem PartAt.frozen {w : World} {g tt L o n k R P : Nat} {f : Nat → Nat} (h : PartAt w g tt L o n k R P f) (i : Nat) : w.frozen? ⟨g, i, none⟩ = false := by
  obtain ⟨h, hr, h1, h2, h3⟩ := h
  exact hr.frozen i
theorem PartAt.drewN {w : World} {g tt L o n k R P : Nat} {f : Nat → Nat} (h : PartAt w g tt L o n k R P f) (q : Nat) : PartAt (w.drewN q) g tt L o n k R P f := h
theorem PartAt.drew {w : World} {g tt L o n k R P : Nat} {f : Nat → Nat} (h : PartAt w g tt L o n k R P f) : PartAt w.drew g tt L o n k R P f := h

set_option maxHeartbeats 400000 in
set_option maxRecDepth 20000 in
theorem subtractRow_any (g o n c gd m cd q D P L tt : Nat) (f : Nat → Nat) (w : World) (hnm : n = m + 1) (hn : n ≤ c) (hc : c ≤ 1000) (hmd : m ≤ cd) (hcd : cd ≤ 1000) (hL : o + n ≤ L) (hq : q < 4294967296)
    (hD : D < B32 ^ m) (hP : P < B32 ^ (m + 1)) (hpart : PartAt w g tt L o (m + 1) 0 0 P f) (hne : gd ≠ g) (hgd : gd < w.heap.size) (hd : Words w gd 0 m D) :
    Calls Tryz.prog 137 #[.slice (some ⟨g, o, none⟩) n c, .slice (some ⟨gd, 0, none⟩) m cd, .int .u32 q] w fun e w' => e = .returned (.bool (decide (P < q * D))) ∧ PartAt w' g tt L o (m + 1) (m + 1) (dif P (q * D) m) P f ∧ Only g w w' := by
  subst hnm
  have hZ : q * D < B32 ^ (m + 1) := by
    have := end_lt (c := 0) (b32_pos m) hD hq
    simpa using this
  have hpart : PartAt w g tt L o (m + 1) 0 (dif P (q * D) m) P f := by
    obtain ⟨h, h1, h2, h3⟩ := hpart
    exact ⟨h, h1, fun i hi => absurd hi (by omega), h3⟩
  have HW := Lib.hid hd; clear hd
  have HD := Lib.hid hD; clear hD
  have HP := Lib.hid hP; clear hP
  have HZ := Lib.hid hZ; clear hZ
  have HPA := Lib.hid hpart; clear hpart
  obtain ⟨Z, hZe⟩ : ∃ Z, Z = q * D := ⟨_, rfl⟩
  rw [← hZe] at HZ HPA ⊢
  have HZE := Lib.hid hZe; clear hZe
  go_enter Tryz.func137, Tryz.ntmps137
  go_wp2
  go_loopw [7, 8, 9, 13] (fun cr br _ v wr => ∃ k : Nat, k ≤ m ∧ v = .int .i64 k ∧ cr = .int .u64 (carryM 0 q D k : Nat) ∧ br = .int .u32 (bw P Z k : Nat) ∧ PartAt wr g tt L o (m + 1) k (dif P Z m) P f ∧ Only g w wr) (fun _ _ _ v _ => m - (intOf v).toNat)
  case atStart => exact ⟨0, by omega, rfl, by rw [carryM_zero]; rfl, by rw [bw_zero]; rfl, HPA.out, Only.refl _ _⟩
  case round =>
    obtain ⟨k, hk, rfl, rfl, rfl, hpa, ho⟩ := hrel
    have hcar := carryM_lt 0 q D k hq
    have hbl := bw_le P Z k
    by_cases hlt : k < m
    · have hst := mul_step 0 q D k
      have hw0 : wd 0 k = 0 := wd_zero k
      rw [hw0, Nat.zero_add, Nat.zero_add, ← HZE.out] at hst
      have hcell := hpa.cell (by omega) hL
      have hfr := hpa.frozen (o + k)
      have hsrc : wr.cell? ⟨gd, k, none⟩ = some (.int .u32 (wd D k : Nat)) := by
        have := ho.words hgd hne HW.out k hlt
        rwa [Nat.zero_add] at this
      have b1 := wd_lt D k
      have b2 := wd_lt P k
      have b3 := wd_lt Z k
      have hmul : q * wd D k ≤ 18446744065119617025 := Nat.mul_le_mul (show q ≤ 4294967295 by omega) (show wd D k ≤ 4294967295 by omega)
      have hs1 := bw_step P Z k
      have hs2 := bdig_step P Z m k (by omega) HZ.out
      generalize wd D k = y at *
      obtain ⟨x, hx⟩ : ∃ x, x = wd P k := ⟨_, rfl⟩
      obtain ⟨z, hz⟩ : ∃ z, z = wd Z k := ⟨_, rfl⟩
      obtain ⟨cr, hcr⟩ : ∃ r, r = carryM 0 q D k := ⟨_, rfl⟩
      obtain ⟨b, hbb⟩ : ∃ b, b = bw P Z k := ⟨_, rfl⟩
      rw [← hx] at hs1 hs2 hcell b2
      rw [← hz] at hs1 hs2 hst b3
      rw [← hcr] at hst hcar ⊢
      rw [← hbb] at hs1 hs2 hbl ⊢
      have hmod : ((cr : Int) + (q : Int) * (y : Int)) % 4294967296 = (z : Int) := by rw [← hst.1]; simp
      have HST := Lib.hid hst; clear hst hx hz hcr hbb
      have HS1 := Lib.hid hs1; clear hs1
      have HS2 := Lib.hid hs2; clear hs2
      have HPA := Lib.hid hpa; clear hpa hw0
      go_wp2_with fail
      refine (sub32_any x z b _ b2 b3 hbl).mono ?_
      rintro e w' ⟨rfl, rfl⟩
      go_wp2
      go_roundw
      case rel => exact ⟨k + 1, by omega, by go_num, int_eq (by rw [← HST.out.2]; simp), int_eq (by rw [← HS1.out]), HPA.out.step (by omega) (by rw [← HS2.out]), ho.set _ _⟩
      case measure => simp [intOf]; omega
    · obtain rfl : k = m := by omega
      have hcell := hpa.cell (by omega) hL
      have hfr := hpa.frozen (o + k)
      have b2 := wd_lt P k
      have hce := carryM_end (c := 0) (d := q) (b32_pos k) HD.out
      have hzt : carryM 0 q D k = wd Z k := by
        rw [hce, Nat.zero_add, ← HZE.out]
        unfold wd
        rw [Nat.mod_eq_of_lt]
        exact Nat.div_lt_of_lt_mul (by rw [← Nat.pow_succ]; exact HZ.out)
      rw [hzt] at hcar ⊢
      have hs1 := bw_step P Z k
      have hs2 := bdig_step P Z k k (by omega) HZ.out
      have hend := bw_end HP.out HZ.out
      obtain ⟨x, hx⟩ : ∃ x, x = wd P k := ⟨_, rfl⟩
      obtain ⟨z, hz⟩ : ∃ z, z = wd Z k := ⟨_, rfl⟩
      obtain ⟨b, hbb⟩ : ∃ b, b = bw P Z k := ⟨_, rfl⟩
      rw [← hx] at hs1 hs2 hcell b2
      rw [← hz] at hs1 hs2 hcar ⊢
      rw [← hbb] at hs1 hs2 hbl ⊢
      rw [hend] at hs1
      have HS1 := Lib.hid hs1; clear hs1
      have HS2 := Lib.hid hs2; clear hs2 hx hz hbb hce hzt hend
      have HPA := Lib.hid hpa; clear hpa
      go_wp2_with fail
      refine (sub32_any x z b _ b2 hcar hbl).mono ?_
      rintro e w' ⟨rfl, rfl⟩
      go_wp2
      go_ret
      refine ⟨ret_bool ?_, HPA.out.step (by omega) (by rw [← HS2.out]), ho.set _ _⟩
      rw [HS1.out]
      by_cases hlt2 : P < Z
      · rw [if_pos hlt2, decide_eq_true hlt2]; rfl
      · rw [if_neg hlt2, decide_eq_false hlt2]; rfl

set_option maxHeartbeats 400000 in
set_option maxRecDepth 20000 in
theorem addBack_any (g o n c gd m cd D P L tt : Nat) (f : Nat → Nat) (w : World) (hnm : n = m + 1) (hn : n ≤ c) (hc : c ≤ 1000) (hmd : m ≤ cd) (hcd : cd ≤ 1000) (hL : o + n ≤ L)
    (hD : D < B32 ^ m) (hpart : PartAt w g tt L o (m + 1) 0 0 P f) (hne : gd ≠ g) (hgd : gd < w.heap.size) (hd : Words w gd 0 m D) :
    Calls Tryz.prog 138 #[.slice (some ⟨g, o, none⟩) n c, .slice (some ⟨gd, 0, none⟩) m cd] w fun e w' => e = .returned (.tuple #[]) ∧ PartAt w' g tt L o (m + 1) (m + 1) (P + D) P f ∧ Only g w w' := by
  subst hnm
  have hpart : PartAt w g tt L o (m + 1) 0 (P + D) P f := by
    obtain ⟨h, h1, h2, h3⟩ := hpart
    exact ⟨h, h1, fun i hi => absurd hi (by omega), h3⟩
  have HW := Lib.hid hd; clear hd
  have HD := Lib.hid hD; clear hD
  have HPA := Lib.hid hpart; clear hpart
  go_enter Tryz.func138, Tryz.ntmps138
  go_wp2
  go_loopw [4, 5, 8] (fun cr _ v wr => ∃ k : Nat, k ≤ m ∧ v = .int .i64 k ∧ cr = .int .u32 (carryM P 1 D k : Nat) ∧ PartAt wr g tt L o (m + 1) k (P + D) P f ∧ Only g w wr) (fun _ _ v _ => m - (intOf v).toNat)
  case atStart => exact ⟨0, by omega, rfl, by rw [carryM_zero]; rfl, HPA.out, Only.refl _ _⟩
  case round =>
    obtain ⟨k, hk, rfl, rfl, hpa, ho⟩ := hrel
    have hcar : carryM P 1 D k ≤ 1 := by
      have h := b32_pos k
      have h1 := Nat.mod_lt P h
      have h2 := Nat.mod_lt D h
      unfold carryM
      have : (P % B32 ^ k + 1 * (D % B32 ^ k)) / B32 ^ k < 2 := Nat.div_lt_of_lt_mul (by omega)
      omega
    have hst := mul_step P 1 D k
    rw [Nat.one_mul, Nat.one_mul] at hst
    by_cases hlt : k < m
    · have hcell := hpa.cell (by omega) hL
      have hfr := hpa.frozen (o + k)
      have hsrc : wr.cell? ⟨gd, k, none⟩ = some (.int .u32 (wd D k : Nat)) := by
        have := ho.words hgd hne HW.out k hlt
        rwa [Nat.zero_add] at this
      have b1 := wd_lt D k
      have b2 := wd_lt P k
      generalize wd D k = y at *
      obtain ⟨x, hx⟩ : ∃ x, x = wd P k := ⟨_, rfl⟩
      obtain ⟨cr, hcr⟩ : ∃ r, r = carryM P 1 D k := ⟨_, rfl⟩
      rw [← hx] at hst hcell b2
      rw [← hcr] at hst hcar ⊢
      have HST := Lib.hid hst; clear hst hx hcr
      have HPA := Lib.hid hpa; clear hpa
      have i1 : (k : Int) < (m : Int) := by omega
      have i2 : (k : Int) < (m : Int) + 1 := by omega
      go_wp2
      go_region_with (go_at_call 156; refine (add32_any x y cr _ b2 b1 hcar).mono ?_; rintro e w' ⟨rfl, rfl⟩)
      all_goals (
        go_wp2
        go_roundw
        case rel => exact ⟨k + 1, by omega, by go_num, int_eq (by rw [← HST.out.2, ← Nat.add_comm (x + y) cr]; simp), HPA.out.drew.step (by omega) (by rw [← HST.out.1, ← Nat.add_comm (x + y) cr]; simp), ho.drew.set _ _⟩
        case measure => simp [intOf]; omega)
    · obtain rfl : k = m := by omega
      have hcell := hpa.cell (by omega) hL
      have hfr := hpa.frozen (o + k)
      have b2 := wd_lt P k
      have hy0 : wd D k = 0 := by unfold wd; rw [Nat.div_eq_of_lt HD.out]; rfl
      rw [hy0, Nat.add_zero] at hst
      obtain ⟨x, hx⟩ : ∃ x, x = wd P k := ⟨_, rfl⟩
      obtain ⟨cr, hcr⟩ : ∃ r, r = carryM P 1 D k := ⟨_, rfl⟩
      rw [← hx] at hst hcell b2
      rw [← hcr] at hst hcar ⊢
      have HST := Lib.hid hst; clear hst hx hcr hy0
      have HPA := Lib.hid hpa; clear hpa
      go_wp2
      go_end0
      exact ⟨rfl, HPA.out.step (by omega) (by rw [← HST.out.1, Nat.add_comm]; simp), ho.set _ _⟩
end Go.Proofs.YtogmgfdihmacpaaGreatDoor


/-
  Contracts of package natural, the tenth part: divideLong.
-/
namespace Go.Proofs.YtogmgfdihmacpaaGreatDoor
open Go.RowKit
set_option linter.unusedVariables false

theorem flip_v {P : Program} {f : FuncId} {args : Array Value} {w : World} {v : Ending} (h : Calls P f args w fun e w' => e = v ∧ w' = w) : Calls P f args w fun e w' => e = v ∧ w = w' :=
  h.mono fun _ _ ⟨a, b⟩ => ⟨a, b.symm⟩
/-- Quotient and remainder lie in two slices. -/
def DivP (U D : Nat) (w : World) (e : Ending) (w' : World) : Prop :=
  ∃ v1 v2, e = .returned (.tuple #[v1, v2]) ∧ Sl w' v1 (nd (U / D)) (U / D) ∧ Sl w' v2 (nd (U % D)) (U % D) ∧ Below w.heap.size w w'

theorem norm_shift {D m s : Nat} (hm : 1 ≤ m) (hD : D < B32 ^ m) (ht : wd D (m - 1) ≠ 0) (hs : s = 32 - nbits (wd D (m - 1))) :
    s < 32 ∧ D * 2 ^ s < B32 ^ m ∧ 2147483648 * B32 ^ (m - 1) ≤ D * 2 ^ s := by
  obtain ⟨k, rfl⟩ : ∃ k, m = k + 1 := ⟨m - 1, by omega⟩
  rw [Nat.add_sub_cancel] at *
  have hb := wd_lt D k
  have e0 : D / B32 ^ (k + 1) = 0 := Nat.div_eq_of_lt hD
  have e1 := hi_step D k
  rw [e0, Nat.zero_mul, Nat.zero_add] at e1
  generalize wd D k = t at *
  have hp := b32_pos k
  have dm := Nat.div_add_mod D (B32 ^ k)
  have ml := Nat.mod_lt D hp
  rw [e1] at dm
  generalize D % B32 ^ k = u at dm ml
  have hl : nbits t = Nat.log2 t + 1 := by unfold nbits; rw [if_neg ht]
  have l1 : 2 ^ Nat.log2 t ≤ t := (Nat.le_log2 ht).1 (Nat.le_refl _)
  have l2 : t < 2 ^ (Nat.log2 t + 1) := (Nat.log2_lt ht).1 (by omega)
  have l3 : Nat.log2 t < 32 := (Nat.log2_lt ht).2 hb
  have hs2 : Nat.log2 t + s = 31 := by omega
  have p31 : 2 ^ Nat.log2 t * 2 ^ s = 2147483648 := by rw [← Nat.pow_add, hs2]
  refine ⟨by omega, ?_, ?_⟩
  · have h1 : D < 2 ^ (Nat.log2 t + 1) * B32 ^ k := by
      have := Nat.mul_le_mul_right (B32 ^ k) (show t + 1 ≤ 2 ^ (Nat.log2 t + 1) from l2)
      rw [Nat.add_mul, Nat.one_mul, Nat.mul_comm t] at this
      omega
    have h2 := Nat.mul_lt_mul_of_pos_right h1 (Nat.pow_pos (n := s) (show 0 < 2 by omega))
    have h3 : 2 ^ (Nat.log2 t + 1) * B32 ^ k * 2 ^ s = B32 ^ (k + 1) := by
      rw [Nat.mul_right_comm, Nat.pow_succ, Nat.mul_right_comm (2 ^ Nat.log2 t), p31, Nat.pow_succ, Nat.mul_comm (B32 ^ k)]; rfl
    rw [h3] at h2; exact h2
  · have h1 : 2 ^ Nat.log2 t * B32 ^ k ≤ D := by
      have := Nat.mul_le_mul_right (B32 ^ k) l1
      rw [Nat.mul_comm t] at this
      exact Nat.le_trans this (by omega)
    have h2 := Nat.mul_le_mul_right (2 ^ s) h1
    rw [Nat.mul_right_comm, p31] at h2
    exact h2
theorem norm_top {D m : Nat} (hm : 1 ≤ m) (hD : D < B32 ^ m) (hl : 2147483648 * B32 ^ (m - 1) ≤ D) : 2147483648 ≤ wd D (m - 1) := by
  obtain ⟨k, rfl⟩ : ∃ k, m = k + 1 := ⟨m - 1, by omega⟩
  rw [Nat.add_sub_cancel] at *
  have e0 : D / B32 ^ (k + 1) = 0 := Nat.div_eq_of_lt hD
  have e1 := hi_step D k
  rw [e0, Nat.zero_mul, Nat.zero_add] at e1
  rw [← e1, Nat.le_div_iff_mul_le (b32_pos k)]
  exact hl

/-- What is left of R0 when the digits from a on are divided. -/
def rem (R D a : Nat) : Nat := R % (D * B32 ^ a)
theorem rem_lt {R D a : Nat} (hD : 0 < D) : rem R D a < D * B32 ^ a := Nat.mod_lt _ (Nat.mul_pos hD (b32_pos a))
theorem rem_digit {R D a : Nat} : rem R D (a + 1) / B32 ^ a / D = wd (R / D) a := by
  unfold rem wd
  rw [Nat.div_div_eq_div_mul, Nat.div_div_eq_div_mul, Nat.mul_comm (B32 ^ a) D, Nat.pow_succ, ← Nat.mul_assoc, Nat.mod_mul_right_div_self]
theorem rem_next {R D a : Nat} : rem R D (a + 1) = rem R D a + wd (R / D) a * D * B32 ^ a := by
  have h := Nat.div_add_mod (rem R D (a + 1)) (D * B32 ^ a)
  have e1 : rem R D (a + 1) % (D * B32 ^ a) = rem R D a := by
    unfold rem; rw [Nat.pow_succ, ← Nat.mul_assoc, Nat.mod_mul_right_mod]
  have e2 : rem R D (a + 1) / (D * B32 ^ a) = wd (R / D) a := by
    rw [← rem_digit, Nat.div_div_eq_div_mul, Nat.mul_comm (B32 ^ a)]
  rw [e1, e2] at h
  rw [← h, Nat.mul_comm (D * B32 ^ a), ← Nat.mul_assoc, Nat.add_comm]
theorem rem_part_lt {R D a : Nat} (hD : 0 < D) : rem R D (a + 1) / B32 ^ a < D * B32 := by
  apply Nat.div_lt_of_lt_mul
  have := rem_lt (R := R) (a := a + 1) hD
  rw [Nat.pow_succ, ← Nat.mul_assoc, Nat.mul_right_comm, Nat.mul_comm] at this
  exact this
theorem rem_part_next {R D a : Nat} : rem R D (a + 1) / B32 ^ a = rem R D a / B32 ^ a + wd (R / D) a * D := by
  rw [rem_next, add_high]

/-- The row behind one step: the part is replaced by what is left of it. -/
theorem row_next {w : World} {g tt L m a R D X P : Nat} (hm : D < B32 ^ m) (hD : 0 < D)
    (h : PartAt w g tt L a (m + 1) (m + 1) X P (wd (rem R D (a + 1)))) (hX : ∀ i, i ≤ m → wd X i = wd (rem R D a / B32 ^ a) i) :
    w.rowIs g tt L (fun j => .int .u32 (wd (rem R D a) j : Nat)) := by
  obtain ⟨f, hr, h1, _, h3⟩ := h
  refine hr.congr fun j _ => ?_
  have e : f j = wd (rem R D a) j := by
    by_cases h4 : j < a
    · rw [h3 j (.inl h4), rem_next, wd_add_low _ _ _ _ h4]
    · by_cases h5 : j < a + (m + 1)
      · obtain ⟨i, rfl⟩ : ∃ i, j = a + i := ⟨j - a, by omega⟩
        rw [h1 i (by omega), hX i (by omega), wd_shift]
      · rw [h3 j (.inr (by omega))]
        have hb : rem R D (a + 1) < B32 ^ j := by
          have s1 := rem_lt (R := R) (a := a + 1) hD
          have s2 := Nat.mul_lt_mul_of_pos_right hm (b32_pos (a + 1))
          rw [← Nat.pow_add] at s2
          exact Nat.lt_of_lt_of_le (Nat.lt_trans s1 s2) (Nat.pow_le_pow_right (by decide) (by omega))
        have hb2 : rem R D a < B32 ^ j := Nat.lt_of_le_of_lt (by rw [rem_next]; exact Nat.le_add_right _ _) hb
        unfold wd
        rw [Nat.div_eq_of_lt hb, Nat.div_eq_of_lt hb2]
  rw [e]
theorem part_of_row {w : World} {g tt L a n R : Nat} (h : w.rowIs g tt L (fun j => .int .u32 (wd R j : Nat))) : PartAt w g tt L a n 0 0 (R / B32 ^ a) (wd R) :=
  ⟨wd R, h, fun i hi => absurd hi (by omega), fun i _ _ => wd_shift R a i, fun _ _ => rfl⟩
theorem part_words {w : World} {g tt L a n P : Nat} {f : Nat → Nat} (h : PartAt w g tt L a n 0 0 P f) (hL : a + n ≤ L) : Words w g a n P := by
  obtain ⟨f, hr, _, h2, _⟩ := h
  intro j hj
  rw [hr.cell (by omega), h2 j (by omega) hj]
theorem rem_top {U D n m t s : Nat} (hn : n = m + t) (hm : 1 ≤ m) (hU : U < B32 ^ n) (hs : s < 32) (hl : 2147483648 * B32 ^ (m - 1) ≤ D) : rem (U * 2 ^ s) D (t + 1) = U * 2 ^ s := by
  apply Nat.mod_eq_of_lt
  have h1 : 2 ^ s ≤ 2147483648 := by
    have : 2 ^ s ≤ 2 ^ 31 := Nat.pow_le_pow_right (by omega) (by omega)
    simpa using this
  have h2 : U * 2 ^ s < B32 ^ n * 2147483648 := Nat.lt_of_lt_of_le (Nat.mul_lt_mul_of_pos_right hU (Nat.pow_pos (by omega))) (Nat.mul_le_mul_left _ h1)
  have h3 := Nat.mul_le_mul_right (B32 ^ (t + 1)) hl
  rw [Nat.mul_assoc, ← Nat.pow_add, show m - 1 + (t + 1) = n by omega, Nat.mul_comm] at h3
  omega
theorem rem_zero (R D : Nat) : rem R D 0 = R % D := by simp [rem]
theorem quot_lt {R D t : Nat} (hD : 0 < D) (h : rem R D (t + 1) = R) : R / D < B32 ^ (t + 1) := by
  apply Nat.div_lt_of_lt_mul
  rw [← h]; exact rem_lt hD

theorem Split.only {w w' : World} {g b tt L n a N Q : Nat} (h : Split w g tt L n a N Q) (ho : Only b w w') (hn : g ≠ b) : Split w' g tt L n a N Q := by
  obtain ⟨f, h1, h2⟩ := h
  exact ⟨f, ho.row hn h1, h2⟩
theorem Split.drewN {w : World} {g tt L n a N Q : Nat} (h : Split w g tt L n a N Q) (k : Nat) : Split (w.drewN k) g tt L n a N Q := h
/-- The right digit, when the guess was right. -/
theorem right_digit {P D q : Nat} (hD : 0 < D) (h1 : P / D ≤ q) (h2 : ¬ P < q * D) : q = P / D := by
  have : q ≤ P / D := (Nat.le_div_iff_mul_le hD).2 (by omega)
  omega
theorem wrong_digit {P D q : Nat} (hD : 0 < D) (h1 : q ≤ P / D + 1) (h2 : P < q * D) : q = P / D + 1 := by
  have : P / D < q := (Nat.div_lt_iff_lt_mul hD).2 h2
  omega
theorem back_digit {P D m i : Nat} (hD : 0 < D) (hDl : D < B32 ^ m) (hP : P < B32 ^ (m + 1)) (hi : i ≤ m) (h2 : P < (P / D + 1) * D) : wd (dif P ((P / D + 1) * D) m + D) i = wd (P - P / D * D) i := by
  have h1 : P / D * D ≤ P := Nat.div_mul_le_self _ _
  have hp : B32 ^ m ≤ B32 ^ (m + 1) := Nat.pow_le_pow_right (by decide) (by omega)
  have e : dif P ((P / D + 1) * D) m + D = (P - P / D * D) + 1 * B32 ^ (m + 1) := by
    unfold dif
    rw [Nat.add_mul, Nat.one_mul] at *
    rw [Nat.mod_eq_of_lt (by omega)]
    omega
  rw [e, wd_add_low _ _ _ _ (by omega)]

set_option maxHeartbeats 1000000 in
set_option maxRecDepth 20000 in
theorem divideLong_any (gu ou n cu gv ov m cv U D : Nat) (w : World) (hm : 2 ≤ m) (hmn : m ≤ n) (hn : n ≤ 100) (hcu : n ≤ cu) (hcu2 : cu ≤ 1000) (hcv : m ≤ cv) (hcv2 : cv ≤ 1000)
    (hgu : gu < w.heap.size) (hgv : gv < w.heap.size) (hU : U < B32 ^ n) (hD : D < B32 ^ m) (htop : wd D (m - 1) ≠ 0) (hu : Words w gu ou n U) (hv : Words w gv ov m D) :
    Calls Tryz.prog 112 #[.slice (some ⟨gu, ou, none⟩) n cu, .slice (some ⟨gv, ov, none⟩) m cv] w (DivP U D w) := by
  obtain ⟨s, hs⟩ : ∃ s, s = 32 - nbits (wd D (m - 1)) := ⟨_, rfl⟩
  have hnorm := norm_shift (by omega) hD htop hs
  have hs32 : s < 32 := hnorm.1
  have hcell := hv (m - 1) (by omega)
  have hbl := wd_lt D (m - 1)
  have hbits : Lib.bitLen (wd D (m - 1)) = nbits (wd D (m - 1)) := bitLen_nbits _ (Nat.lt_trans hbl (by decide))
  have hs3 : 32 - (Lib.bitLen (wd D (m - 1)) : Int) = (s : Int) := by
    have : nbits (wd D (m - 1)) ≤ 32 := by
      unfold nbits; split
      · omega
      · rename_i h0
        have := (Nat.log2_lt (n := wd D (m - 1)) (k := 32) h0).2 hbl
        omega
    rw [hbits]; omega
  have hm1 : (m : Int) - 1 = ((m - 1 : Nat) : Int) := by omega
  have HU := Lib.hid hu; clear hu
  have HV := Lib.hid hv; clear hv
  have HUl := Lib.hid hU; clear hU
  have HDl := Lib.hid hD; clear hD
  have HNO := Lib.hid hnorm; clear hnorm
  have HT := Lib.hid htop; clear htop hs hbits
  go_enter Tryz.func112, Tryz.ntmps112
  go_wp2_with fail
  refine (flip_v (Tryz.bits_LeadingZeros32 _ _ (by omega) (by omega))).mono ?_
  rintro e w' ⟨rfl, rfl⟩
  rw [Int.toNat_natCast, hs3]
  clear hs3 hm1 hcell
  go_wp2_with fail
  refine (shiftLeft_any gv ov m cv s D _ hcv hcv2 hs32 hgv HV.out HDl.out).mono ?_
  rintro e w1 ⟨rfl, hr1, hb1⟩
  have HR1 := Lib.hid hr1; clear hr1
  go_wp2_with fail
  refine (shiftLeft_any gu ou n cu s U _ hcu hcu2 hs32 (Nat.lt_of_lt_of_le hgu hb1.size) (HU.out.below hb1 hgu) HUl.out).mono ?_
  rintro e w2 ⟨rfl, hr2, hb2⟩
  have HR2 := Lib.hid hr2; clear hr2
  obtain ⟨t, ht⟩ : ∃ t, n = m + t := ⟨n - m, by omega⟩
  have ht2 : (n : Int) - (m : Int) = (t : Int) := by omega
  have hmk := run_make_words1 t (by omega)
  have HTT := Lib.hid ht; clear ht
  have HU2 : 0 < 2 ^ s := Nat.pow_pos (by omega)
  have hD0 : 0 < D := by
    rcases Nat.eq_zero_or_pos D with e | e
    · rw [e] at HT; exact absurd (wd_zero _) HT.out
    · exact e
  obtain ⟨DD, hDD⟩ : ∃ d, d = D * 2 ^ s := ⟨_, rfl⟩
  obtain ⟨RR, hRR⟩ : ∃ d, d = U * 2 ^ s := ⟨_, rfl⟩
  have hDDl : DD < B32 ^ m := by rw [hDD]; exact HNO.out.2.1
  have hDDn : 2147483648 * B32 ^ (m - 1) ≤ DD := by rw [hDD]; exact HNO.out.2.2
  have hDD0 : 0 < DD := by rw [hDD]; exact Nat.mul_pos hD0 HU2
  have hDDt := norm_top (by omega) hDDl hDDn
  have hrt : rem RR DD (t + 1) = RR := by rw [hRR]; exact rem_top HTT.out (by omega) HUl.out hs32 hDDn
  have hql := quot_lt hDD0 hrt
  have hquo : RR / DD = U / D := by rw [hRR, hDD, Nat.mul_div_mul_right _ _ HU2]
  have hrm : RR % DD / 2 ^ s = U % D := by rw [hRR, hDD, Nat.mul_mod_mul_right, Nat.mul_div_cancel _ HU2]
  have hR1 : Words w2 w.heap.size 0 m DD := by
    have h1 := words_of_row HR1.out (show m ≤ m + 1 by omega)
    rw [hDD]; exact h1.below hb2 HR1.out.lt
  have hR2 : w2.rowIs w1.heap.size 86 (n + 1) (fun j => .int .u32 (wd RR j : Nat)) := by rw [hRR]; exact HR2.out
  have hg1 : w.heap.size < w1.heap.size := HR1.out.lt
  have hg2 : w1.heap.size < w2.heap.size := HR2.out.lt
  have hbw2 : Below w.heap.size w w2 := hb1.trans (hb2.mono (by omega))
  have HQ := Lib.hid hquo; clear hquo
  have HRM := Lib.hid hrm; clear hrm
  have HRT := Lib.hid hrt; clear hrt
  have HQL := Lib.hid hql; clear hql
  have HDDl := Lib.hid hDDl; clear hDDl
  have HDDt := Lib.hid hDDt; clear hDDt hDDn
  have HDV := Lib.hid hR1; clear hR1
  have HR0 := Lib.hid hR2; clear hR2
  have HDE := Lib.hid hDD; clear hDD
  have HRE := Lib.hid hRR; clear hRR
  clear HR1 HR2 HU HV hb1 hb2 HUl HDl HNO HT hbl
  go_wp2
  have hq3 : Split (w2.alloc (.cells (madeCells #[.int .u32 0] (t + 1)) 86)) w2.heap.size 86 (t + 1) (t + 1) (t + 1) 0 (RR / DD) :=
    ⟨fun _ => 0, World.rowIs_made w2 (.int .u32 0) (t + 1) _, fun j _ => (wd_zero j).symm, fun j h1 h2 => by omega⟩
  have hr3 : (w2.alloc (.cells (madeCells #[.int .u32 0] (t + 1)) 86)).rowIs w1.heap.size 86 (n + 1) (fun j => .int .u32 (wd (rem RR DD (t + 1)) j : Nat)) := by rw [HRT.out]; exact HR0.out.alloc _
  have hb3 : Below w2.heap.size w2 (w2.alloc (.cells (madeCells #[.int .u32 0] (t + 1)) 86)) := (Below.refl _ _).alloc (Nat.le_refl _) _
  have hd3 := HDV.out.below hb3 (by omega)
  have hbw3 : Below w.heap.size w (w2.alloc (.cells (madeCells #[.int .u32 0] (t + 1)) 86)) := hbw2.trans (hb3.mono (by omega))
  have hs3 : (w2.alloc (.cells (madeCells #[.int .u32 0] (t + 1)) 86)).heap.size = w2.heap.size + 1 := by simp
  generalize w2.alloc _ = w3 at *
  have HQ3 := Lib.hid hq3; clear hq3
  have HR3 := Lib.hid hr3; clear hr3
  have HD3 := Lib.hid hd3; clear hd3
  have hs4 : w2.heap.size < w3.heap.size := by omega
  clear hs3 hb3 HDV HR0 hbw2 hmk
  generalize hgw : w.heap.size = gd at *
  have HGW := Lib.hid hgw; clear hgw
  generalize w1.heap.size = gr at *
  generalize w2.heap.size = gq at *
  go_loopw [10, 11, 12, 13, 39] (fun _ _ _ _ v wr => ∃ k : Nat, k ≤ t + 1 ∧ v = .int .i64 k ∧ wr.rowIs gr 86 (n + 1) (fun j => .int .u32 (wd (rem RR DD (t + 1 - k)) j : Nat)) ∧ Split wr gq 86 (t + 1) (t + 1) (t + 1 - k) 0 (RR / DD) ∧ Below gr w3 wr) (fun _ _ _ _ v _ => t + 1 - (intOf v).toNat)
  case atStart => exact ⟨0, by omega, rfl, HR3.out, HQ3.out, Below.refl _ _⟩
  case round =>
    obtain ⟨k, hk, rfl, hrow, hsp, hbel⟩ := hrel
    by_cases hlt : k < t + 1
    · obtain ⟨j, hj⟩ : ∃ j, t + 1 - k = j + 1 := ⟨t - k, by omega⟩
      rw [hj] at hrow hsp
      have hjk : (t : Int) - (k : Int) = (j : Int) := by omega
      have hjt : j ≤ t := by omega
      have hjn : j + m ≤ n := by have := HTT.out; omega
      have hpart := part_of_row (a := j) (n := m + 1) hrow
      have hw := part_words hpart (by omega)
      have hdw : Words wr gd 0 m DD := fun i hi => (hbel.cell (p := ⟨gd, 0 + i, none⟩) (by exact hg1)).trans (HD3.out i hi)
      have hgdw : gd < wr.heap.size := Nat.lt_of_lt_of_le (by omega) hbel.size
      have hgrw : gr < wr.heap.size := hrow.lt
      have hPl := rem_part_lt (R := RR) (a := j) hDD0
      have hcell : wr.cell? ⟨gq, j, none⟩ = some (.int .u32 (0 : Nat)) := by
        obtain ⟨f, h1, h2, _⟩ := hsp
        rw [h1.cell (by omega), h2 j (by omega), wd_zero]
      have hfr : wr.frozen? ⟨gq, j, none⟩ = false := by
        obtain ⟨f, h1, _⟩ := hsp
        exact h1.frozen _
      have HJ := Lib.hid hj; clear hj
      have HPT := Lib.hid hpart; clear hpart
      have HW := Lib.hid hw; clear hw
      have HDW := Lib.hid hdw; clear hdw
      have HPL := Lib.hid hPl; clear hPl
      have HSP := Lib.hid hsp; clear hsp
      have HRW := Lib.hid hrow; clear hrow
      have hdig := rem_digit (R := RR) (D := DD) (a := j)
      have hnext := rem_part_next (R := RR) (D := DD) (a := j)
      obtain ⟨P, hP⟩ : ∃ P, P = rem RR DD (j + 1) / B32 ^ j := ⟨_, rfl⟩
      have HPE := Lib.hid hP
      rw [← hP] at hdig hnext
      have hpt := HPT.out; rw [← hP] at hpt
      have hww := HW.out; rw [← hP] at hww
      have hpl := HPL.out; rw [← hP] at hpl
      have hPm : P < B32 ^ (m + 1) := by
        rw [Nat.pow_succ]
        exact Nat.lt_trans hpl (Nat.mul_lt_mul_of_pos_right HDDl.out (by decide))
      have hqd : P / DD < 4294967296 := by rw [hdig]; exact wd_lt _ _
      clear HPT HW HPL hP
      have HPT := Lib.hid hpt; clear hpt
      have HW := Lib.hid hww; clear hww
      have HPL := Lib.hid hpl; clear hpl
      have HPM := Lib.hid hPm; clear hPm
      have HDI := Lib.hid hdig; clear hdig
      have HNX := Lib.hid hnext; clear hnext
      go_wp2_with fail
      refine (guess_any gr j gd m _ _ _ DD P _ hm (by omega) (by omega) (by omega) (by omega) (by omega) HDDl.out HDDt.out HPL.out HW.out HDW.out).mono ?_
      rintro e w' ⟨⟨q, rfl, hq1, hq2, hq3⟩, kk, rfl⟩
      have HQ1 := Lib.hid hq1; clear hq1
      have HQ2 := Lib.hid hq2; clear hq2
      go_wp2_with fail
      refine (subtractRow_any gr j _ _ gd m _ q DD P (n + 1) 86 _ _ (by omega) (by omega) (by omega) (by omega) (by omega) (by omega) hq3 HDDl.out HPM.out (HPT.out.drewN kk) (by omega) hgdw (HDW.out)).mono ?_
      rintro e w5 ⟨rfl, hpa5, ho5⟩
      have HPA5 := Lib.hid hpa5; clear hpa5
      have hsp5 := (HSP.out.drewN kk).only ho5 (by omega)
      have hb5 : Below gr w3 w5 := hbel.trans ((Below.refl gr wr).trans (⟨ho5.os, ho5.tape, ho5.output, ho5.size, fun i hi => ho5.block i (Nat.lt_trans hi hgrw) (by omega)⟩))
      have hcell5 : w5.cell? ⟨gq, j, none⟩ = some (.int .u32 (0 : Nat)) := by
        obtain ⟨f, h1, h2, _⟩ := hsp5
        rw [h1.cell (by omega), h2 j (by omega), wd_zero]
      have hfr5 : w5.frozen? ⟨gq, j, none⟩ = false := by
        obtain ⟨f, h1, _⟩ := hsp5
        exact h1.frozen _
      have hj1 : t + 1 - (k + 1) = j := by have := HJ.out; omega
      have HJ1 := Lib.hid hj1; clear hj1
      have hgd5 : gd < w5.heap.size := Nat.lt_of_lt_of_le hgdw ho5.size
      have hgr5 : gr < w5.heap.size := Nat.lt_of_lt_of_le hgrw ho5.size
      have hdw5 : Words w5 gd 0 m DD := ho5.words hgdw (by omega) HDW.out
      have HDW5 := Lib.hid hdw5; clear hdw5
      have HSP5 := Lib.hid hsp5; clear hsp5 hcell hfr HSP HRW
      by_cases hbor : P < q * DD
      · have hqe := wrong_digit hDD0 HQ2.out hbor
        have hdb := decide_eq_true hbor
        have hq0 : 1 ≤ q := by rw [hqe]; exact Nat.le_add_left _ _
        have hqd1 : q - 1 < 4294967296 := by rw [hqe, Nat.add_sub_cancel]; exact hqd
        have hpa6 : PartAt w5 gr 86 (n + 1) j (m + 1) 0 0 (dif P (q * DD) m) (wd (rem RR DD (j + 1))) := by
          obtain ⟨f, h1, h2, h3, h4⟩ := HPA5.out
          exact ⟨f, h1, fun i hi => absurd hi (by omega), fun i _ hi => h2 i hi, h4⟩
        have HPA6 := Lib.hid hpa6; clear hpa6 HPA5
        have HQE := Lib.hid hqe; clear hqe
        have HBO := Lib.hid hbor; clear hbor
        go_wp2_with fail
        refine (addBack_any gr j _ _ gd m _ DD (dif P (q * DD) m) (n + 1) 86 _ _ (by omega) (by omega) (by omega) (by omega) (by omega) (by omega) HDDl.out HPA6.out (by omega) hgd5 HDW5.out).mono ?_
        rintro e w6 ⟨rfl, hpa7, ho7⟩
        have hsp7 := HSP5.out.only ho7 (by omega)
        have hb7 : Below gr w3 w6 := hb5.trans ⟨ho7.os, ho7.tape, ho7.output, ho7.size, fun i hi => ho7.block i (Nat.lt_trans hi hgr5) (by omega)⟩
        have hcell7 : w6.cell? ⟨gq, j, none⟩ = some (.int .u32 (0 : Nat)) := by
          obtain ⟨f, h1, h2, _⟩ := hsp7
          rw [h1.cell (by omega), h2 j (by omega), wd_zero]
        have hfr7 : w6.frozen? ⟨gq, j, none⟩ = false := by
          obtain ⟨f, h1, _⟩ := hsp7
          exact h1.frozen _
        have hrow8 : w6.rowIs gr 86 (n + 1) (fun i => .int .u32 (wd (rem RR DD j) i : Nat)) := by
          obtain ⟨f, h1, h2, h3, h4⟩ := hpa7
          refine row_next (P := dif P (q * DD) m) (X := dif P (q * DD) m + DD) HDDl.out hDD0 ⟨f, h1, h2, h3, h4⟩ fun i hi => ?_
          have hb := HBO.out
          rw [HQE.out] at hb ⊢
          rw [back_digit hDD0 HDDl.out HPM.out hi hb, HDI.out, Nat.sub_eq_of_eq_add HNX.out]
        have HRW8 := Lib.hid hrow8; clear hrow8 hpa7
        have HSP7 := Lib.hid hsp7; clear hsp7
        clear hcell5 hfr5
        go_wp2
        go_roundw
        case rel =>
          have e := HSP7.out.step (v := (q : Int) - 1) (by have := HQE.out; rw [← HDI.out, HQE.out]; omega) (by omega)
          exact ⟨k + 1, by omega, by go_num, by rw [HJ1.out]; exact HRW8.out.setOther (by show gr ≠ gq; omega) _, by rw [HJ1.out]; exact e, hb7.setCell (by show gr ≤ gq; omega) _⟩
        case measure => simp [intOf]; omega
      · have hqe := right_digit hDD0 HQ1.out hbor
        have hdb := decide_eq_false hbor
        have hrow6 : w5.rowIs gr 86 (n + 1) (fun i => .int .u32 (wd (rem RR DD j) i : Nat)) := row_next HDDl.out hDD0 HPA5.out fun i hi => by
          rw [dif_of HPM.out (by omega), hqe, HDI.out, Nat.sub_eq_of_eq_add HNX.out]
        have HRW6 := Lib.hid hrow6; clear hrow6 HPA5
        have HQE := Lib.hid hqe; clear hqe hbor
        go_wp2
        go_roundw
        case rel =>
          have e := HSP5.out.step (v := (q : Int)) (by rw [HQE.out, HDI.out]) (by omega)
          exact ⟨k + 1, by omega, by go_num, by rw [HJ1.out]; exact HRW6.out.setOther (by show gr ≠ gq; omega) _, by rw [HJ1.out]; exact e, hb5.setCell (by show gr ≤ gq; omega) _⟩
        case measure => simp [intOf]; omega
    · obtain rfl : k = t + 1 := by omega
      have e0 : t + 1 - (t + 1) = 0 := by omega
      rw [e0, rem_zero] at hrow
      rw [e0] at hsp
      have hqw : Words wr gq 0 (t + 1) (RR / DD) := by
        obtain ⟨f, h1, _, h3⟩ := hsp
        intro i hi
        rw [Nat.zero_add, h1.cell hi, h3 i (by omega) hi]
      have hgq : gq < wr.heap.size := by
        obtain ⟨f, h1, _⟩ := hsp
        exact h1.lt
      have hgr : gr < wr.heap.size := hrow.lt
      have hrw := words_of_row hrow (Nat.le_refl _)
      have hrl : RR % DD < B32 ^ (n + 1) := Nat.lt_trans (Nat.mod_lt _ hDD0) (Nat.lt_of_lt_of_le HDDl.out (Nat.pow_le_pow_right (by decide) (by omega)))
      have hbelw : Below w.heap.size w wr := by
        rw [HGW.out]; exact hbw3.trans (hbel.mono (by omega))
      have HQW := Lib.hid hqw; clear hqw
      have HRWW := Lib.hid hrw; clear hrw
      have HRL := Lib.hid hrl; clear hrl
      clear hrow hsp e0
      go_wp2_with fail
      refine (trim_any gq 0 (t + 1) (t + 1) (RR / DD) _ (by omega) (by omega) HQL.out HQW.out).mono ?_
      rintro e w' ⟨rfl, rfl⟩
      go_wp2_with fail
      refine (shiftRight_any gr 0 (n + 1) (n + 1) s (RR % DD) _ (by omega) (by omega) hs32 hgr HRWW.out HRL.out).mono ?_
      rintro e w7 ⟨rfl, hr7, hb7⟩
      rw [HRM.out] at hr7
      have hul : U % D < B32 ^ (n + 1) := by
        rw [← HRM.out]
        exact Nat.lt_of_le_of_lt (Nat.div_le_self _ _) HRL.out
      have HR7 := Lib.hid hr7; clear hr7
      have HUL := Lib.hid hul; clear hul
      go_wp2_with fail
      refine (trim_any wr.heap.size 0 (n + 1) (n + 1) (U % D) _ (by omega) (by omega) HUL.out (words_of_row HR7.out (Nat.le_refl _))).mono ?_
      rintro e w' ⟨rfl, rfl⟩
      go_wp2
      go_ret2
      have hn1 : nd (U / D) ≤ t + 1 := nd_le.2 (by rw [← HQ.out]; exact HQL.out)
      have hn2 : nd (U % D) ≤ n + 1 := nd_le.2 HUL.out
      have hqw7 := HQW.out.below hb7 hgq
      rw [HQ.out] at hqw7
      refine ⟨_, _, rfl, ⟨_, _, by rw [HQ.out]; rfl, by omega, by omega, fun _ => ⟨gq, 0, rfl, Nat.lt_of_lt_of_le hgq hb7.size, fun i hi => hqw7 i (by omega)⟩⟩,
        ⟨_, _, rfl, by omega, by omega, fun _ => ⟨_, 0, rfl, HR7.out.lt, fun i hi => words_of_row HR7.out (Nat.le_refl _) i (by omega)⟩⟩, hbelw.trans (hb7.mono hbelw.size)⟩
end Go.Proofs.YtogmgfdihmacpaaGreatDoor


/-
  Contracts of package natural, the eleventh part: divide, DivMod.
-/
namespace Go.Proofs.YtogmgfdihmacpaaGreatDoor
open Go.RowKit
set_option linter.unusedVariables false

theorem setCells_row {g t L : Nat} : ∀ (ns : List Nat) (o : Nat) (w : World) (f : Nat → Nat), w.rowIs g t L (fun j => .int .u32 (f j : Nat)) →
    ∃ f' : Nat → Nat, (w.setCells g o (ns.map fun x => Value.int .u32 (x : Nat))).rowIs g t L (fun j => .int .u32 (f' j : Nat)) ∧ (∀ i (h : i < ns.length), f' (o + i) = ns[i]) ∧ (∀ j, j < o → f' j = f j) ∧ Only g w (w.setCells g o (ns.map fun x => Value.int .u32 (x : Nat))) := by
  intro ns
  induction ns with
  | nil => intro o w f h; exact ⟨f, h, fun i hi => absurd hi (by simp), fun _ _ => rfl, Only.refl _ _⟩
  | cons x ns ih =>
    intro o w f h
    have h1 := set_row (h := fun j => if j = o then x else f j) h (i := o) (v := (x : Nat)) (by simp) (fun j hj => by simp [hj])
    obtain ⟨f', r1, r2, r3, r4⟩ := ih (o + 1) _ _ h1
    refine ⟨f', r1, fun i hi => ?_, fun j hj => ?_, ((Only.refl g w).set o _).trans r4⟩
    · cases i with
      | zero => rw [Nat.add_zero, r3 o (by omega)]; simp
      | succ i =>
        have := r2 i (by simpa using hi)
        rw [show o + (i + 1) = o + 1 + i by omega, this]; rfl
    · rw [r3 j (by omega)]
      show (if j = o then _ else _) = _
      rw [if_neg (by omega)]
theorem run_copy_words {W : World} {g t n gu ou c cu N ty : Nat} (h : W.rowIs g t n (fun _ => .int .u32 0)) (hu : Words W gu ou n N) :
    ∃ W', (Builtin.copy_ #[84, 84] ty #[.slice (some ⟨g, 0, none⟩) n c, .slice (some ⟨gu, ou, none⟩) n cu]).run Tryz.prog W = .ok (goInt n) W' ∧ Row W' g t n n N ∧ Only g W W' := by
  have hr : W.rowIs g t n (fun j => .int .u32 ((fun _ => 0 : Nat → Nat) j : Nat)) := h
  obtain ⟨f', r1, r2, r3, r4⟩ := setCells_row ((List.range n).map (wd N)) 0 W _ hr
  have hlen : (((List.range n).map (wd N)).map fun x => Value.int .u32 (x : Nat)).length = n := by simp
  refine ⟨_, ?_, ⟨f', r1, fun j hj => ?_⟩, r4⟩
  · have hs : ((Tryz.prog.info? 86).map (·.size)) = some 1 := by kernel_rfl
    have := Go.run_copy_cells (P := Tryz.prog) W 84 84 ty 86 g 0 n c ⟨gu, ou, none⟩ n cu (((List.range n).map (wd N)).map fun x => Value.int .u32 (x : Nat)) Tryz.underlying84 hs (by simp)
      (fun j v hj => by
        have hjn : j < n := by
          have := (List.getElem?_eq_some_iff.1 hj).1
          simpa using this
        have e : (⟨gu, ou, none⟩ : Addr).add j = ⟨gu, ou + j, none⟩ := by unfold Addr.add; split <;> simp_all
        rw [e, hu j hjn]
        simp [hjn] at hj
        rw [hj]) (fun j hj => by rw [Nat.zero_add, h.cell (by simpa using hj)]; rfl) (fun j _ => h.frozen _) (fun v hv => by
        simp at hv
        obtain ⟨a, _, rfl⟩ := hv
        rfl)
    rw [hlen] at this
    exact this
  · have := r2 j (by simpa using hj)
    simpa using this

theorem nd_one {D : Nat} (h : nd D = 1) : D < 4294967296 ∧ 0 < D ∧ wd D 0 = D := by
  have h1 := nd_lt D
  rw [h, Nat.pow_one] at h1
  refine ⟨h1, ?_, ?_⟩
  · rcases Nat.eq_zero_or_pos D with e | e
    · rw [e] at h; exact absurd h (by decide)
    · exact e
  · unfold wd; simp; exact Nat.mod_eq_of_lt h1
theorem nd_small {U D : Nat} (h : nd U < nd D) : U < D := by
  rcases Nat.lt_or_ge U D with h1 | h1
  · exact h1
  · have : nd D ≤ nd U := nd_le.2 (Nat.lt_of_le_of_lt h1 (nd_lt U))
    omega
theorem nd_top {D : Nat} (h : 2 ≤ nd D) : wd D (nd D - 1) ≠ 0 := by
  intro e
  have h1 : D < B32 ^ (nd D - 1 + 1) := by rw [Nat.sub_add_cancel (by omega)]; exact nd_lt D
  have := nd_le.2 ((wd_top h1).1 e)
  omega

set_option maxHeartbeats 1000000 in
set_option maxRecDepth 20000 in
theorem divide_any (vu vv : Value) (U D : Nat) (w : World) (hu : Sl w vu (nd U) U) (hv : Sl w vv (nd D) D) (hn : nd U ≤ 100) (hD : 0 < D) (hn2 : nd D ≤ 100) :
    Calls Tryz.prog 90 #[vu, vv] w (DivP U D w) := by
  have hu0 := hu
  obtain ⟨A, c, rfl, h1, h2, h3⟩ := hu
  obtain ⟨A', c', rfl, h4, h5, h6⟩ := hv
  have hd1 := nd_pos hD
  obtain ⟨gv, ov, rfl, hgv, hwv⟩ := h6 hd1
  have HU0 := Lib.hid hu0; clear hu0
  have HWV := Lib.hid hwv; clear hwv
  clear h6
  by_cases hlt : nd U < nd D
  · have hud := nd_small hlt
    have e1 : U / D = 0 := Nat.div_eq_of_lt hud
    have e2 : U % D = U := Nat.mod_eq_of_lt hud
    have E1 := Lib.hid e1; clear e1
    have E2 := Lib.hid e2; clear e2
    clear h3
    have hlti : (nd U : Int) < (nd D : Int) := by omega
    go_enter Tryz.func90, Tryz.ntmps90
    go_wp2
    go_ret2
    refine ⟨_, _, rfl, ?_, ?_, Below.refl _ _⟩
    · rw [E1.out]; exact ⟨none, 0, rfl, by decide, by omega, fun h => absurd h (by decide)⟩
    · rw [E2.out]; exact HU0.out
  · obtain ⟨gu, ou, rfl, hgu, hwu⟩ := h3 (by omega)
    have HWU := Lib.hid hwu; clear hwu h3
    by_cases hone : nd D = 1
    · have hn1 := nd_one hone
      have hcell := HWV.out 0 (by omega)
      rw [hn1.2.2] at hcell
      have hul := nd_lt U
      have hone' : ((nd D : Int) == 1) = true := by rw [hone]; rfl
      have HUL := Lib.hid hul; clear hul
      have hD1 : D < 4294967296 := hn1.1
      have HONE := Lib.hid hone
      rw [hone] at hlt h4 ⊢
      clear hn1 hone hone' hd1 hn2
      generalize hn' : nd U = n at *
      have HN := Lib.hid hn'; clear hn'
      have hmk := run_make_words n (by omega)
      go_enter Tryz.func90, Tryz.ntmps90
      go_wp2
      have hr1 : (w.alloc (.cells (madeCells #[.int .u32 0] n) 86)).rowIs w.heap.size 86 n (fun _ => .int .u32 0) := World.rowIs_made w (.int .u32 0) n _
      have hb1 : Below w.heap.size w (w.alloc (.cells (madeCells #[.int .u32 0] n) 86)) := (Below.refl _ _).alloc (Nat.le_refl _) _
      have hw1 := HWU.out.below hb1 hgu
      have hc1 : (w.alloc (.cells (madeCells #[.int .u32 0] n) 86)).cell? ⟨gv, ov, none⟩ = some (.int .u32 (D : Nat)) := (hb1.cell (p := ⟨gv, ov, none⟩) hgv).trans hcell
      have hs1 : (w.alloc (.cells (madeCells #[.int .u32 0] n) 86)).heap.size = w.heap.size + 1 := by simp
      generalize w.alloc _ = w1 at *
      obtain ⟨w2, hrun, hrow2, ho2⟩ := run_copy_words (c := n) (cu := c) (ty := 3) hr1 hw1
      rw [hrun]
      have hc2 : w2.cell? ⟨gv, ov, none⟩ = some (.int .u32 (D : Nat)) := by
        rw [ho2.cell (by omega) (by omega)]; exact hc1
      have hb2 : Below w.heap.size w w2 := ho2.below hb1 (by omega) (Nat.le_refl _)
      have HR2 := Lib.hid hrow2; clear hrow2
      have hg2 : w.heap.size < w2.heap.size := HR2.out.lt
      clear hrun ho2 hr1 hb1 hw1 hc1 hs1 hmk hcell
      go_wp2_with fail
      refine (divideByDigit_any w.heap.size n n D n 86 U _ (by omega) (by omega) (by omega) hD hD1 HR2.out HUL.out).mono ?_
      rintro e w3 ⟨rfl, hrow3, ho3⟩
      have hrl : U % D < 4294967296 := Nat.lt_trans (Nat.mod_lt _ hD) hD1
      obtain ⟨r, hr⟩ : ∃ r, r = U % D := ⟨_, rfl⟩
      rw [← hr] at hrl ⊢
      have HRR := Lib.hid hr; clear hr
      have hb3 : Below w.heap.size w w3 := ho3.below hb2 (by omega) (Nat.le_refl _)
      have hg3 : w.heap.size < w3.heap.size := Nat.lt_of_lt_of_le hg2 ho3.size
      have hq : U / D < B32 ^ n := Nat.lt_of_le_of_lt (Nat.div_le_self _ _) HUL.out
      have hqw := hrow3.words (Nat.le_refl _)
      have HQ := Lib.hid hq; clear hq
      have HQW := Lib.hid hqw; clear hqw hrow3 hc2 hb2
      go_wp2_with fail
      refine (trim_any w.heap.size 0 n n (U / D) _ (by omega) (by omega) HQ.out HQW.out).mono ?_
      rintro e w' ⟨rfl, rfl⟩
      go_wp2_with fail
      have hwr : Words (w3.alloc (.cells #[.int .u32 (r : Nat)] 86)) w3.heap.size 0 1 r := by
        intro j hj
        obtain rfl : j = 0 := by omega
        rw [Nat.add_zero, World.cell?_alloc_new]
        unfold wd
        rw [Nat.pow_zero, Nat.div_one, b32_eq, Nat.mod_eq_of_lt hrl]
        rfl
      have hb4 : Below w3.heap.size w3 (w3.alloc (.cells #[.int .u32 (r : Nat)] 86)) := (Below.refl _ _).alloc (Nat.le_refl _) _
      have hs4 : (w3.alloc (.cells #[.int .u32 (r : Nat)] 86)).heap.size = w3.heap.size + 1 := by simp
      have hr1 : r < B32 ^ 1 := by rw [Nat.pow_one]; exact hrl
      refine (trim_any w3.heap.size 0 1 1 r _ (by omega) (by omega) hr1 hwr).mono ?_
      rintro e w' ⟨rfl, rfl⟩
      generalize w3.alloc _ = w4 at *
      have HW4 := Lib.hid hwr; clear hwr
      have HR1 := Lib.hid hr1; clear hr1
      go_wp2
      go_ret2
      have hn1 : nd (U / D) ≤ n := nd_le.2 HQ.out
      have hn2 : nd r ≤ 1 := nd_le.2 HR1.out
      have hq4 := HQW.out.below hb4 hg3
      refine ⟨_, _, rfl, ⟨_, _, rfl, by omega, by omega, fun _ => ⟨_, 0, rfl, by omega, fun i hi => hq4 i (by omega)⟩⟩, ?_, hb3.trans (hb4.mono hb3.size)⟩
      rw [← HRR.out]
      exact ⟨_, _, rfl, by omega, by omega, fun _ => ⟨_, 0, rfl, by omega, fun i hi => HW4.out i (by omega)⟩⟩
    · have htop := nd_top (show 2 ≤ nd D by omega)
      have hul := nd_lt U
      have hdl := nd_lt D
      have HT := Lib.hid htop; clear htop
      have HUL := Lib.hid hul; clear hul
      have HDL := Lib.hid hdl; clear hdl
      generalize hn' : nd U = n at *
      generalize hm' : nd D = m at *
      have HN := Lib.hid hn'; clear hn'
      have HM := Lib.hid hm'; clear hm'
      have hm1 : ((m : Int) == 1) = false := by rw [beq_eq_false_iff_ne]; omega
      go_enter Tryz.func90, Tryz.ntmps90
      go_wp2_with fail
      refine (divideLong_any gu ou n c gv ov m c' U D _ (by omega) (by omega) hn h1 h2 h4 h5 hgu hgv HUL.out HDL.out HT.out HWU.out HWV.out).mono ?_
      rintro e w' ⟨v1, v2, rfl, s1, s2, hb⟩
      have S1 := Lib.hid s1; clear s1
      have S2 := Lib.hid s2; clear s2
      go_wp2
      go_ret2
      exact ⟨v1, v2, rfl, S1.out, S2.out, hb⟩

theorem sl_load {w : World} {s : ByteArray} {g : Nat} (h : Can s) (hr : w.rowIs g 86 ((s.size + 3) / 4) (fun j => .int .u32 (wd (V s) j : Nat))) :
    Sl w (.slice (some ⟨g, 0, none⟩) ((s.size + 3) / 4) ((s.size + 3) / 4)) (nd (V s)) (V s) := by
  have h1 := h.1
  rw [← nd_can h] at hr ⊢
  have h2 : nd (V s) ≤ 100 := by rw [nd_can h]; omega
  exact ⟨_, _, rfl, Nat.le_refl _, by omega, fun _ => ⟨g, 0, rfl, hr.lt, words_of_row hr (Nat.le_refl _)⟩⟩
/-- Quotient and remainder, or ErrZero. -/
def divN (a b : Nat) : Value := if b = 0 then .tuple #[.string (E 0), .string (E 0), .int .i64 11] else .tuple #[.string (E (a / b)), .string (E (a % b)), .int .i64 0]
theorem ret_three {a b c x y z : Value} (h1 : a = x) (h2 : b = y) (h3 : c = z) : Ending.returned (.tuple #[a, b, c]) = .returned (.tuple #[x, y, z]) := by rw [h1, h2, h3]

set_option maxHeartbeats 400000 in
theorem divMod_no (s t : ByteArray) (w : World) (h : ¬ (Can s ∧ Can t)) :
    Calls Tryz.prog 64 #[.string s, .string t] w fun e w' => e = .returned (.tuple #[.string (E 0), .string (E 0), .int .i64 3]) ∧ w = w' := by
  by_cases hc : Can s
  · have hd : ¬ Can t := fun q => h ⟨hc, q⟩
    have HC := Lib.hid hc; clear hc h
    have HD := Lib.hid hd; clear hd
    go_enter Tryz.func64, Tryz.ntmps64
    go_wp2_with fail
    refine (valid_yes s _ HC.out).mono ?_; rintro e w' ⟨rfl, rfl⟩
    go_wp2_with fail
    refine (valid_no t _ HD.out).mono ?_; rintro e w' ⟨rfl, rfl⟩
    go_wp2
    go_ret3
    exact ⟨rfl, rfl⟩
  · have HC := Lib.hid hc; clear hc h
    go_enter Tryz.func64, Tryz.ntmps64
    go_wp2_with fail
    refine (valid_no s _ HC.out).mono ?_; rintro e w' ⟨rfl, rfl⟩
    go_wp2
    go_ret3
    exact ⟨rfl, rfl⟩
theorem V_zero_iff {s : ByteArray} (h : Can s) : V s = 0 ↔ s.size = 0 := by
  constructor
  · intro e
    have := enc_bval h.2
    unfold V at e
    rw [e] at this
    rw [size_eq, ← this]; rfl
  · intro e
    unfold V
    have : s.data.toList = [] := List.eq_nil_of_length_eq_zero (by rw [← size_eq]; exact e)
    rw [this]; rfl

set_option maxHeartbeats 1000000 in
theorem divMod_yes (s t : ByteArray) (w : World) (hs : Can s) (ht : Can t) :
    Calls Tryz.prog 64 #[.string s, .string t] w fun e w' => e = .returned (divN (V s) (V t)) ∧ Below w.heap.size w w' := by
  by_cases h0 : t.size = 0
  · have hE := empty_of h0
    have hz : divN (V s) (V t) = .tuple #[.string (E 0), .string (E 0), .int .i64 11] := by unfold divN; rw [if_pos ((V_zero_iff ht).2 h0)]
    rw [hz]
    have HS := Lib.hid hs; clear hs
    have HT := Lib.hid ht; clear ht hz h0
    go_enter Tryz.func64, Tryz.ntmps64
    go_wp2_with fail
    refine (valid_yes s _ HS.out).mono ?_; rintro e w' ⟨rfl, rfl⟩
    go_wp2_with fail
    refine (valid_yes t _ HT.out).mono ?_; rintro e w' ⟨rfl, rfl⟩
    go_wp2
    go_ret3
    exact ⟨rfl, Below.refl _ _⟩
  · have hE := not_empty_of h0
    have hv0 : V t ≠ 0 := fun e => h0 ((V_zero_iff ht).1 e)
    have hz : divN (V s) (V t) = .tuple #[.string (E (V s / V t)), .string (E (V s % V t)), .int .i64 0] := by unfold divN; rw [if_neg hv0]
    rw [hz]
    have h1 := hs.1
    have h2 := ht.1
    have hq : V s / V t < Lim := Nat.lt_of_le_of_lt (Nat.div_le_self _ _) (V_lim hs)
    have hr : V s % V t < Lim := Nat.lt_of_le_of_lt (Nat.mod_le _ _) (V_lim hs)
    have hdp : 0 < V t := by omega
    have HS := Lib.hid hs; clear hs
    have HT := Lib.hid ht; clear ht hz h0 hv0
    have HQ := Lib.hid (okN_yes hq); clear hq
    have HR := Lib.hid (okN_yes hr); clear hr
    go_enter Tryz.func64, Tryz.ntmps64
    go_wp2_with fail
    refine (valid_yes s _ HS.out).mono ?_; rintro e w' ⟨rfl, rfl⟩
    go_wp2_with fail
    refine (valid_yes t _ HT.out).mono ?_; rintro e w' ⟨rfl, rfl⟩
    go_wp2_with fail
    refine (load_any s _ (by omega)).mono ?_
    rintro e w1 ⟨rfl, hx, hb1⟩
    have HX := Lib.hid (sl_load HS.out hx); clear hx
    go_wp2_with fail
    refine (load_any t _ (by omega)).mono ?_
    rintro e w2 ⟨rfl, hy, hb2⟩
    have HY := Lib.hid (sl_load HT.out hy); clear hy
    have HX2 := Lib.hid (HX.out.below hb2); clear HX
    have hn1 : nd (V s) ≤ 100 := by rw [nd_can HS.out]; omega
    have hn2 : nd (V t) ≤ 100 := by rw [nd_can HT.out]; omega
    go_wp2_with fail
    refine (divide_any _ _ (V s) (V t) _ HX2.out HY.out hn1 hdp hn2).mono ?_
    rintro e w3 ⟨v1, v2, rfl, s1, s2, hb3⟩
    have S1 := Lib.hid s1; clear s1
    have S2 := Lib.hid s2; clear s2
    go_wp2_with fail
    refine (store_any v1 _ _ _ (nd_lt _) S1.out).mono ?_
    rintro e w4 ⟨rfl, hb4⟩
    rw [HQ.out]
    have S3 := Lib.hid (S2.out.below hb4); clear S2
    go_wp2_with fail
    refine (store_any v2 _ _ _ (nd_lt _) S3.out).mono ?_
    rintro e w5 ⟨rfl, hb5⟩
    rw [HR.out]
    go_wp2
    go_ret3
    have l1 := hb1.size
    have l2 := hb2.size
    have l3 := hb3.size
    have l4 := hb4.size
    exact ⟨rfl, (((hb1.trans (hb2.mono (by omega))).trans (hb3.mono (by omega))).trans (hb4.mono (by omega))).trans (hb5.mono (by omega))⟩
end Go.Proofs.YtogmgfdihmacpaaGreatDoor

