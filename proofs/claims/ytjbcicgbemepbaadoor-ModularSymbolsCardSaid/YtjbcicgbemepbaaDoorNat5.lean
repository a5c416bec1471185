/-
  Contracts of package natural, the fifth part: trim, store.
-/
import Derived.Test.YtjbcicgbemepbaaDoorNat4
namespace Go.Proofs.YtjbcicgbemepbaaDoor
open Go.RowKit
set_option linter.unusedVariables false

/-- n cells from place o of block g on are the first n digits of N. -/
def Words (w : World) (g o n N : Nat) : Prop := ∀ j, j < n → w.cell? ⟨g, o + j, none⟩ = some (.int .u32 (wd N j : Nat))
/-- A slice of n digits that reads as the number N. -/
def Sl (w : World) (v : Value) (n N : Nat) : Prop :=
  ∃ A c, v = .slice A n c ∧ n ≤ c ∧ c ≤ 1000 ∧ (0 < n → ∃ g o, A = some ⟨g, o, none⟩ ∧ g < w.heap.size ∧ Words w g o n N)
theorem Words.below {w w' : World} {g o n N : Nat} (h : Words w g o n N) (hb : Below w.heap.size w w') (hg : g < w.heap.size) : Words w' g o n N :=
  fun j hj => (hb.cell (p := ⟨g, o + j, none⟩) hg).trans (h j hj)
theorem Sl.below {w w' : World} {v : Value} {n N : Nat} (h : Sl w v n N) (hb : Below w.heap.size w w') : Sl w' v n N := by
  obtain ⟨A, c, rfl, h1, h2, h3⟩ := h
  refine ⟨A, c, rfl, h1, h2, fun hn => ?_⟩
  obtain ⟨g, o, rfl, hg, hw⟩ := h3 hn
  exact ⟨g, o, rfl, Nat.lt_of_lt_of_le hg hb.size, hw.below hb hg⟩

/-- The number of digits. -/
def nd (n : Nat) : Nat := ((enc n).length + 3) / 4
theorem nd_le {n m : Nat} : nd n ≤ m ↔ n < B32 ^ m := by
  unfold nd
  rw [b32_powj, ← enc_length_le]
  omega
theorem nd_lt (n : Nat) : n < B32 ^ nd n := nd_le.1 (Nat.le_refl _)
theorem nd_zero : nd 0 = 0 := rfl
theorem nd_pos {n : Nat} (h : 0 < n) : 0 < nd n := by
  rcases Nat.eq_zero_or_pos (nd n) with e | e
  · have := nd_lt n; rw [e] at this; simp at this; omega
  · exact e
theorem nd_can {s : ByteArray} (h : Can s) : nd (V s) = (s.size + 3) / 4 := by
  unfold nd V; rw [enc_bval h.2, ← size_eq]
theorem b32_pos (k : Nat) : 0 < B32 ^ k := Nat.pow_pos (by decide)
/-- The highest digit is 0 exactly if one digit fewer is enough. -/
theorem wd_top {n m : Nat} (h : n < B32 ^ (m + 1)) : wd n m = 0 ↔ n < B32 ^ m := by
  unfold wd
  have h1 : n / B32 ^ m < B32 := Nat.div_lt_of_lt_mul (by rw [Nat.pow_succ] at h; exact h)
  rw [Nat.mod_eq_of_lt h1, Nat.div_eq_zero_iff]
  have := b32_pos m
  omega

set_option maxHeartbeats 400000 in
theorem trim_any (g o n c N : Nat) (w : World) (hn : n ≤ c) (hc : c ≤ 1000) (hN : N < B32 ^ n) (hw : Words w g o n N) :
    Calls Tryd.prog 39 #[.slice (some ⟨g, o, none⟩) n c] w fun e w' => e = .returned (.slice (some ⟨g, o, none⟩) (nd N) c) ∧ w = w' := by
  have HW := Lib.hid hw; clear hw
  have HN := Lib.hid hN; clear hN
  go_enter Tryd.func39, Tryd.ntmps39
  go_wp2
  go_loop [0] (fun v => ∃ m : Nat, m ≤ n ∧ v = .slice (some ⟨g, o, none⟩) m c ∧ Hid (N < B32 ^ m)) (fun v => lenOf v)
  case atStart => exact ⟨n, by omega, rfl, HN⟩
  case round =>
    obtain ⟨m, hm, rfl, HM⟩ := hrel
    rcases Nat.eq_zero_or_pos m with h0 | h0
    · subst h0
      have he : nd N = 0 := by have := nd_le.2 HM.out; omega
      have HE := Lib.hid he; clear he
      go_wp2
      go_ret
      exact ⟨ret_v (by rw [HE.out]; rfl), rfl⟩
    · obtain ⟨m, rfl⟩ : ∃ q, m = q + 1 := ⟨m - 1, by omega⟩
      have hcell := HW.out m (by omega)
      have hlt := wd_lt N m
      by_cases hz : wd N m = 0
      · have hzz : ((wd N m : Int) == 0) = true := by rw [hz]; rfl
        have HM' := Lib.hid ((wd_top HM.out).1 hz)
        clear hz h0
        go_wp2
        go_round
        case rel => exact ⟨m, by omega, rfl, HM'⟩
        case measure => simp [lenOf]
      · have hzz : ((wd N m : Int) == 0) = false := by rw [beq_eq_false_iff_ne]; omega
        have he : nd N = m + 1 := by
          have h1 := nd_le.2 HM.out
          have h2 : ¬ nd N ≤ m := fun q => hz ((wd_top HM.out).2 (nd_le.1 q))
          omega
        have HE := Lib.hid he; clear he hz h0
        go_wp2
        go_ret
        exact ⟨ret_v (by rw [HE.out]; rfl), rfl⟩

theorem dig_of_wd {N k q r : Nat} (hq : q = k / 4) (hr : r = k % 4) : (wd N q : Int) / 2 ^ (8 * r) % 256 = (dig N k : Nat) := by
  have e : wd N q / 2 ^ (8 * r) % 256 = dig N k := by
    have hk : k = 4 * q + r := by omega
    have hr4 : r < 4 := by omega
    subst hk
    unfold wd dig
    rw [b32_powj, pow256, Nat.pow_add, ← Nat.div_div_eq_div_mul]
    generalize N / 256 ^ (4 * q) = x
    have : B32 = 256 ^ r * 256 ^ (4 - r) := by rw [b32_pow, ← Nat.pow_add]; congr 1; omega
    rw [this, Nat.mod_mul_right_div_self]
    have h4 : 256 ^ (4 - r) = 256 * 256 ^ (3 - r) := by rw [Nat.mul_comm, ← Nat.pow_succ]; congr 1; omega
    rw [h4, Nat.mod_mul_right_mod]
  rw [← e]
  simp

set_option maxHeartbeats 400000 in
theorem store_any (v : Value) (n N : Nat) (w : World) (hN : N < B32 ^ n) (hv : Sl w v n N) :
    Calls Tryd.prog 26 #[v] w fun e w' => e = .returned (okN N) ∧ Below w.heap.size w w' := by
  obtain ⟨A, c, rfl, hnc, hc, hw⟩ := hv
  have hmk := run_make_bytes (4 * n) (by omega)
  have hmk : ∀ w : World, (Instr.makeSlice 62 (.int .i64 (4 * (n : Int))) (.int .i64 (4 * (n : Int)))).run Tryd.prog w = .ok (.slice (some ⟨w.heap.size, 0, none⟩) (4 * n) (4 * n)) (w.alloc (.cells (madeCells #[.int .u8 0] (4 * n)) 5)) := hmk
  have HW := Lib.hid hw; clear hw
  have HN := Lib.hid hN; clear hN
  go_enter Tryd.func26, Tryd.ntmps26
  go_wp2
  go_loopw [5, 13] (fun _ v wr => ∃ k : Nat, k ≤ 4 * n ∧ v = .int .i64 k ∧ wr.rowIs w.heap.size 5 (4 * n) (fun j => .int .u8 (partB N (4 * n) k j : Nat)) ∧ Below w.heap.size w wr) (fun _ v _ => 4 * n - (intOf v).toNat)
  case atStart => exact ⟨0, by omega, rfl, part_zero w _ _ _, (Below.refl _ _).alloc (Nat.le_refl _) _⟩
  case round =>
    obtain ⟨k, hk, rfl, hrow, hbel⟩ := hrel
    by_cases hlt : k < 4 * n
    · obtain ⟨g, o, rfl, hg, hws⟩ := HW.out (by omega)
      obtain ⟨q, hq⟩ : ∃ q, q = k / 4 := ⟨_, rfl⟩
      obtain ⟨r, hr⟩ : ∃ r, r = k % 4 := ⟨_, rfl⟩
      have hr4 : r < 4 := by omega
      have hqn : q < n := by omega
      have hcell := hrow.cell (i := 4 * n - 1 - k) (by omega)
      have hfr := hrow.frozen (4 * n - 1 - k)
      have hsrc : wr.cell? ⟨g, o + q, none⟩ = some (.int .u32 (wd N q : Nat)) := (hbel.cell (p := ⟨g, o + q, none⟩) hg).trans (hws q hqn)
      have hwl := wd_lt N q
      have q1 : (k : Int) / 4 = (q : Int) := by omega
      have q2 : (k : Int) % 4 = (r : Int) := by omega
      have HQ := Lib.hid hq; clear hq
      have HRR := Lib.hid hr; clear hr
      have HR := Lib.hid hrow; clear hrow hws
      go_wp2
      go_roundw
      case rel => exact ⟨k + 1, by omega, by go_num, part_step HR.out hlt (dig_of_wd HQ.out HRR.out), hbel.setCell (Nat.le_refl _) _⟩
      case measure => simp [intOf]; omega
    · obtain rfl : k = 4 * n := by omega
      have hb := part_done hrow
      have hN4 : N < 256 ^ (4 * n) := by rw [← b32_powj]; exact HN.out
      have hE := E_beN hN4
      have hsz := E_size_lim N
      have HB := Lib.hid hb; clear hb
      have HE := Lib.hid hE; clear hE hN4
      have HZ := Lib.hid hsz; clear hsz
      go_wp2_with fail
      refine (strip_any w.heap.size 0 (4 * n) (4 * n) (beN (4 * n) N) _ (beN_length _ _) (by omega) (by omega) (by omega) HB.out).mono ?_
      rintro e w' ⟨rfl, rfl⟩
      rw [HE.out]
      by_cases hfit : N < Lim
      · have hf := HZ.out.2 hfit
        have ho := Lib.hid (okN_yes hfit)
        clear hfit
        go_wp2
        go_ret2
        exact ⟨ret_v ho.out.symm, hbel⟩
      · have hf : ¬ (E N).size ≤ 128 := fun q => hfit (HZ.out.1 q)
        have ho := Lib.hid (okN_no hfit)
        clear hfit
        go_wp2
        go_ret2
        exact ⟨ret_v ho.out.symm, hbel⟩
end Go.Proofs.YtjbcicgbemepbaaDoor
