/-
  Several parts in one text (NB).
-/
import Derived.Test.YtogmgfdihmacpaaGreatDoorNA
import Derived.Deep.RegionWith
import Derived.StillTailTactics
/-
  Contracts of package natural, the fourth part: load, trim, store.
-/
namespace Go.Proofs.YtogmgfdihmacpaaGreatDoor
open Go.RowKit
set_option linter.unusedVariables false

theorem flip_w {P : Program} {f : FuncId} {args : Array Value} {w : World} {v : Ending} (h : Calls P f args w fun e w' => e = v ∧ w = w') : Calls P f args w fun e w' => e = v ∧ w' = w :=
  h.mono fun _ _ ⟨a, b⟩ => ⟨a, b.symm⟩
theorem shl_u32 {d r : Nat} (h : d * 2 ^ (8 * r) < 4294967296) : IntKind.u32.wrap ((d : Int) * 2 ^ (8 * (r : Int)).toNat) = ((d * 2 ^ (8 * r) : Nat) : Int) := by
  have e : (d : Int) * 2 ^ (8 * (r : Int)).toNat = ((d * 2 ^ (8 * r) : Nat) : Int) := by
    rw [show (8 * (r : Int)).toNat = 8 * r by omega]; simp
  rw [e]
  exact IntWalk.u32_in _ (by omega)
/-- The base of the digits. -/
def B32 : Nat := 4294967296
theorem b32_eq : B32 = 4294967296 := rfl
theorem b32_pow : B32 = 256 ^ 4 := rfl
/-- Digit i to the base 2^32. -/
def wd (n i : Nat) : Nat := n / B32 ^ i % B32
theorem wd_lt (n i : Nat) : wd n i < 4294967296 := by unfold wd; exact Nat.mod_lt _ (by decide)

/-- The part of a number that lies in its first k bytes. -/
def low (n k : Nat) : Nat := n % 256 ^ k

theorem b32_powj (j : Nat) : B32 ^ j = 256 ^ (4 * j) := by rw [b32_pow, ← Nat.pow_mul]
theorem low_div (v k m : Nat) (h : m ≤ k) : low v k / 256 ^ m = v / 256 ^ m % 256 ^ (k - m) := by
  unfold low
  have : 256 ^ k = 256 ^ m * 256 ^ (k - m) := by rw [← Nat.pow_add]; congr 1; omega
  rw [this, Nat.mod_mul_right_div_self]
theorem low_succ (v k : Nat) : low v (k + 1) = low v k + 256 ^ k * dig v k := by
  unfold low dig; rw [Nat.pow_succ, Nat.mod_mul]
theorem low_lt (v k : Nat) : low v k < 256 ^ k := Nat.mod_lt _ (Nat.pow_pos (by omega))
theorem low_zero (v : Nat) : low v 0 = 0 := by simp [low, Nat.mod_one]
theorem low_all {s : ByteArray} : low (V s) s.size = V s := Nat.mod_eq_of_lt (V_lt s)
theorem wd_zero (j : Nat) : wd 0 j = 0 := by simp [wd]
theorem wd_small {n j : Nat} (h : n < 256 ^ (4 * j)) : wd n j = 0 := by
  unfold wd; rw [b32_powj, Nat.div_eq_of_lt h]; rfl
/-- The digit that holds byte k. -/
theorem wd_low_at (v q r : Nat) (hr : r < 4) : wd (low v (4 * q + r)) q = v / 256 ^ (4 * q) % 256 ^ r := by
  unfold wd
  rw [b32_powj, low_div _ _ _ (by omega), show 4 * q + r - 4 * q = r by omega]
  apply Nat.mod_eq_of_lt
  exact Nat.lt_of_lt_of_le (Nat.mod_lt _ (Nat.pow_pos (by omega))) (by rw [b32_pow]; exact Nat.pow_le_pow_right (by omega) (by omega))
theorem wd_step_at (v k q r : Nat) (hq : q = k / 4) (hr : r = k % 4) :
    wd (low v k) q < 2 ^ (8 * r) ∧ wd (low v (k + 1)) q = dig v k * 2 ^ (8 * r) + wd (low v k) q ∧ dig v k * 2 ^ (8 * r) < 4294967296 := by
  have hk : k = 4 * q + r := by omega
  have hr4 : r < 4 := by omega
  subst hk
  rw [pow256, wd_low_at v q r hr4]
  have hd : dig v (4 * q + r) = v / 256 ^ (4 * q) / 256 ^ r % 256 := by unfold dig; rw [Nat.pow_add, Nat.div_div_eq_div_mul]
  have hdl : dig v (4 * q + r) < 256 := Nat.mod_lt _ (by omega)
  refine ⟨Nat.mod_lt _ (Nat.pow_pos (by omega)), ?_, ?_⟩
  · rcases Nat.lt_or_ge r 3 with h3 | h3
    · rw [Nat.add_assoc, wd_low_at v q (r + 1) (by omega), hd, Nat.pow_succ, Nat.mod_mul, Nat.mul_comm (256 ^ r)]; omega
    · obtain rfl : r = 3 := by omega
      unfold wd
      rw [b32_powj, low_div _ _ _ (by omega), show 4 * q + 3 + 1 - 4 * q = 3 + 1 by omega, hd, Nat.pow_succ, Nat.mod_mul, Nat.mul_comm (256 ^ 3)]
      rw [Nat.mod_eq_of_lt]
      · omega
      · have h1 : v / 256 ^ (4 * q) % 256 ^ 3 < 256 ^ 3 := Nat.mod_lt _ (by decide)
        have h2 : v / 256 ^ (4 * q) / 256 ^ 3 % 256 < 256 := Nat.mod_lt _ (by decide)
        have h3 : B32 = 256 ^ 3 * 256 := rfl
        omega
  · have : 256 ^ r ≤ 256 ^ 3 := Nat.pow_le_pow_right (by omega) (by omega)
    have h4 := Nat.mul_le_mul (show dig v (4 * q + r) ≤ 255 by omega) this
    omega
theorem wd_step_other (v k q j : Nat) (hq : q = k / 4) (hj : j ≠ q) : wd (low v (k + 1)) j = wd (low v k) j := by
  rcases Nat.lt_or_ge j q with h | h
  · unfold wd
    rw [b32_powj, low_div _ _ _ (by omega), low_div _ _ _ (by omega)]
    have e1 : 256 ^ (k + 1 - 4 * j) = B32 * 256 ^ (k + 1 - 4 * j - 4) := by rw [b32_pow, ← Nat.pow_add]; congr 1; omega
    have e2 : 256 ^ (k - 4 * j) = B32 * 256 ^ (k - 4 * j - 4) := by rw [b32_pow, ← Nat.pow_add]; congr 1; omega
    rw [e1, e2, Nat.mod_mul_right_mod, Nat.mod_mul_right_mod]
  · rw [wd_small (Nat.lt_of_lt_of_le (low_lt v (k + 1)) (Nat.pow_le_pow_right (by omega) (by omega))), wd_small (Nat.lt_of_lt_of_le (low_lt v k) (Nat.pow_le_pow_right (by omega) (by omega)))]

theorem set_row {w : World} {g t n : Nat} {f h : Nat → Nat} {k : IntKind} {i : Nat} {v : Int} (hrow : w.rowIs g t n (fun j => .int k (f j : Nat))) (hv : v = (h i : Nat)) (ho : ∀ j, j ≠ i → h j = f j) :
    (w.setCell ⟨g, i, none⟩ (.int k v)).rowIs g t n (fun j => .int k (h j : Nat)) := by
  refine (hrow.set i (.int k v)).congr fun j _ => ?_
  show (if j = i then _ else _) = _
  split
  · rename_i e; subst e; rw [hv]
  · rename_i e; rw [ho j e]

set_option maxHeartbeats 400000 in
set_option maxRecDepth 20000 in
theorem load_any (s : ByteArray) (w : World) (hs : s.size ≤ 1000) :
    Calls Tryz.prog 56 #[.string s] w fun e w' => e = .returned (.slice (some ⟨w.heap.size, 0, none⟩) ((s.size + 3) / 4) ((s.size + 3) / 4)) ∧ w'.rowIs w.heap.size 86 ((s.size + 3) / 4) (fun j => .int .u32 (wd (V s) j : Nat)) ∧ Below w.heap.size w w' := by
  obtain ⟨m, hm⟩ : ∃ m, m = (s.size + 3) / 4 := ⟨_, rfl⟩
  have hmk := run_make_words m (by omega)
  have hdiv : ((s.size : Int) + 3) / 4 = (m : Int) := by omega
  have hm1 : s.size ≤ 4 * m := by omega
  have hm2 : m ≤ 251 := by omega
  rw [← hm]
  have HM := Lib.hid hm; clear hm
  go_enter Tryz.func56, Tryz.ntmps56
  go_wp2
  go_loopw [4, 12] (fun _ v wr => ∃ k : Nat, k ≤ s.size ∧ v = .int .i64 k ∧ wr.rowIs w.heap.size 86 m (fun j => .int .u32 (wd (low (V s) k) j : Nat)) ∧ Below w.heap.size w wr) (fun _ v _ => s.size - (intOf v).toNat)
  case atStart => exact ⟨0, by omega, rfl, (World.rowIs_made w (.int .u32 0) m _).congr (fun j _ => by rw [low_zero, wd_zero]; rfl), (Below.refl _ _).alloc (Nat.le_refl _) _⟩
  case round =>
    obtain ⟨k, hk, rfl, hrow, hbel⟩ := hrel
    clear hdiv
    by_cases hlt : k < s.size
    · obtain ⟨q, hq⟩ : ∃ q, q = k / 4 := ⟨_, rfl⟩
      obtain ⟨r, hr⟩ : ∃ r, r = k % 4 := ⟨_, rfl⟩
      have hqm : q < m := by omega
      have hr4 : r < 4 := by omega
      have hcell := hrow.cell (i := q) (by omega)
      have hfr := hrow.frozen q
      have hd1 : dig (V s) k < 256 := Nat.mod_lt _ (by omega)
      have hd2 := wd_lt (low (V s) k) q
      have HR := Lib.hid hrow; clear hrow
      have q1 : (k : Int) / 4 = (q : Int) := by omega
      have q2 : (k : Int).tmod 4 = (r : Int) := by rw [IntWalk.rem_in _ _ (by omega)]; omega
      have q5 : IntKind.u32.wrap (dig (V s) k : Int) = (dig (V s) k : Int) := IntWalk.u32_in _ (by omega)
      have q3 : IntKind.i64.wrap (q : Int) = (q : Int) := IntWalk.i64_in _ (by omega)
      have q4 : IntKind.i64.wrap (8 * (r : Int)) = 8 * (r : Int) := IntWalk.i64_in _ (by omega)
      have hst := wd_step_at (V s) k q r hq hr
      have q6 := shl_u32 hst.2.2
      have q7 : bits .or .u32 (wd (low (V s) k) q : Int) ((dig (V s) k * 2 ^ (8 * r) : Nat) : Int) = ((dig (V s) k * 2 ^ (8 * r) + wd (low (V s) k) q : Nat) : Int) := by
        rw [u32_or_nat _ _ hd2 hst.2.2, Nat.or_comm, or_add _ _ _ hst.1]
      have Q7 := Lib.hid q7
      clear hst q7
      have HQ := Lib.hid hq; clear hq
      have HRR := Lib.hid hr; clear hr
      go_wp2
      refine wp_region_still_tail 15 (by kernel_rfl) (by kernel_rfl) ?_
      simp only [List.take_succ_cons, List.take_zero, List.drop_succ_cons, List.drop_zero]
      iterate 7 still_step
      still_call (flip_w (byteAt_any s k _ (by omega) (by omega) (by omega)))
      rw [Int.toNat_natCast]
      iterate 7 still_step
      refine wpStill_nil ?_
      change wpList _ _ _ _ _ wr.drew
      have hfr2 : wr.drew.frozen? ⟨w.heap.size, q, none⟩ = false := hfr
      have hcell2 : wr.drew.cell? ⟨w.heap.size, q, none⟩ = some (.int .u32 (wd (low (V s) k) q : Nat)) := hcell
      clear hcell hfr
      have HB2 : Below w.heap.size w wr.drew := hbel.drew
      have HR2 : wr.drew.rowIs w.heap.size 86 m (fun j => .int .u32 (wd (low (V s) k) j : Nat)) := HR.out
      have HR2 := Lib.hid HR2
      generalize wr.drew = w2 at *
      go_wp2
      go_roundw
      case rel =>
        have e := wd_step_at (V s) k q r HQ.out HRR.out
        exact ⟨k + 1, by omega, by go_num, set_row (h := fun j => wd (low (V s) (k + 1)) j) HR2.out (by rw [e.2.1, ← Q7.out]; simp) (fun j hj => wd_step_other _ _ _ _ HQ.out hj), HB2.setCell (Nat.le_refl _) _⟩
      case measure => simp [intOf]; omega
    · obtain rfl : k = s.size := by omega
      go_wp2
      go_ret
      exact ⟨rfl, by rw [low_all] at hrow; exact hrow, hbel⟩
end Go.Proofs.YtogmgfdihmacpaaGreatDoor


/-
  Contracts of package natural, the fifth part: trim, store.
-/
namespace Go.Proofs.YtogmgfdihmacpaaGreatDoor
open Go.RowKit
set_option linter.unusedVariables false

/-- n cells from place o of block g on are the first n digits of N. -/
def Words (w : World) (g o n N : Nat) : Prop := ∀ j, j < n → w.cell? ⟨g, o + j, none⟩ = some (.int .u32 (wd N j : Nat))
/-- A slice of n digits that reads as the number N. -/
def Sl (w : World) (v : Value) (n N : Nat) : Prop :=
  ∃ A c, v = .slice A n c ∧ n ≤ c ∧ c ≤ 1000 ∧ (0 < n → ∃ g o, A = some ⟨g, o, none⟩ ∧ g < w.heap.size ∧ Words w g o n N)
theorem Words.below {w w' : World} {g o n N : Nat} (h : Words w g o n N) (hb : Below w.heap.size w w') (hg : g < w.heap.size) : Words w' g o n N :=
  fun j hj => (hb.cell (p := ⟨g, o + j, none⟩) hg).trans (h j hj)
theorem Sl.below {w w' : World} {v : Value} {n N : Nat} (h : Sl w v n N) (hb : Below w.heap.size w w') : Sl w' v n N := by
  obtain ⟨A, c, rfl, h1, h2, h3⟩ := h
  refine ⟨A, c, rfl, h1, h2, fun hn => ?_⟩
  obtain ⟨g, o, rfl, hg, hw⟩ := h3 hn
  exact ⟨g, o, rfl, Nat.lt_of_lt_of_le hg hb.size, hw.below hb hg⟩

/-- The number of digits. -/
def nd (n : Nat) : Nat := ((enc n).length + 3) / 4
theorem nd_le {n m : Nat} : nd n ≤ m ↔ n < B32 ^ m := by
  unfold nd
  rw [b32_powj, ← enc_length_le]
  omega
theorem nd_lt (n : Nat) : n < B32 ^ nd n := nd_le.1 (Nat.le_refl _)
theorem nd_zero : nd 0 = 0 := rfl
theorem nd_pos {n : Nat} (h : 0 < n) : 0 < nd n := by
  rcases Nat.eq_zero_or_pos (nd n) with e | e
  · have := nd_lt n; rw [e] at this; simp at this; omega
  · exact e
theorem nd_can {s : ByteArray} (h : Can s) : nd (V s) = (s.size + 3) / 4 := by
  unfold nd V; rw [enc_bval h.2, ← size_eq]
theorem b32_pos (k : Nat) : 0 < B32 ^ k := Nat.pow_pos (by decide)
/-- The highest digit is 0 exactly if one digit fewer is enough. -/
theorem wd_top {n m : Nat} (h : n < B32 ^ (m + 1)) : wd n m = 0 ↔ n < B32 ^ m := by
  unfold wd
  have h1 : n / B32 ^ m < B32 := Nat.div_lt_of_lt_mul (by rw [Nat.pow_succ] at h; exact h)
  rw [Nat.mod_eq_of_lt h1, Nat.div_eq_zero_iff]
  have := b32_pos m
  omega

set_option maxHeartbeats 400000 in
theorem trim_any (g o n c N : Nat) (w : World) (hn : n ≤ c) (hc : c ≤ 1000) (hN : N < B32 ^ n) (hw : Words w g o n N) :
    Calls Tryz.prog 111 #[.slice (some ⟨g, o, none⟩) n c] w fun e w' => e = .returned (.slice (some ⟨g, o, none⟩) (nd N) c) ∧ w = w' := by
  have HW := Lib.hid hw; clear hw
  have HN := Lib.hid hN; clear hN
  go_enter Tryz.func111, Tryz.ntmps111
  go_wp2
  go_loop [0] (fun v => ∃ m : Nat, m ≤ n ∧ v = .slice (some ⟨g, o, none⟩) m c ∧ Hid (N < B32 ^ m)) (fun v => lenOf v)
  case atStart => exact ⟨n, by omega, rfl, HN⟩
  case round =>
    obtain ⟨m, hm, rfl, HM⟩ := hrel
    rcases Nat.eq_zero_or_pos m with h0 | h0
    · subst h0
      have he : nd N = 0 := by have := nd_le.2 HM.out; omega
      have HE := Lib.hid he; clear he
      go_wp2
      go_ret
      exact ⟨ret_v (by rw [HE.out]; rfl), rfl⟩
    · obtain ⟨m, rfl⟩ : ∃ q, m = q + 1 := ⟨m - 1, by omega⟩
      have hcell := HW.out m (by omega)
      have hlt := wd_lt N m
      by_cases hz : wd N m = 0
      · have hzz : ((wd N m : Int) == 0) = true := by rw [hz]; rfl
        have HM' := Lib.hid ((wd_top HM.out).1 hz)
        clear hz h0
        go_wp2
        go_round
        case rel => exact ⟨m, by omega, rfl, HM'⟩
        case measure => simp [lenOf]
      · have hzz : ((wd N m : Int) == 0) = false := by rw [beq_eq_false_iff_ne]; omega
        have he : nd N = m + 1 := by
          have h1 := nd_le.2 HM.out
          have h2 : ¬ nd N ≤ m := fun q => hz ((wd_top HM.out).2 (nd_le.1 q))
          omega
        have HE := Lib.hid he; clear he hz h0
        go_wp2
        go_ret
        exact ⟨ret_v (by rw [HE.out]; rfl), rfl⟩

theorem dig_of_wd {N k q r : Nat} (hq : q = k / 4) (hr : r = k % 4) : (wd N q : Int) / 2 ^ (8 * r) % 256 = (dig N k : Nat) := by
  have e : wd N q / 2 ^ (8 * r) % 256 = dig N k := by
    have hk : k = 4 * q + r := by omega
    have hr4 : r < 4 := by omega
    subst hk
    unfold wd dig
    rw [b32_powj, pow256, Nat.pow_add, ← Nat.div_div_eq_div_mul]
    generalize N / 256 ^ (4 * q) = x
    have : B32 = 256 ^ r * 256 ^ (4 - r) := by rw [b32_pow, ← Nat.pow_add]; congr 1; omega
    rw [this, Nat.mod_mul_right_div_self]
    have h4 : 256 ^ (4 - r) = 256 * 256 ^ (3 - r) := by rw [Nat.mul_comm, ← Nat.pow_succ]; congr 1; omega
    rw [h4, Nat.mod_mul_right_mod]
  rw [← e]
  simp

set_option maxHeartbeats 400000 in
theorem store_any (v : Value) (n N : Nat) (w : World) (hN : N < B32 ^ n) (hv : Sl w v n N) :
    Calls Tryz.prog 58 #[v] w fun e w' => e = .returned (okN N) ∧ Below w.heap.size w w' := by
  obtain ⟨A, c, rfl, hnc, hc, hw⟩ := hv
  have hmk := run_make_bytes (4 * n) (by omega)
  have hmk : ∀ w : World, (Instr.makeSlice 83 (.int .i64 (4 * (n : Int))) (.int .i64 (4 * (n : Int)))).run Tryz.prog w = .ok (.slice (some ⟨w.heap.size, 0, none⟩) (4 * n) (4 * n)) (w.alloc (.cells (madeCells #[.int .u8 0] (4 * n)) 5)) := hmk
  have HW := Lib.hid hw; clear hw
  have HN := Lib.hid hN; clear hN
  go_enter Tryz.func58, Tryz.ntmps58
  go_wp2
  go_loopw [5, 13] (fun _ v wr => ∃ k : Nat, k ≤ 4 * n ∧ v = .int .i64 k ∧ wr.rowIs w.heap.size 5 (4 * n) (fun j => .int .u8 (partB N (4 * n) k j : Nat)) ∧ Below w.heap.size w wr) (fun _ v _ => 4 * n - (intOf v).toNat)
  case atStart => exact ⟨0, by omega, rfl, part_zero w _ _ _, (Below.refl _ _).alloc (Nat.le_refl _) _⟩
  case round =>
    obtain ⟨k, hk, rfl, hrow, hbel⟩ := hrel
    by_cases hlt : k < 4 * n
    · obtain ⟨g, o, rfl, hg, hws⟩ := HW.out (by omega)
      obtain ⟨q, hq⟩ : ∃ q, q = k / 4 := ⟨_, rfl⟩
      obtain ⟨r, hr⟩ : ∃ r, r = k % 4 := ⟨_, rfl⟩
      have hr4 : r < 4 := by omega
      have hqn : q < n := by omega
      have hcell := hrow.cell (i := 4 * n - 1 - k) (by omega)
      have hfr := hrow.frozen (4 * n - 1 - k)
      have hsrc : wr.cell? ⟨g, o + q, none⟩ = some (.int .u32 (wd N q : Nat)) := (hbel.cell (p := ⟨g, o + q, none⟩) hg).trans (hws q hqn)
      have hwl := wd_lt N q
      have q1 : (k : Int) / 4 = (q : Int) := by omega
      have q2 : (k : Int) % 4 = (r : Int) := by omega
      have HQ := Lib.hid hq; clear hq
      have HRR := Lib.hid hr; clear hr
      have HR := Lib.hid hrow; clear hrow hws
      go_wp2
      go_roundw
      case rel => exact ⟨k + 1, by omega, by go_num, part_step HR.out hlt (dig_of_wd HQ.out HRR.out), hbel.setCell (Nat.le_refl _) _⟩
      case measure => simp [intOf]; omega
    · obtain rfl : k = 4 * n := by omega
      have hb := part_done hrow
      have hN4 : N < 256 ^ (4 * n) := by rw [← b32_powj]; exact HN.out
      have hE := E_beN hN4
      have hsz := E_size_lim N
      have HB := Lib.hid hb; clear hb
      have HE := Lib.hid hE; clear hE hN4
      have HZ := Lib.hid hsz; clear hsz
      go_wp2_with fail
      refine (strip_any w.heap.size 0 (4 * n) (4 * n) (beN (4 * n) N) _ (beN_length _ _) (by omega) (by omega) (by omega) HB.out).mono ?_
      rintro e w' ⟨rfl, rfl⟩
      rw [HE.out]
      by_cases hfit : N < Lim
      · have hf := HZ.out.2 hfit
        have ho := Lib.hid (okN_yes hfit)
        clear hfit
        go_wp2
        go_ret2
        exact ⟨ret_v ho.out.symm, hbel⟩
      · have hf : ¬ (E N).size ≤ 128 := fun q => hfit (HZ.out.1 q)
        have ho := Lib.hid (okN_no hfit)
        clear hfit
        go_wp2
        go_ret2
        exact ⟨ret_v ho.out.symm, hbel⟩
end Go.Proofs.YtogmgfdihmacpaaGreatDoor

