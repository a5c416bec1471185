/-
  Contracts of package natural, the fourth part: load, trim, store.
-/
import Derived.Test.YtjbcicgbemepbaaDoorNat3
import Derived.Deep.RegionWith
import Derived.StillTailTactics
namespace Go.Proofs.YtjbcicgbemepbaaDoor
open Go.RowKit
set_option linter.unusedVariables false

theorem flip_w {P : Program} {f : FuncId} {args : Array Value} {w : World} {v : Ending} (h : Calls P f args w fun e w' => e = v ∧ w = w') : Calls P f args w fun e w' => e = v ∧ w' = w :=
  h.mono fun _ _ ⟨a, b⟩ => ⟨a, b.symm⟩
theorem shl_u32 {d r : Nat} (h : d * 2 ^ (8 * r) < 4294967296) : IntKind.u32.wrap ((d : Int) * 2 ^ (8 * (r : Int)).toNat) = ((d * 2 ^ (8 * r) : Nat) : Int) := by
  have e : (d : Int) * 2 ^ (8 * (r : Int)).toNat = ((d * 2 ^ (8 * r) : Nat) : Int) := by
    rw [show (8 * (r : Int)).toNat = 8 * r by omega]; simp
  rw [e]
  exact IntWalk.u32_in _ (by omega)
/-- The base of the digits. -/
def B32 : Nat := 4294967296
theorem b32_eq : B32 = 4294967296 := rfl
theorem b32_pow : B32 = 256 ^ 4 := rfl
/-- Digit i to the base 2^32. -/
def wd (n i : Nat) : Nat := n / B32 ^ i % B32
theorem wd_lt (n i : Nat) : wd n i < 4294967296 := by unfold wd; exact Nat.mod_lt _ (by decide)

/-- The part of a number that lies in its first k bytes. -/
def low (n k : Nat) : Nat := n % 256 ^ k

theorem b32_powj (j : Nat) : B32 ^ j = 256 ^ (4 * j) := by rw [b32_pow, ← Nat.pow_mul]
theorem low_div (v k m : Nat) (h : m ≤ k) : low v k / 256 ^ m = v / 256 ^ m % 256 ^ (k - m) := by
  unfold low
  have : 256 ^ k = 256 ^ m * 256 ^ (k - m) := by rw [← Nat.pow_add]; congr 1; omega
  rw [this, Nat.mod_mul_right_div_self]
theorem low_succ (v k : Nat) : low v (k + 1) = low v k + 256 ^ k * dig v k := by
  unfold low dig; rw [Nat.pow_succ, Nat.mod_mul]
theorem low_lt (v k : Nat) : low v k < 256 ^ k := Nat.mod_lt _ (Nat.pow_pos (by omega))
theorem low_zero (v : Nat) : low v 0 = 0 := by simp [low, Nat.mod_one]
theorem low_all {s : ByteArray} : low (V s) s.size = V s := Nat.mod_eq_of_lt (V_lt s)
theorem wd_zero (j : Nat) : wd 0 j = 0 := by simp [wd]
theorem wd_small {n j : Nat} (h : n < 256 ^ (4 * j)) : wd n j = 0 := by
  unfold wd; rw [b32_powj, Nat.div_eq_of_lt h]; rfl
/-- The digit that holds byte k. -/
theorem wd_low_at (v q r : Nat) (hr : r < 4) : wd (low v (4 * q + r)) q = v / 256 ^ (4 * q) % 256 ^ r := by
  unfold wd
  rw [b32_powj, low_div _ _ _ (by omega), show 4 * q + r - 4 * q = r by omega]
  apply Nat.mod_eq_of_lt
  exact Nat.lt_of_lt_of_le (Nat.mod_lt _ (Nat.pow_pos (by omega))) (by rw [b32_pow]; exact Nat.pow_le_pow_right (by omega) (by omega))
theorem wd_step_at (v k q r : Nat) (hq : q = k / 4) (hr : r = k % 4) :
    wd (low v k) q < 2 ^ (8 * r) ∧ wd (low v (k + 1)) q = dig v k * 2 ^ (8 * r) + wd (low v k) q ∧ dig v k * 2 ^ (8 * r) < 4294967296 := by
  have hk : k = 4 * q + r := by omega
  have hr4 : r < 4 := by omega
  subst hk
  rw [pow256, wd_low_at v q r hr4]
  have hd : dig v (4 * q + r) = v / 256 ^ (4 * q) / 256 ^ r % 256 := by unfold dig; rw [Nat.pow_add, Nat.div_div_eq_div_mul]
  have hdl : dig v (4 * q + r) < 256 := Nat.mod_lt _ (by omega)
  refine ⟨Nat.mod_lt _ (Nat.pow_pos (by omega)), ?_, ?_⟩
  · rcases Nat.lt_or_ge r 3 with h3 | h3
    · rw [Nat.add_assoc, wd_low_at v q (r + 1) (by omega), hd, Nat.pow_succ, Nat.mod_mul, Nat.mul_comm (256 ^ r)]; omega
    · obtain rfl : r = 3 := by omega
      unfold wd
      rw [b32_powj, low_div _ _ _ (by omega), show 4 * q + 3 + 1 - 4 * q = 3 + 1 by omega, hd, Nat.pow_succ, Nat.mod_mul, Nat.mul_comm (256 ^ 3)]
      rw [Nat.mod_eq_of_lt]
      · omega
      · have h1 : v / 256 ^ (4 * q) % 256 ^ 3 < 256 ^ 3 := Nat.mod_lt _ (by decide)
        have h2 : v / 256 ^ (4 * q) / 256 ^ 3 % 256 < 256 := Nat.mod_lt _ (by decide)
        have h3 : B32 = 256 ^ 3 * 256 := rfl
        omega
  · have : 256 ^ r ≤ 256 ^ 3 := Nat.pow_le_pow_right (by omega) (by omega)
    have h4 := Nat.mul_le_mul (show dig v (4 * q + r) ≤ 255 by omega) this
    omega
theorem wd_step_other (v k q j : Nat) (hq : q = k / 4) (hj : j ≠ q) : wd (low v (k + 1)) j = wd (low v k) j := by
  rcases Nat.lt_or_ge j q with h | h
  · unfold wd
    rw [b32_powj, low_div _ _ _ (by omega), low_div _ _ _ (by omega)]
    have e1 : 256 ^ (k + 1 - 4 * j) = B32 * 256 ^ (k + 1 - 4 * j - 4) := by rw [b32_pow, ← Nat.pow_add]; congr 1; omega
    have e2 : 256 ^ (k - 4 * j) = B32 * 256 ^ (k - 4 * j - 4) := by rw [b32_pow, ← Nat.pow_add]; congr 1; omega
    rw [e1, e2, Nat.mod_mul_right_mod, Nat.mod_mul_right_mod]
  · rw [wd_small (Nat.lt_of_lt_of_le (low_lt v (k + 1)) (Nat.pow_le_pow_right (by omega) (by omega))), wd_small (Nat.lt_of_lt_of_le (low_lt v k) (Nat.pow_le_pow_right (by omega) (by omega)))]

theorem set_row {w : World} {g t n : Nat} {f h : Nat → Nat} {k : IntKind} {i : Nat} {v : Int} (hrow : w.rowIs g t n (fun j => .int k (f j : Nat))) (hv : v = (h i : Nat)) (ho : ∀ j, j ≠ i → h j = f j) :
    (w.setCell ⟨g, i, none⟩ (.int k v)).rowIs g t n (fun j => .int k (h j : Nat)) := by
  refine (hrow.set i (.int k v)).congr fun j _ => ?_
  show (if j = i then _ else _) = _
  split
  · rename_i e; subst e; rw [hv]
  · rename_i e; rw [ho j e]

set_option maxHeartbeats 400000 in
set_option maxRecDepth 20000 in
theorem load_any (s : ByteArray) (w : World) (hs : s.size ≤ 1000) :
    Calls Tryd.prog 24 #[.string s] w fun e w' => e = .returned (.slice (some ⟨w.heap.size, 0, none⟩) ((s.size + 3) / 4) ((s.size + 3) / 4)) ∧ w'.rowIs w.heap.size 49 ((s.size + 3) / 4) (fun j => .int .u32 (wd (V s) j : Nat)) ∧ Below w.heap.size w w' := by
  obtain ⟨m, hm⟩ : ∃ m, m = (s.size + 3) / 4 := ⟨_, rfl⟩
  have hmk := run_make_words m (by omega)
  have hdiv : ((s.size : Int) + 3) / 4 = (m : Int) := by omega
  have hm1 : s.size ≤ 4 * m := by omega
  have hm2 : m ≤ 251 := by omega
  rw [← hm]
  have HM := Lib.hid hm; clear hm
  go_enter Tryd.func24, Tryd.ntmps24
  go_wp2
  go_loopw [4, 12] (fun _ v wr => ∃ k : Nat, k ≤ s.size ∧ v = .int .i64 k ∧ wr.rowIs w.heap.size 49 m (fun j => .int .u32 (wd (low (V s) k) j : Nat)) ∧ Below w.heap.size w wr) (fun _ v _ => s.size - (intOf v).toNat)
  case atStart => exact ⟨0, by omega, rfl, (World.rowIs_made w (.int .u32 0) m _).congr (fun j _ => by rw [low_zero, wd_zero]; rfl), (Below.refl _ _).alloc (Nat.le_refl _) _⟩
  case round =>
    obtain ⟨k, hk, rfl, hrow, hbel⟩ := hrel
    clear hdiv
    by_cases hlt : k < s.size
    · obtain ⟨q, hq⟩ : ∃ q, q = k / 4 := ⟨_, rfl⟩
      obtain ⟨r, hr⟩ : ∃ r, r = k % 4 := ⟨_, rfl⟩
      have hqm : q < m := by omega
      have hr4 : r < 4 := by omega
      have hcell := hrow.cell (i := q) (by omega)
      have hfr := hrow.frozen q
      have hd1 : dig (V s) k < 256 := Nat.mod_lt _ (by omega)
      have hd2 := wd_lt (low (V s) k) q
      have HR := Lib.hid hrow; clear hrow
      have q1 : (k : Int) / 4 = (q : Int) := by omega
      have q2 : (k : Int).tmod 4 = (r : Int) := by rw [IntWalk.rem_in _ _ (by omega)]; omega
      have q5 : IntKind.u32.wrap (dig (V s) k : Int) = (dig (V s) k : Int) := IntWalk.u32_in _ (by omega)
      have q3 : IntKind.i64.wrap (q : Int) = (q : Int) := IntWalk.i64_in _ (by omega)
      have q4 : IntKind.i64.wrap (8 * (r : Int)) = 8 * (r : Int) := IntWalk.i64_in _ (by omega)
      have hst := wd_step_at (V s) k q r hq hr
      have q6 := shl_u32 hst.2.2
      have q7 : bits .or .u32 (wd (low (V s) k) q : Int) ((dig (V s) k * 2 ^ (8 * r) : Nat) : Int) = ((dig (V s) k * 2 ^ (8 * r) + wd (low (V s) k) q : Nat) : Int) := by
        rw [u32_or_nat _ _ hd2 hst.2.2, Nat.or_comm, or_add _ _ _ hst.1]
      have Q7 := Lib.hid q7
      clear hst q7
      have HQ := Lib.hid hq; clear hq
      have HRR := Lib.hid hr; clear hr
      go_wp2
      refine wp_region_still_tail 15 (by kernel_rfl) (by kernel_rfl) ?_
      simp only [List.take_succ_cons, List.take_zero, List.drop_succ_cons, List.drop_zero]
      iterate 7 still_step
      still_call (flip_w (byteAt_any s k _ (by omega) (by omega) (by omega)))
      rw [Int.toNat_natCast]
      iterate 7 still_step
      refine wpStill_nil ?_
      change wpList _ _ _ _ _ wr.drew
      have hfr2 : wr.drew.frozen? ⟨w.heap.size, q, none⟩ = false := hfr
      have hcell2 : wr.drew.cell? ⟨w.heap.size, q, none⟩ = some (.int .u32 (wd (low (V s) k) q : Nat)) := hcell
      clear hcell hfr
      have HB2 : Below w.heap.size w wr.drew := hbel.drew
      have HR2 : wr.drew.rowIs w.heap.size 49 m (fun j => .int .u32 (wd (low (V s) k) j : Nat)) := HR.out
      have HR2 := Lib.hid HR2
      generalize wr.drew = w2 at *
      go_wp2
      go_roundw
      case rel =>
        have e := wd_step_at (V s) k q r HQ.out HRR.out
        exact ⟨k + 1, by omega, by go_num, set_row (h := fun j => wd (low (V s) (k + 1)) j) HR2.out (by rw [e.2.1, ← Q7.out]; simp) (fun j hj => wd_step_other _ _ _ _ HQ.out hj), HB2.setCell (Nat.le_refl _) _⟩
      case measure => simp [intOf]; omega
    · obtain rfl : k = s.size := by omega
      go_wp2
      go_ret
      exact ⟨rfl, by rw [low_all] at hrow; exact hrow, hbel⟩
end Go.Proofs.YtjbcicgbemepbaaDoor
