/-
  Contracts of package modular, the first part: load.
-/
import Derived.Test.YtogmgfdihmacpaaGreatDoorM0
import Derived.Test.YtogmgfdihmacpaaGreatDoorNB
namespace Go.Proofs.YtogmgfdihmacpaaGreatDoor
open Go.RowKit
set_option linter.unusedVariables false

theorem Tryz.info56 : (Tryz.prog.info? 56).map (fun i => (i.zero, i.size, i.bytes)) = some (some (.int .u64 0), 1, 8) := by kernel_rfl
theorem run_make_wordsQ (n : Nat) (hn : n ≤ 1000000) (w : World) :
    (Instr.makeSlice 101 (.int .i64 (n : Int)) (.int .i64 (n : Int))).run Tryz.prog w = .ok (.slice (some ⟨w.heap.size, 0, none⟩) n n) (w.alloc (.cells (madeCells #[.int .u64 0] n) 56)) := by
  obtain ⟨i0, hi, hz0, hz1, hz2⟩ := info_parts Tryz.info56
  exact run_make_row 101 56 i0 _ Tryz.underlying101 hi hz0 hz1 rfl .i64 .i64 n (by rw [hz2]; omega) (by omega) w
theorem shl_u64 {d r : Nat} (h : d * 2 ^ (8 * r) < 18446744073709551616) : IntKind.u64.wrap ((d : Int) * 2 ^ (8 * (r : Int)).toNat) = ((d * 2 ^ (8 * r) : Nat) : Int) := by
  have e : (d : Int) * 2 ^ (8 * (r : Int)).toNat = ((d * 2 ^ (8 * r) : Nat) : Int) := by
    rw [show (8 * (r : Int)).toNat = 8 * r by omega]; simp
  rw [e]
  exact IntWalk.u64_in _ (by omega)
theorem set_rowQ {w : World} {g t n : Nat} {f h : Nat → Nat} {i : Nat} {v : Int} (hrow : w.rowIs g t n (fun j => .int .u64 (f j : Nat))) (hv : v = (h i : Nat)) (ho : ∀ j, j ≠ i → h j = f j) :
    (w.setCell ⟨g, i, none⟩ (.int .u64 v)).rowIs g t n (fun j => .int .u64 (h j : Nat)) := set_row hrow hv ho

set_option maxHeartbeats 400000 in
set_option maxRecDepth 20000 in
theorem mload_any (s : ByteArray) (w : World) (hs : s.size ≤ 1000) :
    Calls Tryz.prog 80 #[.string s] w fun e w' => e = .returned (.slice (some ⟨w.heap.size, 0, none⟩) ((s.size + 7) / 8) ((s.size + 7) / 8)) ∧ w'.rowIs w.heap.size 56 ((s.size + 7) / 8) (fun j => .int .u64 (wq (V s) j : Nat)) ∧ Below w.heap.size w w' := by
  obtain ⟨m, hm⟩ : ∃ m, m = (s.size + 7) / 8 := ⟨_, rfl⟩
  have hmk := run_make_wordsQ m (by omega)
  have hdiv : ((s.size : Int) + 7) / 8 = (m : Int) := by omega
  have hm1 : s.size ≤ 8 * m := by omega
  have hm2 : m ≤ 251 := by omega
  rw [← hm]
  have HM := Lib.hid hm; clear hm
  go_enter Tryz.func80, Tryz.ntmps80
  go_wp2
  go_loopw [4, 12] (fun _ v wr => ∃ k : Nat, k ≤ s.size ∧ v = .int .i64 k ∧ wr.rowIs w.heap.size 56 m (fun j => .int .u64 (wq (low (V s) k) j : Nat)) ∧ Below w.heap.size w wr) (fun _ v _ => s.size - (intOf v).toNat)
  case atStart => exact ⟨0, by omega, rfl, (World.rowIs_made w (.int .u64 0) m _).congr (fun j _ => by rw [low_zero, wq_zero]; rfl), (Below.refl _ _).alloc (Nat.le_refl _) _⟩
  case round =>
    obtain ⟨k, hk, rfl, hrow, hbel⟩ := hrel
    clear hdiv
    by_cases hlt : k < s.size
    · obtain ⟨q, hq⟩ : ∃ q, q = k / 8 := ⟨_, rfl⟩
      obtain ⟨r, hr⟩ : ∃ r, r = k % 8 := ⟨_, rfl⟩
      have hqm : q < m := by omega
      have hr4 : r < 8 := by omega
      have hcell := hrow.cell (i := q) (by omega)
      have hfr := hrow.frozen q
      have hd1 : dig (V s) k < 256 := Nat.mod_lt _ (by omega)
      have hd2 := wq_lt (low (V s) k) q
      have HR := Lib.hid hrow; clear hrow
      have q1 : (k : Int) / 8 = (q : Int) := by omega
      have q2 : (k : Int).tmod 8 = (r : Int) := by rw [IntWalk.rem_in _ _ (by omega)]; omega
      have hst := wq_step_at (V s) k q r hq hr
      have q3 : IntKind.i64.wrap (q : Int) = (q : Int) := IntWalk.i64_in _ (by omega)
      have q4 : IntKind.i64.wrap (8 * (r : Int)) = 8 * (r : Int) := IntWalk.i64_in _ (by omega)
      have q5 : IntKind.u64.wrap (dig (V s) k : Int) = (dig (V s) k : Int) := IntWalk.u64_in _ (by omega)
      have w1 : IntKind.i64.wrap ((s.size : Int) - 1) = (s.size : Int) - 1 := IntWalk.i64_in _ (by omega)
      have w2 : IntKind.i64.wrap ((s.size : Int) - 1 - (k : Int)) = ((s.size - 1 - k : Nat) : Int) := by rw [IntWalk.i64_in _ (by omega)]; omega
      have q6 := shl_u64 hst.2.2
      have q7 : bits .or .u64 (wq (low (V s) k) q : Int) ((dig (V s) k * 2 ^ (8 * r) : Nat) : Int) = ((dig (V s) k * 2 ^ (8 * r) + wq (low (V s) k) q : Nat) : Int) := by
        rw [u64_or_nat _ _ hd2 hst.2.2, Nat.or_comm, or_add _ _ _ hst.1]
      have hd := dig_low s k hlt
      have hltn : s.size - 1 - k < s.size := by omega
      have HQ := Lib.hid hq; clear hq
      have HRR := Lib.hid hr; clear hr
      go_wp2
      refine wp_region_still_tail 19 (by kernel_rfl) (by kernel_rfl) ?_
      simp only [List.take_succ_cons, List.take_zero, List.drop_succ_cons, List.drop_zero]
      iterate 19 still_step
      refine wpStill_nil ?_
      change wpList _ _ _ _ _ wr.drew
      have hfr2 : wr.drew.frozen? ⟨w.heap.size, q, none⟩ = false := hfr
      have hcell2 : wr.drew.cell? ⟨w.heap.size, q, none⟩ = some (.int .u64 (wq (low (V s) k) q : Nat)) := hcell
      clear hcell hfr
      have HB2 : Below w.heap.size w wr.drew := hbel.drew
      have HR2 : wr.drew.rowIs w.heap.size 56 m (fun j => .int .u64 (wq (low (V s) k) j : Nat)) := HR.out
      have HR2 := Lib.hid HR2
      have Q7 := Lib.hid q7; clear q7
      clear hst hd
      generalize wr.drew = w2 at *
      go_wp2
      go_roundw
      case rel =>
        have e := wq_step_at (V s) k q r HQ.out HRR.out
        exact ⟨k + 1, by omega, by go_num, set_row (h := fun j => wq (low (V s) (k + 1)) j) HR2.out (by rw [e.2.1, ← Q7.out]; simp) (fun j hj => wq_step_other _ _ _ _ HQ.out hj), HB2.setCell (Nat.le_refl _) _⟩
      case measure => simp [intOf]; omega
    · obtain rfl : k = s.size := by omega
      go_wp2
      go_ret
      exact ⟨rfl, by rw [low_all] at hrow; exact hrow, hbel⟩
end Go.Proofs.YtogmgfdihmacpaaGreatDoor
