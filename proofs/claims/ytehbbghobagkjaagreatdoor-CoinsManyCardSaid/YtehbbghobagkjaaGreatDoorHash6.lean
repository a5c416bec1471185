/-
  Contracts of package hash, the sixth part: padding.
-/
import Derived.Test.YtehbbghobagkjaaGreatDoorHash5
import Derived.Deep.RegionLaw
namespace Go.Proofs.YtehbbghobagkjaaGreatDoor
open Go.RowKit Go.Deep
set_option linter.unusedVariables false

/-- The last k bytes of the length. -/
def lenF (n k j : Nat) : Nat := if 8 ≤ j + k then 8 * n / 256 ^ (7 - j) % 256 else 0
theorem lenF_zero (n j : Nat) (h : j < 8) : lenF n 0 j = 0 := by unfold lenF; rw [if_neg (by omega)]
theorem len_row {w : World} {g t n k j : Nat} {v : Int} (h : w.rowIs g t 8 (fun j => .int .u8 (lenF n k j : Nat))) (hk : k < 8) (hj : 7 - k = j) (hv : v = (8 * n / 256 ^ k % 256 : Nat)) :
    (w.setCell ⟨g, j, none⟩ (.int .u8 v)).rowIs g t 8 (fun j => .int .u8 (lenF n (k + 1) j : Nat)) := by
  refine (h.set j _).congr fun i hi => ?_
  by_cases e : i = j
  · rw [if_pos e, hv]; unfold lenF; rw [if_pos (by omega), show 7 - i = k by omega]
  · rw [if_neg e]; show Value.int .u8 ((lenF n k i : Nat) : Int) = Value.int .u8 ((lenF n (k + 1) i : Nat) : Int); unfold lenF
    by_cases e2 : 8 ≤ i + k
    · rw [if_pos e2, if_pos (by omega)]
    · rw [if_neg e2, if_neg (by omega)]
theorem len_shift (n k : Nat) : ((8 * (n : Int)) / 2 ^ (8 * k)) % 256 = ((8 * n / 256 ^ k % 256 : Nat) : Int) := by
  rw [show (256 : Nat) ^ k = 2 ^ (8 * k) by rw [Nat.pow_mul]]
  simp
def zeros8b : Array Value := #[.int .u8 0, .int .u8 0, .int .u8 0, .int .u8 0, .int .u8 0, .int .u8 0, .int .u8 0, .int .u8 0]
/-- What the loop knows. -/
def PadR (n : Nat) (w : World) (v : Value) (wr : World) : Prop :=
  ∃ k : Nat, k ≤ 8 ∧ v = .int .i64 k ∧ wr.rowIs w.heap.size 67 8 (fun j => .int .u8 (lenF n k j : Nat)) ∧ Below w.heap.size w wr
theorem pad_start (n : Nat) (w : World) : PadR n w (.int .i64 0) (w.alloc (.cells zeros8b 67)) := by
  have h2 := World.rowIs_alloc w zeros8b 67 (fun _ => .int .u8 ((0 : Nat) : Int)) (fun i hi => by
    have : i < 8 := hi
    rw [show zeros8b = (List.replicate 8 (Value.int .u8 0)).toArray from rfl, List.getElem?_toArray, List.getElem?_replicate, if_pos this]; rfl)
  refine ⟨0, by omega, rfl, World.rowIs.congr (n := 8) h2 (fun i hi => by show _ = Value.int .u8 ((lenF n 0 i : Nat) : Int); rw [lenF_zero n i hi]), (Below.refl _ _).alloc (Nat.le_refl _) _⟩
theorem made_cell0 (w : World) (m : Nat) (h : 0 < m) : (w.alloc (.cells (madeCells #[.int .u8 0] m) 5)).cell? ⟨w.heap.size, 0, none⟩ = some (.int .u8 0) :=
  (World.rowIs_made w (.int .u8 0) m 5).cell h
/-- The cells of the padding ahead of the copy. -/
def padCur (m : Nat) : List Value := .int .u8 128 :: List.replicate (m - 1) (.int .u8 0)
/-- What lies in memory ahead of the copy. -/
def PadS (n m G B : Nat) (w wr : World) : Prop :=
  wr.heap[B]? = some (.cells (padCur m).toArray 5 (0, 0)) ∧ wr.rowIs G 67 8 (fun j => .int .u8 (lenF n 8 j : Nat)) ∧ G < B ∧ Below G w wr
theorem madeCells_list (m : Nat) : madeCells #[Value.int .u8 0] m = (List.replicate m (Value.int .u8 0)).toArray := by
  apply Array.ext_getElem?
  intro i
  by_cases h : i < m
  · simp [madeCells, h, Nat.mod_one]
  · simp [madeCells, h]
theorem padS_start {n m : Nat} {w wr : World} (hr : wr.rowIs w.heap.size 67 8 (fun j => .int .u8 (lenF n 8 j : Nat))) (hg : w.heap.size < wr.heap.size) (hb : Below w.heap.size w wr) (hm : 0 < m := by omega) :
    PadS n m w.heap.size wr.heap.size w (wr.alloc (.cells ((madeCells #[.int .u8 0] m).setIfInBounds 0 (.int .u8 128)) 5)) := by
  refine ⟨?_, hr.alloc _, hg, hb.alloc (Nat.le_of_lt hg) _⟩
  rw [blk_alloc_new]
  obtain ⟨k, rfl⟩ : ∃ k, m = k + 1 := ⟨m - 1, by omega⟩
  rw [madeCells_list, padCur, List.replicate_succ]
  rfl
theorem pad_min {n z m q : Nat} (hq : q = 1 + z) (hm : 9 + z = m) : (bvals (be8 8 (8 * n))).length = Nat.min 8 (m - q) := by
  rw [bvals_length, be8_length]
  show 8 = min 8 (m - q)
  omega
theorem be8_val (n j : Nat) (h : j < 8) : (bvals (be8 8 (8 * n)))[j]? = some (.int .u8 (lenF n 8 j : Nat)) := by
  have hl : j < (be8 8 (8 * n)).length := by rw [be8_length]; exact h
  have e : (be8 8 (8 * n))[j]'hl = UInt8.ofNat (8 * n / 256 ^ (7 - j) % 256) := by simp only [be8, List.getElem_map, List.getElem_range]
  rw [bvals_get _ _ hl, e]
  unfold lenF
  rw [if_pos (by omega)]
  simp
theorem pad_src {n m G B : Nat} {w wr : World} (h : PadS n m G B w wr) {q : Nat} : 0 < (bvals (be8 8 (8 * n))).length → some (⟨B, q, none⟩ : Addr) = some ⟨B, q, none⟩ ∧ ∃ ad, some (⟨G, 0, none⟩ : Addr) = some ad ∧ ∀ j v, (bvals (be8 8 (8 * n)))[j]? = some v → wr.drew.cell? (ad.add j) = some v := by
  refine fun _ => ⟨rfl, _, rfl, fun j v hj => ?_⟩
  rw [show (⟨G, 0, none⟩ : Addr).add j = ⟨G, j, none⟩ by unfold Addr.add; split <;> simp_all]
  have hl := (List.getElem?_eq_some_iff.1 hj).1
  rw [bvals_length, be8_length] at hl
  rw [be8_val n j hl] at hj
  rw [← hj]
  exact h.2.1.cell hl
theorem pad_fit {n z m q : Nat} (hq : q = 1 + z) (hm : 9 + z = m) : q + (bvals (be8 8 (8 * n))).length ≤ (padCur m).length := by
  rw [bvals_length, be8_length]; simp [padCur]; omega
theorem pad_splice {n z m q : Nat} (hz : z = padz n) (hq : q = 1 + z) (hm : 9 + z = m) : splice (padCur m) q (bvals (be8 8 (8 * n))) = bvals (padT n) := by
  unfold splice
  rw [List.drop_of_length_le (by rw [bvals_length, be8_length]; simp [padCur]; omega), List.append_nil]
  unfold padT
  rw [bvals_append, ← hz]
  congr 1
  subst hq hm
  rw [padCur, show 1 + z = z + 1 by omega, List.take_succ_cons, List.take_replicate]
  simp [bvals]
theorem pad_final {n z m q B base : Nat} {w : World} (hz : z = padz n) (hq : q = 1 + z) (hm : 9 + z = m) (hb : base ≤ B) (hg : w.heap[B]? = some (.cells (splice (padCur m) q (bvals (be8 8 (8 * n)))).toArray 5 (0, 0))) :
    w.ownsRow base 5 1 (.slice (some ⟨B, 0, none⟩) m m) (9 + padz n) (bvals (padT n)) := by
  rw [pad_splice hz hq hm] at hg
  rw [← hz, hm]
  have hl : (padT n).length = m := by rw [padT_length, ← hz, hm]
  refine ⟨by rw [bvals_length, hl]; omega, .inr ⟨B, m, _, rfl, hb, hg, Nat.le_refl _, ?_, by rw [List.size_toArray, bvals_length, hl]; omega, ?_⟩⟩
  · have : padz n < 64 := Nat.mod_lt _ (by omega)
    unfold maxLen; omega
  · rw [List.take_of_length_le (by rw [bvals_length, hl]; omega)]
/-- What padding gives. -/
def PadP (n : Nat) (w : World) (e : Ending) (w' : World) : Prop :=
  ∃ v, e = .returned v ∧ w'.ownsRow w.heap.size 5 1 v (9 + padz n) (bvals (padT n)) ∧ Below w.heap.size w w'
theorem hmakeF (c : Nat) (hc : c ≤ 100000000000000) (w : World) : (Instr.makeSlice 69 (.int .i64 (c : Int)) (.int .i64 (c : Int))).run Tryz.prog w = .ok (.slice (some ⟨w.heap.size, 0, none⟩) c c) (w.alloc (.cells (madeCells #[.int .u8 0] c) 5)) := by
  obtain ⟨i0, hi, hz0, hz1, hz2⟩ := info_parts Tryz.hinfo5
  exact run_make_row 69 5 i0 _ Tryz.hund69 hi hz0 hz1 rfl .i64 .i64 c (by rw [hz2]; omega) (by omega) w

set_option maxHeartbeats 1000000 in
set_option maxRecDepth 100000 in
theorem padding_any (n : Nat) (w : World) (hn : n ≤ 1099511627776) :
    Calls Tryz.prog 94 #[.int .i64 (n : Int)] w fun e w' => PadP n w e w' := by
  have H0 := Lib.hid (pad_start n w)
  go_enter Tryz.func94, Tryz.ntmps94
  go_wp2
  go_loopw [7] (fun v wr => PadR n w v wr) (fun v _ => 8 - (intOf v).toNat)
  case atStart => exact H0.out
  case round =>
    clear H0
    obtain ⟨k, hk, rfl, hrow, hbel⟩ := hrel
    by_cases hlt : k < 8
    · obtain ⟨j, hj⟩ : ∃ j, 7 - k = j := ⟨_, rfl⟩
      have hji : 7 - (k : Int) = (j : Int) := by omega
      have hcell := hrow.cell (i := j) (by omega)
      have hfr := hrow.frozen j
      have hj8 : j < 8 := by omega
      have HR := Lib.hid hrow
      have HJ := Lib.hid hj
      clear hrow hj
      go_wp2
      go_roundw
      case rel => exact ⟨k + 1, by omega, by go_num, len_row HR.out hlt HJ.out (len_shift n k), hbel.setCell (Nat.le_refl _) _⟩
      case measure => simp [intOf]; omega
    · obtain rfl : k = 8 := by omega
      obtain ⟨z, hz⟩ : ∃ z, z = padz n := ⟨_, rfl⟩
      have hz1 : (119 - (n : Int) % 64) % 64 = (z : Int) := by rw [hz]; unfold padz; omega
      have hz2 : z < 64 := by rw [hz]; unfold padz; omega
      obtain ⟨m, hm⟩ : ∃ m, 9 + z = m := ⟨_, rfl⟩
      have hm1 : 1 + (z : Int) + 8 = (m : Int) := by omega
      have hm2 : m ≤ 100 := by omega
      have hm3 : 1 + z < m := by omega
      have hmk := hmakeF m (by omega)
      have hc0 := fun w => made_cell0 w m (by omega)
      have hg2 := hrow.lt
      have HR := Lib.hid hrow
      have HZ := Lib.hid hz
      have HM := Lib.hid hm
      have HG2 := Lib.hid hg2
      clear hrow hz hm hk hlt hg2
      go_wp2
      have hS : PadS n m w.heap.size wr.heap.size w (wr.alloc (.cells ((madeCells #[.int .u8 0] m).setIfInBounds 0 (.int .u8 128)) 5)) := padS_start HR.out HG2.out hbel
      have HS := Lib.hid hS
      clear hS hc0 hmk hbel
      obtain ⟨G, hG⟩ : ∃ G, G = w.heap.size := ⟨_, rfl⟩
      obtain ⟨B, hB⟩ : ∃ B, B = wr.heap.size := ⟨_, rfl⟩
      rw [← hG, ← hB] at HS
      rw [← hG, ← hB]
      have HG := Lib.hid hG
      clear hG hB HR HG2
      refine gen_world (p := fun W => Code.wp _ _ _ _ W) (PadS n m G B w) HS.out ?_
      clear HS
      intro w2 hS
      have HS := Lib.hid hS
      clear hS
      have i1 : IntKind.i64.wrap (1 + (z : Int)) = ((1 + z : Nat) : Int) := by rw [IntWalk.i64_in _ (by omega)]; simp
      obtain ⟨q, hq⟩ : ∃ q, q = 1 + z := ⟨_, rfl⟩
      rw [← hq] at i1
      have i2 : q ≤ m := by omega
      have i3 : (q : Int) ≤ (m : Int) := by omega
      have i4 : (0 : Int) ≤ (q : Int) := by omega
      have i5 : ¬ (m = q) := by omega
      have HQ := Lib.hid hq
      clear hq
      go_region_law (refine step_copy_splice rfl (.tmp 34) (.tmp 35) 69 69 rfl 5 Tryz.hund69 (by kernel_rfl) _ _ _ _ _ _ rfl rfl B q (padCur m) 5 HS.out.1 (bvals (be8 8 (8 * n))) (pad_min HQ.out HM.out) (pad_src HS.out) (pad_fit HQ.out HM.out) (bvals_one _) G w HS.out.2.2.2.drew (by have := HS.out.2.2.1; omega) ?_; intro w4 hg4 hb4)
      have HF := Lib.hid (pad_final (n := n) HZ.out HQ.out HM.out (Nat.le_of_lt HS.out.2.2.1) hg4.out)
      clear hg4 i1 i2 i3 i4 i5
      go_wp2
      go_ret
      refine ⟨_, rfl, ?_, ?_⟩
      · rw [← HG.out]; exact HF.out
      · rw [← HG.out]; exact hb4
end Go.Proofs.YtehbbghobagkjaaGreatDoor
