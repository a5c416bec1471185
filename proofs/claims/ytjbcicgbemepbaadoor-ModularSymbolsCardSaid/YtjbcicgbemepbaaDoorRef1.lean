/-
  Contracts of the reference of layer 1, the first part.
-/
import Derived.Test.YtjbcicgbemepbaaDoorNat14
namespace Go.Proofs.YtjbcicgbemepbaaDoor
open Go.RowKit
set_option linter.unusedVariables false
set_option maxHeartbeats 400000 in
theorem rtrim_any (g o n c : Nat) (l : List UInt8) (w : World) (hl : l.length = n) (hn : n ≤ 100000) (hc : n ≤ c) (hc2 : c ≤ 100000) (hb : Bytes w g o l) :
    Calls Tryd.prog 36 #[.slice (some ⟨g, o, none⟩) n c] w fun e w' => e = .returned (.string ⟨(strip l).toArray⟩) ∧ w = w' := by
  have HL := Lib.hid hl; clear hl
  have HB := Lib.hid hb; clear hb
  go_enter Tryd.func36, Tryd.ntmps36
  go_wp2
  go_loop [3] (fun v => ∃ k : Nat, k ≤ n ∧ v = .int .i64 k ∧ strip (l.drop k) = strip l) (fun v => n - (intOf v).toNat)
  case atStart => exact ⟨0, by omega, rfl, rfl⟩
  case round =>
    obtain ⟨k, hk, rfl, hs⟩ := hrel
    have HS := Lib.hid hs; clear hs
    by_cases hlt : k < n
    · have hkl : k < l.length := by rw [HL.out]; exact hlt
      obtain ⟨b, hb0⟩ : ∃ b, l[k]? = some b := ⟨_, List.getElem?_eq_getElem hkl⟩
      have hcell : w.cell? ⟨g, o + k, none⟩ = some (.int .u8 (b.toNat : Int)) := by
        have := HB.out k hkl
        rw [this, hb0]; rfl
      have HB0 := Lib.hid hb0; clear hb0
      by_cases hz : b = 0
      · have hzz := head_zero hz
        have HZ := Lib.hid hz; clear hz
        have R : strip (l.drop (k + 1)) = strip l := by rw [← HS.out]; exact (strip_drop_zero (by rw [HB0.out, HZ.out])).symm
        have HR := Lib.hid R; clear R
        go_wp2
        go_round
        case rel => exact ⟨k + 1, by omega, by go_num, HR.out⟩
        case measure => simp [intOf]; omega
      · have hzz := head_not_zero hz
        have R : strip (l.drop k) = l.drop k := strip_drop_stop HB0.out hz
        have hcv := run_bytes_string (HB.out.drop k) (c - k) (n - k) (by rw [List.length_drop, HL.out])
        rw [← R, HS.out] at hcv
        have hck : ¬ (c = k) := by omega
        clear R hz
        go_wp2
        go_ret
        exact ⟨rfl, rfl⟩
    · obtain rfl : k = n := by omega
      have hst : strip l = [] := strip_full HL.out HS.out
      by_cases hck : c = k
      · subst hck
        have hcv := run_bytes_string (Bytes.nil w g o) 0 0 rfl
        rw [← hst] at hcv
        clear hst
        go_wp2
        go_ret
        exact ⟨rfl, rfl⟩
      · have hcv := run_bytes_string (Bytes.nil w g (o + k)) (c - k) 0 rfl
        rw [← hst] at hcv
        clear hst
        go_wp2
        go_ret
        exact ⟨rfl, rfl⟩

theorem sg_lt {a b : Nat} (h : a < b) : sgn a b = -1 := by unfold sgn; rw [if_pos h]
theorem sg_gt {a b : Nat} (h : b < a) : sgn a b = 1 := by unfold sgn; rw [if_neg (by omega), if_pos h]
theorem sg_eq (a : Nat) : sgn a a = 0 := by unfold sgn; rw [if_neg (by omega), if_neg (by omega)]
theorem run_make_8 (w : World) : (Instr.makeSlice 62 (.int .i64 8) (.int .i64 8)).run Tryd.prog w = .ok (.slice (some ⟨w.heap.size, 0, none⟩) 8 8) (w.alloc (.cells (madeCells #[.int .u8 0] 8) 5)) := run_make_bytes 8 (by omega) w
theorem dig_cast2 (n k : Nat) : ((n / 256 ^ k : Nat) : Int) % 256 = (dig n k : Nat) := by unfold dig; rfl

set_option maxHeartbeats 400000 in
theorem rof_any (n : Nat) (w : World) (hn : n < 18446744073709551616) :
    Calls Tryd.prog 19 #[.int .u64 n] w fun e w' => e = .returned (.string (E n)) ∧ Below w.heap.size w w' := by
  have hmk := run_make_8
  go_enter Tryd.func19, Tryd.ntmps19
  go_wp2
  go_loopw [0, 4] (fun m v wr => ∃ k : Nat, k ≤ 8 ∧ v = .int .i64 (7 - (k : Int)) ∧ m = .int .u64 (n / 256 ^ k : Nat) ∧ wr.rowIs w.heap.size 5 8 (fun j => .int .u8 (partB n 8 k j : Nat)) ∧ Below w.heap.size w wr) (fun _ v _ => (intOf v + 1).toNat)
  case atStart => exact ⟨0, by omega, rfl, by rw [Nat.pow_zero, Nat.div_one], part_zero w n 8 _, (Below.refl _ _).alloc (Nat.le_refl _) _⟩
  case round =>
    obtain ⟨k, hk, rfl, rfl, hrow, hbel⟩ := hrel
    have hml : n / 256 ^ k < 18446744073709551616 := Nat.lt_of_le_of_lt (Nat.div_le_self _ _) hn
    have hnx : n / 256 ^ k / 256 = n / 256 ^ (k + 1) := by rw [Nat.div_div_eq_div_mul, Nat.pow_succ]
    have hdc := dig_cast2 n k
    obtain ⟨m, hm⟩ : ∃ m, m = n / 256 ^ k := ⟨_, rfl⟩
    rw [← hm] at hml hnx hdc ⊢
    have HNX := Lib.hid hnx; clear hnx hm
    have HDC := Lib.hid hdc; clear hdc
    by_cases hlt : k < 8
    · obtain ⟨j, hj⟩ : ∃ j, 7 - k = j := ⟨_, rfl⟩
      have hji : 7 - (k : Int) = (j : Int) := by omega
      have hst := fun {v : Int} => part_step (w := wr) (g := w.heap.size) (t := 5) (n := n) (len := 8) (k := k) (v := v)
      have hcell := hrow.cell (i := j) (by omega)
      have hfr := hrow.frozen j
      have hj7 : j ≤ 7 := by omega
      rw [hji]
      have HR := Lib.hid hrow; clear hrow hst
      have HJ := Lib.hid hj; clear hj hji
      go_wp2
      go_roundw
      case rel =>
        have e := part_step (v := (m : Int) % 256) HR.out hlt HDC.out
        rw [show 8 - 1 - k = j by have := HJ.out; omega] at e
        exact ⟨k + 1, by omega, int_eq (by have := HJ.out; omega), int_eq (by rw [← HNX.out]; simp), e, hbel.setCell (Nat.le_refl _) _⟩
      case measure => simp [intOf]
    · obtain rfl : k = 8 := by omega
      have hb := part_done hrow
      have hE : (⟨(strip (beN 8 n)).toArray⟩ : ByteArray) = E n := E_beN (by omega)
      have HB := Lib.hid hb; clear hb
      have HE := Lib.hid hE; clear hE
      go_wp2_with fail
      refine (rtrim_any w.heap.size 0 8 8 (beN 8 n) _ (beN_length _ _) (by omega) (by omega) (by omega) HB.out).mono ?_
      rintro e w' ⟨rfl, rfl⟩
      rw [HE.out]
      go_wp2
      go_ret
      exact ⟨rfl, hbel⟩

/-! ### Order, Cmp -/
/-- What the loop of Order knows: the first k bytes are the same. -/
def OrderR (s t : ByteArray) (w : World) (v : Value) (wr : World) : Prop :=
  ∃ k : Nat, k ≤ s.size ∧ v = .int .i64 k ∧ s.data.toList.take k = t.data.toList.take k ∧ ∃ q, wr = w.drewN q
theorem order_first {l m : List UInt8} {k : Nat} (hl : l.length = m.length) (hk : k < l.length) (hp : l.take k = m.take k) (h : (l[k]'hk) < (m[k]'(hl ▸ hk))) : bval l < bval m := by
  have e1 : l = l.take k ++ (l[k]'hk) :: l.drop (k + 1) := by rw [List.getElem_cons_drop, List.take_append_drop]
  have e2 : m = m.take k ++ (m[k]'(hl ▸ hk)) :: m.drop (k + 1) := by rw [List.getElem_cons_drop, List.take_append_drop]
  have hd : (l.drop (k + 1)).length = (m.drop (k + 1)).length := by simp [hl]
  rw [e1, e2, bval_append, bval_append, hp, List.length_cons, List.length_cons, hd, bval_cons, bval_cons, hd]
  have h1 := bval_lt (l.drop (k + 1))
  rw [hd] at h1
  have hh := UInt8.lt_iff_toNat_lt.1 h
  have := Nat.mul_le_mul_right (256 ^ (m.drop (k + 1)).length) (show (l[k]'hk).toNat + 1 ≤ (m[k]'(hl ▸ hk)).toNat from hh)
  rw [Nat.add_mul] at this
  omega
theorem take_step {l m : List UInt8} {k : Nat} (hl : l.length = m.length) (hk : k < l.length) (hp : l.take k = m.take k) (h : (l[k]'hk) = (m[k]'(hl ▸ hk))) : l.take (k + 1) = m.take (k + 1) := by
  rw [List.take_succ_eq_append_getElem hk, List.take_succ_eq_append_getElem (hl ▸ hk), hp, h]

end Go.Proofs.YtjbcicgbemepbaaDoor
