/-
  Contracts of the reference of layer 1, the first part.
-/
import Derived.Test.YtehbbghobagkjaaDoorND
namespace Go.Proofs.YtehbbghobagkjaaDoor
open Go.RowKit
set_option linter.unusedVariables false

set_option maxHeartbeats 400000 in
theorem rvalid_yes (s : ByteArray) (w : World) (h : Can s) :
    Calls Tryd.prog 37 #[.string s] w fun e w' => e = .returned (.bool true) ∧ w = w' := by
  obtain ⟨h1, h2⟩ := h
  by_cases h0 : s.size = 0
  · have hE := empty_of h0
    clear h0
    go_enter Tryd.func37, Tryd.ntmps37
    go_wp2
    go_ret
    exact ⟨rfl, rfl⟩
  · have hE := not_empty_of h0
    have h0' : 0 < s.size := by omega
    have hh := can_head h2 h0'
    clear h0 h2
    go_enter Tryd.func37, Tryd.ntmps37
    go_wp2
    go_ret
    exact ⟨rfl, rfl⟩

set_option maxHeartbeats 400000 in
theorem rvalid_no (s : ByteArray) (w : World) (h : ¬ Can s) :
    Calls Tryd.prog 37 #[.string s] w fun e w' => e = .returned (.bool false) ∧ w = w' := by
  by_cases h1 : s.size ≤ 128
  · have h2 : ¬ can s.data.toList := fun q => h ⟨h1, q⟩
    obtain ⟨h0, hz⟩ := not_can_head h2
    have hE := not_empty_of (s := s) (by omega)
    have hh : (((s[0]'h0).toNat : Int) != 0) = false := by rw [hz]; rfl
    clear h h2 hz
    go_enter Tryd.func37, Tryd.ntmps37
    go_wp2
    go_ret
    exact ⟨rfl, rfl⟩
  · clear h
    go_enter Tryd.func37, Tryd.ntmps37
    go_wp2
    go_ret
    exact ⟨rfl, rfl⟩

theorem sg_lt {a b : Nat} (h : a < b) : sgn a b = -1 := by unfold sgn; rw [if_pos h]
theorem sg_gt {a b : Nat} (h : b < a) : sgn a b = 1 := by unfold sgn; rw [if_neg (by omega), if_pos h]
theorem sg_eq (a : Nat) : sgn a a = 0 := by unfold sgn; rw [if_neg (by omega), if_neg (by omega)]
theorem run_make_8 (w : World) : (Instr.makeSlice 65 (.int .i64 8) (.int .i64 8)).run Tryd.prog w = .ok (.slice (some ⟨w.heap.size, 0, none⟩) 8 8) (w.alloc (.cells (madeCells #[.int .u8 0] 8) 5)) := run_make_bytes 8 (by omega) w
theorem dig_cast2 (n k : Nat) : ((n / 256 ^ k : Nat) : Int) % 256 = (dig n k : Nat) := by unfold dig; rfl

/-! ### Order, Cmp -/
/-- What the loop of Order knows: the first k bytes are the same. -/
def OrderR (s t : ByteArray) (w : World) (v : Value) (wr : World) : Prop :=
  ∃ k : Nat, k ≤ s.size ∧ v = .int .i64 k ∧ s.data.toList.take k = t.data.toList.take k ∧ ∃ q, wr = w.drewN q
theorem order_first {l m : List UInt8} {k : Nat} (hl : l.length = m.length) (hk : k < l.length) (hp : l.take k = m.take k) (h : (l[k]'hk) < (m[k]'(hl ▸ hk))) : bval l < bval m := by
  have e1 : l = l.take k ++ (l[k]'hk) :: l.drop (k + 1) := by rw [List.getElem_cons_drop, List.take_append_drop]
  have e2 : m = m.take k ++ (m[k]'(hl ▸ hk)) :: m.drop (k + 1) := by rw [List.getElem_cons_drop, List.take_append_drop]
  have hd : (l.drop (k + 1)).length = (m.drop (k + 1)).length := by simp [hl]
  rw [e1, e2, bval_append, bval_append, hp, List.length_cons, List.length_cons, hd, bval_cons, bval_cons, hd]
  have h1 := bval_lt (l.drop (k + 1))
  rw [hd] at h1
  have hh := UInt8.lt_iff_toNat_lt.1 h
  have := Nat.mul_le_mul_right (256 ^ (m.drop (k + 1)).length) (show (l[k]'hk).toNat + 1 ≤ (m[k]'(hl ▸ hk)).toNat from hh)
  rw [Nat.add_mul] at this
  omega
theorem take_step {l m : List UInt8} {k : Nat} (hl : l.length = m.length) (hk : k < l.length) (hp : l.take k = m.take k) (h : (l[k]'hk) = (m[k]'(hl ▸ hk))) : l.take (k + 1) = m.take (k + 1) := by
  rw [List.take_succ_eq_append_getElem hk, List.take_succ_eq_append_getElem (hl ▸ hk), hp, h]

end Go.Proofs.YtehbbghobagkjaaDoor
