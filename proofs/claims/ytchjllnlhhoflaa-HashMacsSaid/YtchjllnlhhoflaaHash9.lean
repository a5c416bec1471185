/-
  Contracts of package hash, the ninth part: Hex.
-/
import Derived.Test.YtchjllnlhhoflaaHash8
namespace Go.Proofs.Ytchjllnlhhoflaa
open Go.RowKit Go.Deep
set_option linter.unusedVariables false

theorem make_lies (c : Nat) (hc : c ≤ 100000000000000) (w : World) (base : Nat) (hb : base ≤ w.heap.size) : Lies (w.alloc (.cells (madeCells #[.int .u8 0] c) 5)) base (.slice (some ⟨w.heap.size, 0, none⟩) 0 c) [] := by
  have hr := World.rowIs_made w (.int .u8 0) c 5
  exact ⟨w.heap.size, c, rfl, hb, by simp, Nat.zero_le _, fun j hj => absurd hj (by simp), fun j hj => ⟨by rw [hr.cell hj]; rfl, hr.frozen j⟩⟩
theorem new_lies (m : List UInt8) (c : Array Value) (hc : c = (bvals m).toArray) (w : World) (base : Nat) (hb : base ≤ w.heap.size) (n : Nat) (hn : n = m.length) : Lies (w.alloc (.cells c 5)) base (.slice (some ⟨w.heap.size, 0, none⟩) n n) m := by
  subst hc hn
  refine ⟨w.heap.size, m.length, rfl, hb, by simp, Nat.le_refl _, fun j hj => ?_, fun j hj => ⟨?_, ?_⟩⟩
  · rw [cell_of_row _ _ _ _ _ _ (heap_alloc_last w _), List.getElem?_toArray, bvals_get m j hj]
  · rw [cell_of_row _ _ _ _ _ _ (heap_alloc_last w _), List.getElem?_toArray, bvals_get m j hj]; rfl
  · rw [World.frozen?, heap_alloc_last]; simp
theorem hexL_snoc (l : List UInt8) (c : UInt8) : hexL (l ++ [c]) = hexL l ++ [hd (c.toNat / 16), hd (c.toNat % 16)] := by simp [hexL]
/-- What the loop of Hex knows. -/
def HexR (s : ByteArray) (w : World) (v i : Value) (wr : World) : Prop :=
  ∃ k : Nat, k ≤ s.size ∧ i = .int .i64 k ∧ Lies wr w.heap.size v (hexL (s.data.toList.take k)) ∧ w.heap.size ≤ wr.heap.size ∧ Below w.heap.size w wr
theorem hex_index (a : Nat) (h : a < 16) (w : World) : (Instr.index 9 (.string ⟨#[48, 49, 50, 51, 52, 53, 54, 55, 56, 57, 97, 98, 99, 100, 101, 102]⟩) (.int .u8 (a : Int))).run Try.prog w = .ok (.int .u8 ((hd a).toNat : Int)) w := by
  have hk : a = 0 ∨ a = 1 ∨ a = 2 ∨ a = 3 ∨ a = 4 ∨ a = 5 ∨ a = 6 ∨ a = 7 ∨ a = 8 ∨ a = 9 ∨ a = 10 ∨ a = 11 ∨ a = 12 ∨ a = 13 ∨ a = 14 ∨ a = 15 := by omega
  rcases hk with rfl | rfl | rfl | rfl | rfl | rfl | rfl | rfl | rfl | rfl | rfl | rfl | rfl | rfl | rfl | rfl
  all_goals (show _ = _; kernel_rfl)
theorem and15 (c : Nat) (h : c < 256) : bits .and .u8 (c : Int) 15 = ((c % 16 : Nat) : Int) := by
  have := u8_and_nat c 15 h (by omega)
  rw [show (15 : Int) = ((15 : Nat) : Int) from rfl, this, show (15 : Nat) = 2 ^ 4 - 1 from rfl, Nat.and_two_pow_sub_one_eq_mod]
set_option maxHeartbeats 1000000 in
set_option maxRecDepth 100000 in
theorem hex_any (s : ByteArray) (w : World) (hn : s.size ≤ 1099511627776) :
    Calls Try.prog 12 #[.string s] w fun e w' => e = .returned (.string ⟨(hexL s.data.toList).toArray⟩) ∧ Below w.heap.size w w' := by
  obtain ⟨m, hm⟩ : ∃ m, m = 2 * s.size := ⟨_, rfl⟩
  have hm1 : 2 * (s.size : Int) = (m : Int) := by omega
  have hmk := hmake m (by omega)
  have hmb : m ≤ 100000000000000 := by omega
  clear hm
  go_enter Try.func12, Try.ntmps12
  go_wp2
  go_loopw [3, 11] (fun v i wr => HexR s w v i wr) (fun _ i _ => s.size - (intOf i).toNat)
  case atStart => exact ⟨0, by omega, rfl, make_lies m hmb w _ (Nat.le_refl _), by simp, (Below.refl _ _).alloc (Nat.le_refl _) _⟩
  case round =>
    obtain ⟨k, hk, rfl, hL, hbs, hbel⟩ := hrel
    by_cases hlt : k < s.size
    · have hc := (s[k]'hlt).toNat_lt
      have hg := hget_eq s k hlt
      have hsn : hexL (s.data.toList.take (k + 1)) = hexL (s.data.toList.take k) ++ [hd ((s[k]'hlt).toNat / 16), hd ((s[k]'hlt).toNat % 16)] := by
        rw [List.take_succ_eq_append_getElem (by rw [hsize_eq]; exact hlt), hexL_snoc, ← hg]
      obtain ⟨c, hce⟩ : ∃ c, c = (s[k]'hlt).toNat := ⟨_, rfl⟩
      obtain ⟨a, ha⟩ : ∃ a, a = c / 16 := ⟨_, rfl⟩
      obtain ⟨b, hb⟩ : ∃ b, b = c % 16 := ⟨_, rfl⟩
      rw [← hce, ← ha, ← hb] at hsn
      rw [← hce] at hc
      have x1 : ((s[k]'hlt).toNat : Int) / 16 = (a : Int) := by rw [ha, hce]; simp
      have x2 : bits .and .u8 ((s[k]'hlt).toNat : Int) 15 = (b : Int) := by rw [hb, ← hce]; exact and15 c (by omega)
      have x3 := hex_index a (by omega)
      have x4 := hex_index b (by omega)
      have hl : (hexL (s.data.toList.take k)).length ≤ 99999999999990 := by rw [hexL_length]; simp; omega
      have HSN := Lib.hid hsn
      clear hsn hce ha hb hg
      go_wp2
      go_region_law (refine step_append rfl (.tmp 14) (.tmp 25) rfl w.heap.size (hexL (s.data.toList.take k)) [hd a, hd b] _ _ rfl rfl (hL.below ((Below.refl _ _).drew.alloc (Nat.le_refl _) _)) (new_lies [hd a, hd b] _ rfl _ _ hbs 2 rfl) (by simp; omega) (by simp only [List.length_cons, List.length_nil]; omega) ?_; intro v4 w4 hL4 hb4)
      all_goals
        have BB : Below w.heap.size w w4 := by
          first | exact ((hbel.alloc hbs _).drew).trans hb4 | exact (hbel.drew.alloc hbs _).trans hb4
        rw [← HSN.out] at hL4
        have HO := Lib.hid hL4
        clear hL4 hb4 x1 x2 x3 x4 hL
        go_wp2
        go_roundw
        case rel => exact ⟨k + 1, by omega, by go_num, HO.out, BB.size, BB⟩
        case measure => simp [intOf]; omega
    · have hcv := hL.string
      rw [List.take_of_length_le (by rw [hsize_eq]; omega)] at hcv
      obtain rfl : k = s.size := by omega
      clear hL hlt
      go_wp2
      go_ret
      exact ⟨rfl, hbel⟩
end Go.Proofs.Ytchjllnlhhoflaa
