/-
  Contracts of the reference of layer 1: Parse.
-/
import Derived.Test.YtamgklgjhjociaaRef8
import Derived.Test.YtamgklgjhjociaaNat18
import Derived.Deep.RegionHeld3
namespace Go.Proofs.Ytamgklgjhjociaa
open Go.RowKit
set_option linter.unusedVariables false

theorem pv_le (s : ByteArray) (i : Nat) : ∀ j, i ≤ j → j ≤ s.size → pv s i ≤ pv s j
  | 0, h, _ => by rw [show i = 0 by omega]; exact Nat.le_refl _
  | j + 1, h, h2 => by
    by_cases e : i = j + 1
    · rw [e]; exact Nat.le_refl _
    · exact Nat.le_trans (pv_le s i j (by omega) (by omega)) (pv_mono s j (by omega))
/-- Where the reference goes on to the digits. -/
def Start (s : ByteArray) : Prop := ∃ h0 : 0 < s.size, ((s[0]'h0).toNat = 48 → s.size = 1)

set_option maxHeartbeats 400000 in
theorem rparse_empty (s : ByteArray) (w : World) (h : s.size = 0) :
    Calls Try.prog 69 #[.string s] w fun e w' => e = .returned (.tuple #[.string (E 0), .int .i64 4]) ∧ w = w' := by
  have hE := empty_of h
  go_enter Try.func69, Try.ntmps69
  go_wp2
  go_ret2
  exact ⟨rfl, rfl⟩
set_option maxHeartbeats 400000 in
theorem rparse_zero (s : ByteArray) (w : World) (hs : s.size ≤ 1000) (h : 1 < s.size) (h48 : (s[0]'(by omega)).toNat = 48) :
    Calls Try.prog 69 #[.string s] w fun e w' => e = .returned (.tuple #[.string (E 0), .int .i64 4]) ∧ w = w' := by
  have hE := not_empty_of (s := s) (by omega)
  have hb : (((s[0]'(by omega)).toNat : Int) == 48) = true := by rw [beq_iff_eq]; omega
  have h1 : (1 : Int) < (s.size : Int) := by omega
  go_enter Try.func69, Try.ntmps69
  go_wp2
  go_ret2
  exact ⟨rfl, rfl⟩

set_option maxHeartbeats 800000 in
theorem rparse_bad1 (s : ByteArray) (w : World) (hs : s.size ≤ 1000) (h0 : 0 < s.size) (hb : (((s[0]'h0).toNat : Int) == 48) = false) (h : ¬ Digs s) :
    Calls Try.prog 69 #[.string s] w fun e w' => e = .returned (.tuple #[.string (E 0), .int .i64 4]) ∧ w = w' := by
  have hE := not_empty_of (s := s) (by omega)
  have HD := Lib.hid h; clear h
  go_enter Try.func69, Try.ntmps69
  go_wp2
  go_loop [4] (fun v => ∃ k : Nat, k ≤ s.size ∧ v = .int .i64 k ∧ ∀ i (h : i < s.size), i < k → 48 ≤ (s[i]'h).toNat ∧ (s[i]'h).toNat ≤ 57) (fun v => s.size - (intOf v).toNat)
  case atStart => exact ⟨0, by omega, rfl, fun i _ q => absurd q (by omega)⟩
  case round =>
    obtain ⟨k, hk, rfl, hall⟩ := hrel
    have HA := Lib.hid hall; clear hall hb
    by_cases hlt : k < s.size
    · by_cases h1 : (s[k]'hlt).toNat < 48
      · go_wp2
        go_ret2
        exact ⟨rfl, rfl⟩
      · by_cases h2 : 57 < (s[k]'hlt).toNat
        · go_wp2
          go_ret2
          exact ⟨rfl, rfl⟩
        · have hnx : ∀ i (h : i < s.size), i < k + 1 → 48 ≤ (s[i]'h).toNat ∧ (s[i]'h).toNat ≤ 57 := fun i h q => by
            by_cases e : i = k
            · subst e; omega
            · exact HA.out i h (by omega)
          have HNX := Lib.hid hnx; clear hnx
          go_wp2
          go_round
          case rel => exact ⟨k + 1, by omega, by go_num, HNX.out⟩
          case measure => simp [intOf]; omega
    · exact absurd (fun i h => HA.out i h (by omega)) HD.out

set_option maxHeartbeats 800000 in
theorem rparse_bad2 (s : ByteArray) (w : World) (hs : s.size ≤ 1000) (h0 : 0 < s.size) (hb : (((s[0]'h0).toNat : Int) == 48) = true) (hb1 : ¬ (1 : Int) < (s.size : Int)) (h : ¬ Digs s) :
    Calls Try.prog 69 #[.string s] w fun e w' => e = .returned (.tuple #[.string (E 0), .int .i64 4]) ∧ w = w' := by
  have hE := not_empty_of (s := s) (by omega)
  have HD := Lib.hid h; clear h
  go_enter Try.func69, Try.ntmps69
  go_wp2
  go_loop [4] (fun v => ∃ k : Nat, k ≤ s.size ∧ v = .int .i64 k ∧ ∀ i (h : i < s.size), i < k → 48 ≤ (s[i]'h).toNat ∧ (s[i]'h).toNat ≤ 57) (fun v => s.size - (intOf v).toNat)
  case atStart => exact ⟨0, by omega, rfl, fun i _ q => absurd q (by omega)⟩
  case round =>
    obtain ⟨k, hk, rfl, hall⟩ := hrel
    have HA := Lib.hid hall; clear hall hb
    by_cases hlt : k < s.size
    · by_cases h1 : (s[k]'hlt).toNat < 48
      · go_wp2
        go_ret2
        exact ⟨rfl, rfl⟩
      · by_cases h2 : 57 < (s[k]'hlt).toNat
        · go_wp2
          go_ret2
          exact ⟨rfl, rfl⟩
        · have hnx : ∀ i (h : i < s.size), i < k + 1 → 48 ≤ (s[i]'h).toNat ∧ (s[i]'h).toNat ≤ 57 := fun i h q => by
            by_cases e : i = k
            · subst e; omega
            · exact HA.out i h (by omega)
          have HNX := Lib.hid hnx; clear hnx
          go_wp2
          go_round
          case rel => exact ⟨k + 1, by omega, by go_num, HNX.out⟩
          case measure => simp [intOf]; omega
    · exact absurd (fun i h => HA.out i h (by omega)) HD.out

set_option maxHeartbeats 4000000 in
set_option maxRecDepth 20000 in
theorem rparse_good1 (s : ByteArray) (w : World) (hs : s.size ≤ 1000) (h0 : 0 < s.size) (hb : (((s[0]'h0).toNat : Int) == 48) = false) (h : Digs s) :
    Calls Try.prog 69 #[.string s] w fun e w' => e = .returned (okN (pv s s.size)) ∧ Below w.heap.size w w' := by
  have hE := not_empty_of (s := s) (by omega)
  have HD := Lib.hid h; clear h
  go_enter Try.func69, Try.ntmps69
  go_wp2
  go_loop [4] (fun v => ∃ k : Nat, k ≤ s.size ∧ v = .int .i64 k) (fun v => s.size - (intOf v).toNat)
  case atStart => exact ⟨0, by omega, rfl⟩
  case round =>
    obtain ⟨k, hk, rfl⟩ := hrel
    clear hb
    by_cases hlt : k < s.size
    · have hd := HD.out k hlt
      have h1 : ¬ (s[k]'hlt).toNat < 48 := by omega
      have h2 : ¬ 57 < (s[k]'hlt).toNat := by omega
      go_wp2
      go_round
      case rel => exact ⟨k + 1, by omega, by go_num⟩
      case measure => simp [intOf]; omega
    · obtain rfl : k = s.size := by omega
      go_wp2
      go_loopw [5, 6] (fun a v wr => ∃ i : Nat, i ≤ s.size ∧ v = .int .i64 i ∧ a = .string (E (pv s i)) ∧ pv s i < Lim ∧ Below w.heap.size w wr) (fun _ v _ => s.size - (intOf v).toNat)
      case atStart => exact ⟨0, by omega, rfl, rfl, by rw [pv_zero, lim_eq]; exact Nat.pow_pos (by omega), Below.refl _ _⟩
      case round =>
        obtain ⟨i, hi, rfl, rfl, hal, hbel⟩ := hrel
        by_cases hlt : i < s.size
        · have hx := HD.out i hlt
          have hps := pv_succ s i hlt
          have hsa := (E_size_lim (pv s i)).2 hal
          have hs10 : (E (pv s i * 10)).size ≤ 128 + 1 := by
            rw [E_size_le, Nat.pow_succ]
            rw [lim_eq] at hal
            exact Nat.lt_of_lt_of_le ((Nat.mul_lt_mul_right (by omega)).2 hal) (Nat.mul_le_mul_left _ (by omega))
          obtain ⟨a, ha⟩ : ∃ a, a = pv s i := ⟨_, rfl⟩
          rw [← ha] at hps hsa hs10 hal ⊢
          obtain ⟨x, hxe⟩ : ∃ x, x = (s[i]'hlt).toNat := ⟨_, rfl⟩
          rw [← hxe] at hx hps
          obtain ⟨y, hy⟩ : ∃ y, y = x - 48 := ⟨_, rfl⟩
          have hxy : x = y + 48 := by omega
          have hy9 : y ≤ 9 := by omega
          rw [← hy] at hps
          have hxb : (((s[i]'hlt).toNat : Nat) : Int) = (y : Int) + 48 := by rw [← hxe, hxy]; simp
          have hsy : (E y).size ≤ 1 := by rw [E_size_le]; omega
          have hlim := E_size_lim (a * 10 + y)
          obtain ⟨b, hbe⟩ : ∃ b, b = a * 10 + y := ⟨_, rfl⟩
          rw [← hbe] at hps hlim
          have HBE := Lib.hid hbe
          have HPS := Lib.hid hps
          have HLIM := Lib.hid hlim
          have HSA := Lib.hid hsa
          have HS10 := Lib.hid hs10
          have HSY := Lib.hid hsy
          clear hxe hxy hy hx ha hbe hps hlim hal hsa hs10 hsy
          have q0 : IntKind.u8.wrap (y : Int) = (y : Int) := IntWalk.u8_in _ (by omega)
          have q4 : IntKind.u64.wrap (y : Int) = (y : Int) := IntWalk.u64_in _ (by omega)
          have i1 : (i : Int) < (s.size : Int) := by omega
          have hyl : y < 18446744073709551616 := by omega
          have HYL := Lib.hid hyl
          clear hyl
          go_wp2
          go_region_held3 (fun w' => Below w.heap.size w w') (first | assumption | exact hbel.drew | (refine bnext ?_ b1; assumption)) (first
            | (go_at_call 83; refine (rtimes_any _ _ _ (by have := HSA.out; omega) (by decide)).mono ?_; rintro e w1 ⟨rfl, b1⟩; rw [V_E, V_ten])
            | (go_at_call 52; refine (rof_any _ _ HYL.out).mono ?_; rintro e w1 ⟨rfl, b1⟩)
            | (go_at_call 80; refine (rplus_any _ _ _ (by have := HS10.out; omega) (by have := HSY.out; omega)).mono ?_; rintro e w1 ⟨rfl, b1⟩; rw [V_E, V_E, ← HBE.out]))
          all_goals (
            have hbf : Below w.heap.size w w1 := by assumption
            have HBF := Lib.hid hbf
            clear hbf q0 q4 hxb b1
            by_cases hfit : b < Lim
            · have hf := HLIM.out.2 hfit
              have HF := Lib.hid hfit; clear hfit
              go_wp2
              go_roundw
              case rel => exact ⟨i + 1, by omega, by go_num, by rw [HPS.out], by rw [HPS.out]; exact HF.out, HBF.out⟩
              case measure => simp [intOf]; omega
            · have hf : ¬ (E b).size ≤ 128 := fun q => hfit (HLIM.out.1 q)
              have hno : ¬ pv s s.size < Lim := fun q => hfit (Nat.lt_of_le_of_lt (by rw [← HPS.out]; exact pv_le s (i + 1) s.size (by omega) (Nat.le_refl _)) q)
              have HNO := Lib.hid (okN_no hno)
              clear hno hfit
              go_wp2
              go_ret2
              exact ⟨by rw [HNO.out]; rfl, HBF.out⟩)
        · obtain rfl : i = s.size := by omega
          have HOK := Lib.hid (okN_yes hal)
          clear hal
          go_wp2
          go_ret2
          exact ⟨by rw [HOK.out]; rfl, hbel⟩

set_option maxHeartbeats 4000000 in
set_option maxRecDepth 20000 in
theorem rparse_good2 (s : ByteArray) (w : World) (hs : s.size ≤ 1000) (h0 : 0 < s.size) (hb : (((s[0]'h0).toNat : Int) == 48) = true) (hb1 : ¬ (1 : Int) < (s.size : Int)) (h : Digs s) :
    Calls Try.prog 69 #[.string s] w fun e w' => e = .returned (okN (pv s s.size)) ∧ Below w.heap.size w w' := by
  have hE := not_empty_of (s := s) (by omega)
  have HD := Lib.hid h; clear h
  go_enter Try.func69, Try.ntmps69
  go_wp2
  go_loop [4] (fun v => ∃ k : Nat, k ≤ s.size ∧ v = .int .i64 k) (fun v => s.size - (intOf v).toNat)
  case atStart => exact ⟨0, by omega, rfl⟩
  case round =>
    obtain ⟨k, hk, rfl⟩ := hrel
    clear hb
    by_cases hlt : k < s.size
    · have hd := HD.out k hlt
      have h1 : ¬ (s[k]'hlt).toNat < 48 := by omega
      have h2 : ¬ 57 < (s[k]'hlt).toNat := by omega
      go_wp2
      go_round
      case rel => exact ⟨k + 1, by omega, by go_num⟩
      case measure => simp [intOf]; omega
    · obtain rfl : k = s.size := by omega
      go_wp2
      go_loopw [5, 6] (fun a v wr => ∃ i : Nat, i ≤ s.size ∧ v = .int .i64 i ∧ a = .string (E (pv s i)) ∧ pv s i < Lim ∧ Below w.heap.size w wr) (fun _ v _ => s.size - (intOf v).toNat)
      case atStart => exact ⟨0, by omega, rfl, rfl, by rw [pv_zero, lim_eq]; exact Nat.pow_pos (by omega), Below.refl _ _⟩
      case round =>
        obtain ⟨i, hi, rfl, rfl, hal, hbel⟩ := hrel
        by_cases hlt : i < s.size
        · have hx := HD.out i hlt
          have hps := pv_succ s i hlt
          have hsa := (E_size_lim (pv s i)).2 hal
          have hs10 : (E (pv s i * 10)).size ≤ 128 + 1 := by
            rw [E_size_le, Nat.pow_succ]
            rw [lim_eq] at hal
            exact Nat.lt_of_lt_of_le ((Nat.mul_lt_mul_right (by omega)).2 hal) (Nat.mul_le_mul_left _ (by omega))
          obtain ⟨a, ha⟩ : ∃ a, a = pv s i := ⟨_, rfl⟩
          rw [← ha] at hps hsa hs10 hal ⊢
          obtain ⟨x, hxe⟩ : ∃ x, x = (s[i]'hlt).toNat := ⟨_, rfl⟩
          rw [← hxe] at hx hps
          obtain ⟨y, hy⟩ : ∃ y, y = x - 48 := ⟨_, rfl⟩
          have hxy : x = y + 48 := by omega
          have hy9 : y ≤ 9 := by omega
          rw [← hy] at hps
          have hxb : (((s[i]'hlt).toNat : Nat) : Int) = (y : Int) + 48 := by rw [← hxe, hxy]; simp
          have hsy : (E y).size ≤ 1 := by rw [E_size_le]; omega
          have hlim := E_size_lim (a * 10 + y)
          obtain ⟨b, hbe⟩ : ∃ b, b = a * 10 + y := ⟨_, rfl⟩
          rw [← hbe] at hps hlim
          have HBE := Lib.hid hbe
          have HPS := Lib.hid hps
          have HLIM := Lib.hid hlim
          have HSA := Lib.hid hsa
          have HS10 := Lib.hid hs10
          have HSY := Lib.hid hsy
          clear hxe hxy hy hx ha hbe hps hlim hal hsa hs10 hsy
          have q0 : IntKind.u8.wrap (y : Int) = (y : Int) := IntWalk.u8_in _ (by omega)
          have q4 : IntKind.u64.wrap (y : Int) = (y : Int) := IntWalk.u64_in _ (by omega)
          have i1 : (i : Int) < (s.size : Int) := by omega
          have hyl : y < 18446744073709551616 := by omega
          have HYL := Lib.hid hyl
          clear hyl
          go_wp2
          go_region_held3 (fun w' => Below w.heap.size w w') (first | assumption | exact hbel.drew | (refine bnext ?_ b1; assumption)) (first
            | (go_at_call 83; refine (rtimes_any _ _ _ (by have := HSA.out; omega) (by decide)).mono ?_; rintro e w1 ⟨rfl, b1⟩; rw [V_E, V_ten])
            | (go_at_call 52; refine (rof_any _ _ HYL.out).mono ?_; rintro e w1 ⟨rfl, b1⟩)
            | (go_at_call 80; refine (rplus_any _ _ _ (by have := HS10.out; omega) (by have := HSY.out; omega)).mono ?_; rintro e w1 ⟨rfl, b1⟩; rw [V_E, V_E, ← HBE.out]))
          all_goals (
            have hbf : Below w.heap.size w w1 := by assumption
            have HBF := Lib.hid hbf
            clear hbf q0 q4 hxb b1
            by_cases hfit : b < Lim
            · have hf := HLIM.out.2 hfit
              have HF := Lib.hid hfit; clear hfit
              go_wp2
              go_roundw
              case rel => exact ⟨i + 1, by omega, by go_num, by rw [HPS.out], by rw [HPS.out]; exact HF.out, HBF.out⟩
              case measure => simp [intOf]; omega
            · have hf : ¬ (E b).size ≤ 128 := fun q => hfit (HLIM.out.1 q)
              have hno : ¬ pv s s.size < Lim := fun q => hfit (Nat.lt_of_le_of_lt (by rw [← HPS.out]; exact pv_le s (i + 1) s.size (by omega) (Nat.le_refl _)) q)
              have HNO := Lib.hid (okN_no hno)
              clear hno hfit
              go_wp2
              go_ret2
              exact ⟨by rw [HNO.out]; rfl, HBF.out⟩)
        · obtain rfl : i = s.size := by omega
          have HOK := Lib.hid (okN_yes hal)
          clear hal
          go_wp2
          go_ret2
          exact ⟨by rw [HOK.out]; rfl, hbel⟩

theorem rparse_no (s : ByteArray) (w : World) (hs : s.size ≤ 1000) (h : ¬ DecS s) :
    Calls Try.prog 69 #[.string s] w fun e w' => e = .returned (.tuple #[.string (E 0), .int .i64 4]) ∧ w = w' := by
  by_cases h0 : 0 < s.size
  · by_cases h48 : (s[0]'h0).toNat = 48
    · by_cases h1 : 1 < s.size
      · exact rparse_zero s w hs h1 h48
      · have hd : ¬ Digs s := fun q => h ⟨q, h0, fun _ _ => by omega⟩
        exact rparse_bad2 s w hs h0 (by rw [beq_iff_eq]; omega) (by omega) hd
    · have hd : ¬ Digs s := fun q => h ⟨q, h0, fun _ r => absurd r h48⟩
      exact rparse_bad1 s w hs h0 (by rw [beq_eq_false_iff_ne]; omega) hd
  · exact rparse_empty s w (by omega)
theorem rparse_yes (s : ByteArray) (w : World) (hs : s.size ≤ 1000) (h : DecS s) :
    Calls Try.prog 69 #[.string s] w fun e w' => e = .returned (okN (pv s s.size)) ∧ Below w.heap.size w w' := by
  obtain ⟨hd, h0, hz⟩ := h
  by_cases h48 : (s[0]'h0).toNat = 48
  · have h1 := hz h0 h48
    exact rparse_good2 s w hs h0 (by rw [beq_iff_eq]; omega) (by omega) hd
  · exact rparse_good1 s w hs h0 (by rw [beq_eq_false_iff_ne]; omega) hd
end Go.Proofs.Ytamgklgjhjociaa
