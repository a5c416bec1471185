/-
  Contracts of package natural, the seventeenth part: decimal.
-/
import Derived.Test.YtamgklgjhjociaaNat16
namespace Go.Proofs.Ytamgklgjhjociaa
open Go.RowKit
set_option linter.unusedVariables false

/-- Only digits. -/
def Digs (s : ByteArray) : Prop := ∀ i (h : i < s.size), 48 ≤ (s[i]'h).toNat ∧ (s[i]'h).toNat ≤ 57
/-- A decimal number without superfluous zeros. -/
def DecS (s : ByteArray) : Prop := Digs s ∧ 0 < s.size ∧ (∀ h : 0 < s.size, (s[0]'h).toNat = 48 → s.size = 1)

set_option maxHeartbeats 400000 in
theorem decimal_bad (s : ByteArray) (w : World) (hs : s.size ≤ 1000) (h : ¬ Digs s) :
    Calls Try.prog 89 #[.string s] w fun e w' => e = .returned (.bool false) ∧ w = w' := by
  have HD := Lib.hid h; clear h
  go_enter Try.func89, Try.ntmps89
  go_wp2
  go_loop [6] (fun v => ∃ k : Nat, k ≤ s.size ∧ v = .int .i64 k ∧ ∀ i (h : i < s.size), i < k → 48 ≤ (s[i]'h).toNat ∧ (s[i]'h).toNat ≤ 57) (fun v => s.size - (intOf v).toNat)
  case atStart => exact ⟨0, by omega, rfl, fun i _ q => absurd q (by omega)⟩
  case round =>
    obtain ⟨k, hk, rfl, hall⟩ := hrel
    have HA := Lib.hid hall; clear hall
    by_cases hlt : k < s.size
    · by_cases h1 : (s[k]'hlt).toNat < 48
      · go_wp2
        go_ret
        exact ⟨rfl, rfl⟩
      · by_cases h2 : 57 < (s[k]'hlt).toNat
        · go_wp2
          go_ret
          exact ⟨rfl, rfl⟩
        · have hnx : ∀ i (h : i < s.size), i < k + 1 → 48 ≤ (s[i]'h).toNat ∧ (s[i]'h).toNat ≤ 57 := fun i h q => by
            by_cases e : i = k
            · subst e; omega
            · exact HA.out i h (by omega)
          have HNX := Lib.hid hnx; clear hnx
          go_wp2
          go_round
          case rel => exact ⟨k + 1, by omega, by go_num, HNX.out⟩
          case measure => simp [intOf]; omega
    · exact absurd (fun i h => HA.out i h (by omega)) HD.out
theorem list_zero {s : ByteArray} : s.toList = [48] ↔ ∃ h : s.size = 1, (s[0]'(by omega)).toNat = 48 := by
  rw [ByteArray.toList_eq]
  constructor
  · intro h
    have h1 : s.size = 1 := by rw [size_eq, h]; rfl
    refine ⟨h1, ?_⟩
    rw [get_eq]
    simp [h]
  · rintro ⟨h1, h2⟩
    rw [get_eq] at h2
    rw [size_eq] at h1
    match hl : s.data.toList, h1 with
    | [c], _ =>
      simp [hl] at h2
      have : c = 48 := UInt8.toNat_inj.1 h2
      rw [this]
theorem list_nil {s : ByteArray} : s.toList = [] ↔ s.size = 0 := by
  rw [ByteArray.toList_eq, size_eq]
  exact List.length_eq_zero_iff.symm

set_option maxHeartbeats 400000 in
theorem decimal_zero (s : ByteArray) (w : World) (hs : s.size ≤ 1000) (h : Digs s) (hl1 : s.toList = [48]) :
    Calls Try.prog 89 #[.string s] w fun e w' => e = .returned (.bool true) ∧ w = w' := by
  have HD := Lib.hid h; clear h
  have hl2 := hl1
  go_enter Try.func89, Try.ntmps89
  go_wp2
  go_loop [6] (fun v => ∃ k : Nat, k ≤ s.size ∧ v = .int .i64 k) (fun v => s.size - (intOf v).toNat)
  case atStart => exact ⟨0, by omega, rfl⟩
  case round =>
    obtain ⟨k, hk, rfl⟩ := hrel
    by_cases hlt : k < s.size
    · have hd := HD.out k hlt
      have h1 : ¬ (s[k]'hlt).toNat < 48 := by omega
      have h2 : ¬ 57 < (s[k]'hlt).toNat := by omega
      clear hl1 hl2
      go_wp2
      go_round
      case rel => exact ⟨k + 1, by omega, by go_num⟩
      case measure => simp [intOf]; omega
    · obtain rfl : k = s.size := by omega
      go_wp2
      go_ret
      exact ⟨rfl, rfl⟩

set_option maxHeartbeats 400000 in
theorem decimal_empty (s : ByteArray) (w : World) (hs : s.size ≤ 1000) (h : Digs s) (hl1 : ¬ s.toList = [48]) (hl2 : s.toList = []) :
    Calls Try.prog 89 #[.string s] w fun e w' => e = .returned (.bool false) ∧ w = w' := by
  have HD := Lib.hid h; clear h
  go_enter Try.func89, Try.ntmps89
  go_wp2
  go_loop [6] (fun v => ∃ k : Nat, k ≤ s.size ∧ v = .int .i64 k) (fun v => s.size - (intOf v).toNat)
  case atStart => exact ⟨0, by omega, rfl⟩
  case round =>
    obtain ⟨k, hk, rfl⟩ := hrel
    by_cases hlt : k < s.size
    · have hd := HD.out k hlt
      have h1 : ¬ (s[k]'hlt).toNat < 48 := by omega
      have h2 : ¬ 57 < (s[k]'hlt).toNat := by omega
      clear hl1 hl2
      go_wp2
      go_round
      case rel => exact ⟨k + 1, by omega, by go_num⟩
      case measure => simp [intOf]; omega
    · obtain rfl : k = s.size := by omega
      go_wp2
      go_ret
      exact ⟨rfl, rfl⟩

set_option maxHeartbeats 400000 in
theorem decimal_more (s : ByteArray) (w : World) (hs : s.size ≤ 1000) (h : Digs s) (hl1 : ¬ s.toList = [48]) (hl2 : ¬ s.toList = []) (h0 : 0 < s.size) (b : Bool) (hb : (((s[0]'h0).toNat : Int) != 48) = b) :
    Calls Try.prog 89 #[.string s] w fun e w' => e = .returned (.bool b) ∧ w = w' := by
  have HD := Lib.hid h; clear h
  go_enter Try.func89, Try.ntmps89
  go_wp2
  go_loop [6] (fun v => ∃ k : Nat, k ≤ s.size ∧ v = .int .i64 k) (fun v => s.size - (intOf v).toNat)
  case atStart => exact ⟨0, by omega, rfl⟩
  case round =>
    obtain ⟨k, hk, rfl⟩ := hrel
    by_cases hlt : k < s.size
    · have hd := HD.out k hlt
      have h1 : ¬ (s[k]'hlt).toNat < 48 := by omega
      have h2 : ¬ 57 < (s[k]'hlt).toNat := by omega
      clear hl1 hl2 hb
      go_wp2
      go_round
      case rel => exact ⟨k + 1, by omega, by go_num⟩
      case measure => simp [intOf]; omega
    · obtain rfl : k = s.size := by omega
      go_wp2
      go_ret
      refine ⟨ret_bool ?_, rfl⟩
      have e1 : (s.toList == [48]) = false := by rw [beq_eq_false_iff_ne]; exact hl1
      have e2 : s.toList.isEmpty = false := by rw [List.isEmpty_eq_false_iff]; exact hl2
      simp [e1, e2]

theorem decimal_yes (s : ByteArray) (w : World) (hs : s.size ≤ 1000) (h : DecS s) :
    Calls Try.prog 89 #[.string s] w fun e w' => e = .returned (.bool true) ∧ w = w' := by
  obtain ⟨h1, h2, h3⟩ := h
  by_cases hl : s.toList = [48]
  · exact decimal_zero s w hs h1 hl
  · refine decimal_more s w hs h1 hl (fun q => by have := list_nil.1 q; omega) h2 true ?_
    rw [bne_iff_ne]
    intro q
    have q2 : (s[0]'h2).toNat = 48 := by omega
    exact hl (list_zero.2 ⟨h3 h2 q2, q2⟩)
theorem decimal_no (s : ByteArray) (w : World) (hs : s.size ≤ 1000) (h : ¬ DecS s) :
    Calls Try.prog 89 #[.string s] w fun e w' => e = .returned (.bool false) ∧ w = w' := by
  by_cases h1 : Digs s
  · by_cases h0 : 0 < s.size
    · have hn : ¬ ∀ h : 0 < s.size, (s[0]'h).toNat = 48 → s.size = 1 := fun q => h ⟨h1, h0, q⟩
      have h48 : (s[0]'h0).toNat = 48 ∧ s.size ≠ 1 := by
        by_cases e : (s[0]'h0).toNat = 48
        · exact ⟨e, fun q => hn fun _ _ => q⟩
        · exact absurd (fun _ q => absurd q e) hn
      clear hn h
      refine decimal_more s w hs h1 (fun q => h48.2 (list_zero.1 q).1) (fun q => by have := list_nil.1 q; omega) h0 false ?_
      rw [bne_eq_false_iff_eq]
      omega
    · refine decimal_empty s w hs h1 (fun q => ?_) (list_nil.2 (by omega))
      have := (list_zero.1 q).1
      omega
  · exact decimal_bad s w hs h1
end Go.Proofs.Ytamgklgjhjociaa
