/-
  Contracts of the reference of layer 5, the third part: padded.
-/
import Derived.Test.YtchjllnlhhoflaaRH2
namespace Go.Proofs.Ytchjllnlhhoflaa
open Go.RowKit Go.Deep
set_option linter.unusedVariables false

theorem int_eq' {k : IntKind} {a b : Int} (h : a = b) : Value.int k a = Value.int k b := by rw [h]
def strSz : Value → Nat | .string b => b.size | _ => 0
theorem hmakeF8 (w : World) : (Instr.makeSlice 27 (.int .i64 8) (.int .i64 8)).run Try.prog w = .ok (.slice (some ⟨w.heap.size, 0, none⟩) 8 8) (w.alloc (.cells (madeCells #[.int .u8 0] 8) 5)) := hmakeF 8 (by omega) w
theorem len_string {w : World} {g t n : Nat} (h : w.rowIs g t 8 (fun j => .int .u8 (lenF n 8 j : Nat))) (cap : Nat) :
    (convert 27 9 (.slice (some ⟨g, 0, none⟩) 8 cap)).run Try.prog w = .ok (.string ⟨(be8 8 (8 * n)).toArray⟩) w := by
  have := run_convert_bytes_arg (P := Try.prog) w 27 5 Try.hund27 Try.hund5 g 0 8 cap ((be8 8 (8 * n)).map fun c => (c.toNat : Int)) (by simp [be8_length]) (fun i hi => by
    rw [Nat.zero_add, h.cell hi]
    have e := be8_val n i hi
    have hl : i < (be8 8 (8 * n)).length := by rw [be8_length]; exact hi
    rw [bvals_get _ _ hl] at e
    rw [← e]
    simp [List.getD, hl]) 9 Try.hund9
  rw [this, hstr_bytes]
/-- What the loops know. -/
def RPadR (s : ByteArray) (w : World) (v : Value) (wr : World) : Prop :=
  ∃ (q : Nat) (L : ByteArray), q ≤ padz s.size ∧ v = .string L ∧ L.data.toList = s.data.toList ++ [128] ++ List.replicate q 0 ∧ L.size = s.size + 1 + q ∧ w = wr
def RPadQ (n : Nat) (w : World) (vb vi : Value) (wr : World) : Prop :=
  ∃ k : Nat, k ≤ 8 ∧ vi = .int .i64 (7 - (k : Int)) ∧ vb = .int .u64 (8 * n / 256 ^ k : Nat) ∧ wr.rowIs w.heap.size 5 8 (fun j => .int .u8 (lenF n k j : Nat)) ∧ Below w.heap.size w wr

theorem rpadQ_start (n : Nat) (w : World) : RPadQ n w (.int .u64 ((n : Int) * 8)) (.int .i64 7) (w.alloc (.cells (madeCells #[.int .u8 0] 8) 5)) :=
  ⟨0, by omega, rfl, int_eq' (by simp; omega), (World.rowIs_made w (.int .u8 0) 8 5).congr (fun i hi => by show _ = Value.int .u8 ((lenF n 0 i : Nat) : Int); rw [lenF_zero n i hi]; rfl), (Below.refl _ _).alloc (Nat.le_refl _) _⟩
set_option maxHeartbeats 1000000 in
set_option maxRecDepth 100000 in
theorem rpadded_any (s : ByteArray) (w : World) (hn : s.size ≤ 1099511627776) :
    Calls Try.prog 21 #[.string s] w fun e w' => e = .returned (.string ⟨(pad s.data.toList).toArray⟩) ∧ Below w.heap.size w w' := by
  have hmk := hmakeF8
  have l0 : s.size + 1 ≤ 9223372036854775807 := by omega
  go_enter Try.func21, Try.ntmps21
  go_wp2
  go_loopw [0] (fun v wr => RPadR s w v wr) (fun v _ => s.size + 70 - strSz v)
  case atStart => exact ⟨0, s ++ ⟨#[128]⟩, by omega, rfl, by simp, by rw [ByteArray.size_append]; rfl, rfl⟩
  case round =>
    obtain ⟨q, L, hq, rfl, hL, hls, rfl⟩ := hrel
    have HL := Lib.hid hL
    have hz := padz_lt s.size
    have hpm := pad_mod s.size
    clear hL
    by_cases hlt : q < padz s.size
    · have e1 : ((L.size : Int) % 64 != 56) = true := by rw [bne_iff_ne]; unfold padz at hlt hpm; omega
      have l1 : L.size + 1 ≤ 9223372036854775807 := by omega
      have HLS := Lib.hid hls
      have HPM := Lib.hid hpm
      clear hls hpm
      go_wp2
      go_roundw
      case rel => exact ⟨q + 1, L ++ ⟨#[0]⟩, by omega, rfl, by simp [HL.out, List.replicate_succ', List.append_assoc], by rw [ByteArray.size_append, HLS.out]; rfl, rfl⟩
      case measure =>
        have h1 : (L ++ ⟨#[0]⟩ : ByteArray).size = L.size + 1 := by rw [ByteArray.size_append]; rfl
        have := HLS.out
        show s.size + 70 - (L ++ ⟨#[0]⟩ : ByteArray).size < s.size + 70 - L.size
        rw [h1]; omega
    · have hqe : q = padz s.size := by omega
      have e1 : ((L.size : Int) % 64 != 56) = false := by rw [bne_eq_false_iff_eq]; rw [hls, hqe]; omega
      have l1 : L.size + 8 ≤ 9223372036854775807 := by omega
      have hfin : L.data.toList ++ be8 8 (8 * s.size) = pad s.data.toList := by rw [HL.out, hqe]; simp [pad, padT]
      have HF := Lib.hid hfin
      clear hls hpm hfin hqe hlt hq
      go_wp2
      go_loopw [5, 6] (fun vb vi wr => RPadQ s.size w vb vi wr) (fun _ vi _ => (intOf vi + 1).toNat)
      case atStart => exact rpadQ_start s.size w
      case round =>
        clear hmk
        obtain ⟨k, hk, rfl, rfl, hrow, hbel⟩ := hrel
        by_cases hlt : k < 8
        · obtain ⟨j, hj⟩ : ∃ j, 7 - k = j := ⟨_, rfl⟩
          have hji : 7 - (k : Int) = (j : Int) := by omega
          have hcell := hrow.cell (i := j) (by omega)
          have hfr := hrow.frozen j
          have hj7 : j ≤ 7 := by omega
          have hml : 8 * s.size / 256 ^ k ≤ 8796093022208 := Nat.le_trans (Nat.div_le_self _ _) (by omega)
          have hnx : 8 * s.size / 256 ^ k / 256 = 8 * s.size / 256 ^ (k + 1) := by rw [Nat.div_div_eq_div_mul, Nat.pow_succ]
          have hdc : (((8 * s.size / 256 ^ k : Nat) : Int) % 256) = ((8 * s.size / 256 ^ k % 256 : Nat) : Int) := by simp
          obtain ⟨m, hm⟩ : ∃ m, m = 8 * s.size / 256 ^ k := ⟨_, rfl⟩
          rw [← hm] at hml hnx hdc ⊢
          rw [hji]
          have HNX := Lib.hid hnx
          have HDC := Lib.hid hdc
          have HR := Lib.hid hrow
          have HJ := Lib.hid hj
          have HM := Lib.hid hm
          have HJI := Lib.hid hji
          clear hnx hdc hrow hj hm hji
          go_wp2
          go_roundw
          case rel =>
            exact ⟨k + 1, by omega, int_eq' (by have := HJ.out; omega), int_eq' (by rw [← HNX.out]; simp), len_row HR.out hlt HJ.out (by rw [HDC.out, HM.out]), hbel.setCell (Nat.le_refl _) _⟩
          case measure => simp [intOf]
        · obtain rfl : k = 8 := by omega
          have hcv := len_string hrow 8
          clear hrow
          obtain ⟨B, hB⟩ : ∃ B : ByteArray, (⟨(be8 8 (8 * s.size)).toArray⟩ : ByteArray) = B := ⟨_, rfl⟩
          have hBs : B.size ≤ 8 := by rw [← hB, ← hsize_eq]; simp [be8_length]
          rw [hB] at hcv
          have HB := Lib.hid hB
          clear hB hk hlt
          go_wp2
          go_ret
          refine ⟨hret_str ?_, hbel⟩
          rw [← HF.out, ← HB.out]
          apply ByteArray.ext
          simp
end Go.Proofs.Ytchjllnlhhoflaa
