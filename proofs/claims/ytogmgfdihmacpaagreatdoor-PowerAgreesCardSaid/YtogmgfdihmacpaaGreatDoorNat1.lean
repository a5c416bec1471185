/-
  Contracts of package natural, the first part: Valid, byteAt.
-/
import Derived.Test.YtogmgfdihmacpaaGreatDoorMath
import Derived.Test.YtogmgfdihmacpaaGreatDoorChecked
import Derived.WalkKit
import Derived.WalkSpells
import Derived.WalkLawsBesides
import Derived.Lib.Hide
namespace Go.Proofs.YtogmgfdihmacpaaGreatDoor
open Go.RowKit
set_option linter.unusedVariables false

/-- Canonical: at most 128 bytes, no leading zero. -/
def Can (s : ByteArray) : Prop := s.size ≤ 128 ∧ can s.data.toList
/-- The number of a string. -/
def V (s : ByteArray) : Nat := bval s.data.toList
/-- The string of a number. -/
def E (n : Nat) : ByteArray := ⟨(enc n).toArray⟩

theorem size_eq (s : ByteArray) : s.size = s.data.toList.length := by rw [Array.length_toList]; rfl
theorem get_eq (s : ByteArray) (i : Nat) (h : i < s.size) : s[i] = s.data.toList[i]'(by rw [← size_eq]; exact h) := by
  cases s; rfl
theorem empty_of {s : ByteArray} (h : s.size = 0) : s.toList.isEmpty = true := by
  rw [ByteArray.toList_eq]; rw [size_eq] at h; rw [List.isEmpty_iff]; exact List.eq_nil_of_length_eq_zero h
theorem not_empty_of {s : ByteArray} (h : s.size ≠ 0) : s.toList.isEmpty = false := by
  rw [ByteArray.toList_eq]; rw [size_eq] at h
  cases hq : s.data.toList with
  | nil => rw [hq] at h; simp at h
  | cons => rfl
theorem can_head {s : ByteArray} (h : can s.data.toList) (h0 : 0 < s.size) : (((s[0]'h0).toNat : Int) != 0) = true := by
  rw [bne_iff_ne]
  intro e
  apply h
  rw [List.head?_eq_getElem?, List.getElem?_eq_getElem (by rw [← size_eq]; exact h0), ← get_eq s 0 h0]
  have : (s[0]'h0).toNat = 0 := by omega
  rw [UInt8.toNat_inj.1 (show (s[0]'h0).toNat = (0 : UInt8).toNat by simpa using this)]
theorem not_can_head {s : ByteArray} (h : ¬ can s.data.toList) : ∃ h0 : 0 < s.size, (s[0]'h0).toNat = 0 := by
  unfold can at h
  have h := Classical.not_not.1 h
  rw [List.head?_eq_getElem?] at h
  obtain ⟨h0, e⟩ := List.getElem?_eq_some_iff.1 h
  have h0' : 0 < s.size := by rw [size_eq]; exact h0
  exact ⟨h0', by rw [get_eq s 0 h0', e]; rfl⟩

set_option maxHeartbeats 400000 in
theorem valid_yes (s : ByteArray) (w : World) (h : Can s) :
    Calls Tryz.prog 34 #[.string s] w fun e w' => e = .returned (.bool true) ∧ w = w' := by
  obtain ⟨h1, h2⟩ := h
  by_cases h0 : s.size = 0
  · have hE := empty_of h0
    clear h0
    go_enter Tryz.func34, Tryz.ntmps34
    go_wp2
    go_ret
    exact ⟨rfl, rfl⟩
  · have hE := not_empty_of h0
    have h0' : 0 < s.size := by omega
    have hh := can_head h2 h0'
    clear h0 h2
    go_enter Tryz.func34, Tryz.ntmps34
    go_wp2
    go_ret
    exact ⟨rfl, rfl⟩

set_option maxHeartbeats 400000 in
theorem valid_no (s : ByteArray) (w : World) (h : ¬ Can s) :
    Calls Tryz.prog 34 #[.string s] w fun e w' => e = .returned (.bool false) ∧ w = w' := by
  by_cases h1 : s.size ≤ 128
  · have h2 : ¬ can s.data.toList := fun q => h ⟨h1, q⟩
    obtain ⟨h0, hz⟩ := not_can_head h2
    have hE := not_empty_of (s := s) (by omega)
    have hh : (((s[0]'h0).toNat : Int) != 0) = false := by rw [hz]; rfl
    clear h h2 hz
    go_enter Tryz.func34, Tryz.ntmps34
    go_wp2
    go_ret
    exact ⟨rfl, rfl⟩
  · clear h
    go_enter Tryz.func34, Tryz.ntmps34
    go_wp2
    go_ret
    exact ⟨rfl, rfl⟩

/-- The byte with the weight 256^i. -/
def dig (n i : Nat) : Nat := n / 256 ^ i % 256
theorem V_lt (s : ByteArray) : V s < 256 ^ s.size := by rw [size_eq]; exact bval_lt _
theorem dig_high (s : ByteArray) (i : Nat) (h : s.size ≤ i) : dig (V s) i = 0 := by
  unfold dig
  rw [Nat.div_eq_of_lt]
  exact Nat.lt_of_lt_of_le (V_lt s) (Nat.pow_le_pow_right (by omega) h)
theorem dig_low (s : ByteArray) (i : Nat) (h : i < s.size) : (s[s.size - 1 - i]'(by omega)).toNat = dig (V s) i := by
  have h' : i < s.data.toList.length := by rw [← size_eq]; exact h
  have := bval_digit s.data.toList i h'
  rw [List.getElem?_eq_getElem (by omega)] at this
  unfold dig V
  rw [← this, get_eq]
  simp only [size_eq, Option.getD_some]

theorem ret_int {k : IntKind} {a b : Int} (h : a = b) : Ending.returned (.int k a) = .returned (.int k b) := by rw [h]
set_option maxHeartbeats 400000 in
theorem byteAt_any (s : ByteArray) (i : Int) (w : World) (hs : s.size ≤ 1000) (h0 : 0 ≤ i) (hi : i ≤ 4611686018427387904) :
    Calls Tryz.prog 59 #[.string s, .int .i64 i] w fun e w' => e = .returned (.int .u8 (dig (V s) i.toNat)) ∧ w = w' := by
  obtain ⟨i, rfl⟩ := Int.eq_ofNat_of_zero_le h0
  rw [Int.toNat_natCast]
  by_cases h : i < s.size
  · have hd := dig_low s i h
    have hlt : s.size - 1 - i < s.size := by omega
    have HD := Lib.hid hd; clear hd
    go_enter Tryz.func59, Tryz.ntmps59
    go_wp2
    go_ret
    exact ⟨ret_int (by rw [HD.out]), rfl⟩
  · have hd := dig_high s i (by omega)
    have HD := Lib.hid hd; clear hd
    go_enter Tryz.func59, Tryz.ntmps59
    go_wp2
    go_ret
    exact ⟨by rw [HD.out]; rfl, rfl⟩

/-! ### strip -/
theorem Tryz.und83 : Tryz.prog.underlying 83 = some (.slice 5) := by kernel_rfl
theorem Tryz.und5 : Tryz.prog.underlying 5 = some (.int .u8) := by kernel_rfl
theorem Tryz.und22 : Tryz.prog.underlying 22 = some .string := by kernel_rfl

/-- n cells of bytes from place o of block g on read as l. -/
def Bytes (w : World) (g o : Nat) (l : List UInt8) : Prop := ∀ j, j < l.length → w.cell? ⟨g, o + j, none⟩ = some (.int .u8 ((l[j]?.getD 0).toNat : Int))
theorem Bytes.at_ {w : World} {g o : Nat} {l : List UInt8} (h : Bytes w g o l) (j : Nat) (hj : j < l.length) : w.cell? ⟨g, o + j, none⟩ = some (.int .u8 (((l[j]'hj).toNat : Nat) : Int)) := by
  have := h j hj
  rwa [List.getElem?_eq_getElem hj, Option.getD_some] at this
theorem strOfNums_bytes (l : List UInt8) : strOfNums (l.map fun c => (c.toNat : Int)) = ⟨l.toArray⟩ := by
  unfold strOfNums
  simp [List.map_map, Function.comp_def]
theorem run_bytes_string {w : World} {g o : Nat} {l : List UInt8} (h : Bytes w g o l) (c n : Nat) (hn : n = l.length) :
    (convert 83 22 (.slice (some ⟨g, o, none⟩) n c)).run Tryz.prog w = .ok (.string ⟨l.toArray⟩) w := by
  subst hn
  have := run_convert_bytes_arg (P := Tryz.prog) w 83 5 Tryz.und83 Tryz.und5 g o l.length c (l.map fun c => (c.toNat : Int)) (by simp) (fun i hi => by
    rw [h i hi]; simp [List.getD, hi]) 22 Tryz.und22
  rw [this, strOfNums_bytes]
theorem Bytes.drop {w : World} {g o : Nat} {l : List UInt8} (h : Bytes w g o l) (k : Nat) : Bytes w g (o + k) (l.drop k) := by
  intro j hj
  have hj' : k + j < l.length := by simp at hj; omega
  rw [Nat.add_assoc, h (k + j) hj', List.getElem?_drop]
theorem Bytes.nil (w : World) (g o : Nat) : Bytes w g o [] := fun j hj => by simp at hj

/-- The length in a slot. -/
def lenOf : Value → Nat | .slice _ m _ => m | _ => 0
theorem head_zero {b : UInt8} (h : b = 0) : ((b.toNat : Int) == 0) = true := by subst h; rfl
theorem head_not_zero {b : UInt8} (h : b ≠ 0) : ((b.toNat : Int) == 0) = false := by
  rw [beq_eq_false_iff_ne]
  intro e
  exact h (UInt8.toNat_inj.1 (show b.toNat = (0 : UInt8).toNat by simpa using e))
theorem strip_full {l : List UInt8} {n : Nat} (h : l.length = n) (hs : strip (l.drop n) = strip l) : strip l = [] := by
  rw [← hs, List.drop_of_length_le (by omega)]; rfl

set_option maxHeartbeats 400000 in
theorem strip_any (g o n c : Nat) (l : List UInt8) (w : World) (hl : l.length = n) (hn : n ≤ 100000) (hc : n ≤ c) (hc2 : c ≤ 100000) (hb : Bytes w g o l) :
    Calls Tryz.prog 55 #[.slice (some ⟨g, o, none⟩) n c] w fun e w' => e = .returned (.string ⟨(strip l).toArray⟩) ∧ w = w' := by
  have HL := Lib.hid hl; clear hl
  have HB := Lib.hid hb; clear hb
  go_enter Tryz.func55, Tryz.ntmps55
  go_wp2
  go_loop [0] (fun v => ∃ k m o' c' : Nat, k + m = n ∧ m ≤ c' ∧ c' ≤ 100000 ∧ v = .slice (some ⟨g, o', none⟩) m c' ∧ (0 < m → o' = o + k) ∧ strip (l.drop k) = strip l) (fun v => lenOf v)
  case atStart => exact ⟨0, n, o, c, by omega, by omega, by omega, rfl, fun _ => rfl, rfl⟩
  case round =>
    obtain ⟨k, m, o', c', hkm, hc1, hc3, rfl, ho, hs⟩ := hrel
    have HS := Lib.hid hs; clear hs
    have HK := Lib.hid hkm; clear hkm
    by_cases hlt : 0 < m
    · obtain rfl := ho hlt
      clear ho
      have hkl : k < l.length := by rw [HL.out]; have := HK.out; omega
      obtain ⟨b, hb0⟩ : ∃ b, l[k]? = some b := ⟨_, List.getElem?_eq_getElem hkl⟩
      have hcell : w.cell? ⟨g, o + k, none⟩ = some (.int .u8 (b.toNat : Int)) := by
        have := HB.out k hkl
        rw [this, hb0]; rfl
      have hpos : (0 : Int) < (m : Int) := by omega
      have HB0 := Lib.hid hb0; clear hb0
      by_cases hz : b = 0
      · have hzz := head_zero hz
        have HZ := Lib.hid hz; clear hz
        have R : strip (l.drop (k + 1)) = strip l := by rw [← HS.out]; exact (strip_drop_zero (by rw [HB0.out, HZ.out])).symm
        have HR := Lib.hid R; clear R
        by_cases hcc : c' = 1
        · subst hcc
          obtain rfl : m = 1 := by omega
          clear hlt hc1 hc3
          go_wp2
          go_round
          case rel => exact ⟨k + 1, 0, o + k, 0, by have := HK.out; omega, by omega, by omega, rfl, fun h => absurd h (by omega), HR.out⟩
          case measure => simp [lenOf]
        · obtain ⟨m, rfl⟩ : ∃ q, m = q + 1 := ⟨m - 1, by omega⟩
          obtain ⟨c', rfl⟩ : ∃ q, c' = q + 2 := ⟨c' - 2, by omega⟩
          clear hcc
          go_wp2
          go_round
          case rel => exact ⟨k + 1, m, o + k + 1, c' + 1, by have := HK.out; omega, by omega, by omega, rfl, fun h => by omega, HR.out⟩
          case measure => simp [lenOf]
      · have hzz := head_not_zero hz
        have R : strip (l.drop k) = l.drop k := strip_drop_stop HB0.out hz
        have hcv := run_bytes_string (HB.out.drop k) c' m (by rw [List.length_drop, HL.out]; have := HK.out; omega)
        rw [← R, HS.out] at hcv
        clear R hz
        go_wp2
        go_ret
        exact ⟨rfl, rfl⟩
    · obtain rfl : m = 0 := by omega
      obtain rfl : k = n := HK.out
      have hcv := run_bytes_string (Bytes.nil w g o') c' 0 rfl
      rw [← strip_full HL.out HS.out] at hcv
      clear hlt ho hc1
      go_wp2
      go_ret
      exact ⟨rfl, rfl⟩

end Go.Proofs.YtogmgfdihmacpaaGreatDoor
