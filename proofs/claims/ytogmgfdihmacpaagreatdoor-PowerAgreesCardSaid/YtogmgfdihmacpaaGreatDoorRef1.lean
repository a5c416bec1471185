/-
  Contracts of the reference of layer 1, the first part.
-/
import Derived.Test.YtogmgfdihmacpaaGreatDoorND
namespace Go.Proofs.YtogmgfdihmacpaaGreatDoor
open Go.RowKit
set_option linter.unusedVariables false

set_option maxHeartbeats 400000 in
theorem rvalid_yes (s : ByteArray) (w : World) (h : Can s) :
    Calls Tryz.prog 38 #[.string s] w fun e w' => e = .returned (.bool true) ∧ w = w' := by
  obtain ⟨h1, h2⟩ := h
  by_cases h0 : s.size = 0
  · have hE := empty_of h0
    clear h0
    go_enter Tryz.func38, Tryz.ntmps38
    go_wp2
    go_ret
    exact ⟨rfl, rfl⟩
  · have hE := not_empty_of h0
    have h0' : 0 < s.size := by omega
    have hh := can_head h2 h0'
    clear h0 h2
    go_enter Tryz.func38, Tryz.ntmps38
    go_wp2
    go_ret
    exact ⟨rfl, rfl⟩

set_option maxHeartbeats 400000 in
theorem rvalid_no (s : ByteArray) (w : World) (h : ¬ Can s) :
    Calls Tryz.prog 38 #[.string s] w fun e w' => e = .returned (.bool false) ∧ w = w' := by
  by_cases h1 : s.size ≤ 128
  · have h2 : ¬ can s.data.toList := fun q => h ⟨h1, q⟩
    obtain ⟨h0, hz⟩ := not_can_head h2
    have hE := not_empty_of (s := s) (by omega)
    have hh : (((s[0]'h0).toNat : Int) != 0) = false := by rw [hz]; rfl
    clear h h2 hz
    go_enter Tryz.func38, Tryz.ntmps38
    go_wp2
    go_ret
    exact ⟨rfl, rfl⟩
  · clear h
    go_enter Tryz.func38, Tryz.ntmps38
    go_wp2
    go_ret
    exact ⟨rfl, rfl⟩

set_option maxHeartbeats 400000 in
theorem at_any (s : ByteArray) (i : Int) (w : World) (hs : s.size ≤ 1000) (h0 : 0 ≤ i) (hi : i ≤ 4611686018427387904) :
    Calls Tryz.prog 71 #[.string s, .int .i64 i] w fun e w' => e = .returned (.int .i64 (dig (V s) i.toNat)) ∧ w = w' := by
  obtain ⟨i, rfl⟩ := Int.eq_ofNat_of_zero_le h0
  rw [Int.toNat_natCast]
  by_cases h : i < s.size
  · have hd := dig_low s i h
    have hlt : s.size - 1 - i < s.size := by omega
    have HD := Lib.hid hd; clear hd
    have hb := (s[s.size - 1 - i]'hlt).toNat_lt
    go_enter Tryz.func71, Tryz.ntmps71
    go_wp2
    go_ret
    exact ⟨ret_int (by rw [HD.out]), rfl⟩
  · have hd := dig_high s i (by omega)
    have HD := Lib.hid hd; clear hd
    go_enter Tryz.func71, Tryz.ntmps71
    go_wp2
    go_ret
    exact ⟨by rw [HD.out]; rfl, rfl⟩

set_option maxHeartbeats 400000 in
theorem u64_any (s : ByteArray) (w : World) (h8 : s.size ≤ 8) :
    Calls Tryz.prog 65 #[.string s] w fun e w' => e = .returned (.int .u64 (V s)) ∧ w = w' := by
  have h8' : (s.size : Int) ≤ 8 := by omega
  go_enter Tryz.func65, Tryz.ntmps65
  go_wp2
  go_loop [3, 4] (fun n v => ∃ k : Nat, k ≤ s.size ∧ v = .int .i64 k ∧ n = .int .u64 (pre s k : Nat)) (fun _ v => s.size - (intOf v).toNat)
  case atStart => exact ⟨0, by omega, rfl, by rw [pre_zero]; rfl⟩
  case round =>
    obtain ⟨k, hk, rfl, rfl⟩ := hrel
    by_cases hlt : k < s.size
    · have hb := (s[k]'hlt).toNat_lt
      have hp := pre_lt s k
      have hp2 : pre s k < 72057594037927936 := Nat.lt_of_lt_of_le hp (Nat.le_trans (Nat.pow_le_pow_right (by omega) (show k ≤ 7 by omega)) (by decide))
      have hs := pre_succ s k hlt
      have HS := Lib.hid hs; clear hs hp
      go_wp2
      go_round
      case rel => exact ⟨k + 1, by omega, by go_num, int_eq (by rw [HS.out]; simp)⟩
      case measure => simp [intOf]; omega
    · obtain rfl : k = s.size := by omega
      go_wp2
      go_ret
      exact ⟨ret_int (by rw [pre_all]), rfl⟩

set_option maxHeartbeats 400000 in
theorem rtrim_any (g o n c : Nat) (l : List UInt8) (w : World) (hl : l.length = n) (hn : n ≤ 100000) (hc : n ≤ c) (hc2 : c ≤ 100000) (hb : Bytes w g o l) :
    Calls Tryz.prog 70 #[.slice (some ⟨g, o, none⟩) n c] w fun e w' => e = .returned (.string ⟨(strip l).toArray⟩) ∧ w = w' := by
  have HL := Lib.hid hl; clear hl
  have HB := Lib.hid hb; clear hb
  go_enter Tryz.func70, Tryz.ntmps70
  go_wp2
  go_loop [3] (fun v => ∃ k : Nat, k ≤ n ∧ v = .int .i64 k ∧ strip (l.drop k) = strip l) (fun v => n - (intOf v).toNat)
  case atStart => exact ⟨0, by omega, rfl, rfl⟩
  case round =>
    obtain ⟨k, hk, rfl, hs⟩ := hrel
    have HS := Lib.hid hs; clear hs
    by_cases hlt : k < n
    · have hkl : k < l.length := by rw [HL.out]; exact hlt
      obtain ⟨b, hb0⟩ : ∃ b, l[k]? = some b := ⟨_, List.getElem?_eq_getElem hkl⟩
      have hcell : w.cell? ⟨g, o + k, none⟩ = some (.int .u8 (b.toNat : Int)) := by
        have := HB.out k hkl
        rw [this, hb0]; rfl
      have HB0 := Lib.hid hb0; clear hb0
      by_cases hz : b = 0
      · have hzz := head_zero hz
        have HZ := Lib.hid hz; clear hz
        have R : strip (l.drop (k + 1)) = strip l := by rw [← HS.out]; exact (strip_drop_zero (by rw [HB0.out, HZ.out])).symm
        have HR := Lib.hid R; clear R
        go_wp2
        go_round
        case rel => exact ⟨k + 1, by omega, by go_num, HR.out⟩
        case measure => simp [intOf]; omega
      · have hzz := head_not_zero hz
        have R : strip (l.drop k) = l.drop k := strip_drop_stop HB0.out hz
        have hcv := run_bytes_string (HB.out.drop k) (c - k) (n - k) (by rw [List.length_drop, HL.out])
        rw [← R, HS.out] at hcv
        have hck : ¬ (c = k) := by omega
        clear R hz
        go_wp2
        go_ret
        exact ⟨rfl, rfl⟩
    · obtain rfl : k = n := by omega
      have hst : strip l = [] := strip_full HL.out HS.out
      by_cases hck : c = k
      · subst hck
        have hcv := run_bytes_string (Bytes.nil w g o) 0 0 rfl
        rw [← hst] at hcv
        clear hst
        go_wp2
        go_ret
        exact ⟨rfl, rfl⟩
      · have hcv := run_bytes_string (Bytes.nil w g (o + k)) (c - k) 0 rfl
        rw [← hst] at hcv
        clear hst
        go_wp2
        go_ret
        exact ⟨rfl, rfl⟩

theorem sg_lt {a b : Nat} (h : a < b) : sgn a b = -1 := by unfold sgn; rw [if_pos h]
theorem sg_gt {a b : Nat} (h : b < a) : sgn a b = 1 := by unfold sgn; rw [if_neg (by omega), if_pos h]
theorem sg_eq (a : Nat) : sgn a a = 0 := by unfold sgn; rw [if_neg (by omega), if_neg (by omega)]
theorem run_make_8 (w : World) : (Instr.makeSlice 83 (.int .i64 8) (.int .i64 8)).run Tryz.prog w = .ok (.slice (some ⟨w.heap.size, 0, none⟩) 8 8) (w.alloc (.cells (madeCells #[.int .u8 0] 8) 5)) := run_make_bytes 8 (by omega) w
theorem dig_cast2 (n k : Nat) : ((n / 256 ^ k : Nat) : Int) % 256 = (dig n k : Nat) := by unfold dig; rfl

set_option maxHeartbeats 400000 in
theorem rof_any (n : Nat) (w : World) (hn : n < 18446744073709551616) :
    Calls Tryz.prog 66 #[.int .u64 n] w fun e w' => e = .returned (.string (E n)) ∧ Below w.heap.size w w' := by
  have hmk := run_make_8
  go_enter Tryz.func66, Tryz.ntmps66
  go_wp2
  go_loopw [0, 4] (fun m v wr => ∃ k : Nat, k ≤ 8 ∧ v = .int .i64 (7 - (k : Int)) ∧ m = .int .u64 (n / 256 ^ k : Nat) ∧ wr.rowIs w.heap.size 5 8 (fun j => .int .u8 (partB n 8 k j : Nat)) ∧ Below w.heap.size w wr) (fun _ v _ => (intOf v + 1).toNat)
  case atStart => exact ⟨0, by omega, rfl, by rw [Nat.pow_zero, Nat.div_one], part_zero w n 8 _, (Below.refl _ _).alloc (Nat.le_refl _) _⟩
  case round =>
    obtain ⟨k, hk, rfl, rfl, hrow, hbel⟩ := hrel
    have hml : n / 256 ^ k < 18446744073709551616 := Nat.lt_of_le_of_lt (Nat.div_le_self _ _) hn
    have hnx : n / 256 ^ k / 256 = n / 256 ^ (k + 1) := by rw [Nat.div_div_eq_div_mul, Nat.pow_succ]
    have hdc := dig_cast2 n k
    obtain ⟨m, hm⟩ : ∃ m, m = n / 256 ^ k := ⟨_, rfl⟩
    rw [← hm] at hml hnx hdc ⊢
    have HNX := Lib.hid hnx; clear hnx hm
    have HDC := Lib.hid hdc; clear hdc
    by_cases hlt : k < 8
    · obtain ⟨j, hj⟩ : ∃ j, 7 - k = j := ⟨_, rfl⟩
      have hji : 7 - (k : Int) = (j : Int) := by omega
      have hst := fun {v : Int} => part_step (w := wr) (g := w.heap.size) (t := 5) (n := n) (len := 8) (k := k) (v := v)
      have hcell := hrow.cell (i := j) (by omega)
      have hfr := hrow.frozen j
      have hj7 : j ≤ 7 := by omega
      rw [hji]
      have HR := Lib.hid hrow; clear hrow hst
      have HJ := Lib.hid hj; clear hj hji
      go_wp2
      go_roundw
      case rel =>
        have e := part_step (v := (m : Int) % 256) HR.out hlt HDC.out
        rw [show 8 - 1 - k = j by have := HJ.out; omega] at e
        exact ⟨k + 1, by omega, int_eq (by have := HJ.out; omega), int_eq (by rw [← HNX.out]; simp), e, hbel.setCell (Nat.le_refl _) _⟩
      case measure => simp [intOf]
    · obtain rfl : k = 8 := by omega
      have hb := part_done hrow
      have hE : (⟨(strip (beN 8 n)).toArray⟩ : ByteArray) = E n := E_beN (by omega)
      have HB := Lib.hid hb; clear hb
      have HE := Lib.hid hE; clear hE
      go_wp2_with fail
      refine (rtrim_any w.heap.size 0 8 8 (beN 8 n) _ (beN_length _ _) (by omega) (by omega) (by omega) HB.out).mono ?_
      rintro e w' ⟨rfl, rfl⟩
      rw [HE.out]
      go_wp2
      go_ret
      exact ⟨rfl, hbel⟩

set_option maxHeartbeats 400000 in
theorem rsmall_no (s : ByteArray) (w : World) (h : ¬ SmallC s) :
    Calls Tryz.prog 101 #[.string s] w fun e w' => e = .returned (.tuple #[.int .u64 0, .bool false]) ∧ w = w' := by
  by_cases hc : Can s
  · have h8 : (8 : Int) < (s.size : Int) := by have : ¬ s.size ≤ 8 := fun q => h ⟨hc, q⟩
                                               omega
    have hsz := hc.1
    have HC := Lib.hid hc; clear hc h
    go_enter Tryz.func101, Tryz.ntmps101
    go_wp2_with (go_at_call 38; refine (rvalid_yes s _ HC.out).mono ?_; rintro e w' ⟨rfl, rfl⟩)
    go_ret2
    exact ⟨rfl, rfl⟩
  · have HC := Lib.hid hc; clear hc h
    go_enter Tryz.func101, Tryz.ntmps101
    go_wp2_with (go_at_call 38; refine (rvalid_no s _ HC.out).mono ?_; rintro e w' ⟨rfl, rfl⟩)
    go_ret2
    exact ⟨rfl, rfl⟩
set_option maxHeartbeats 400000 in
theorem rsmall_yes (s : ByteArray) (w : World) (h : SmallC s) :
    Calls Tryz.prog 101 #[.string s] w fun e w' => e = .returned (.tuple #[.int .u64 (V s), .bool true]) ∧ w = w' := by
  obtain ⟨hc, h8⟩ := h
  have h8' : (s.size : Int) ≤ 8 := by omega
  have HC := Lib.hid hc; clear hc
  go_enter Tryz.func101, Tryz.ntmps101
  go_wp2_with fail
  refine (rvalid_yes s _ HC.out).mono ?_; rintro e w' ⟨rfl, rfl⟩
  go_wp2_with fail
  refine (u64_any s _ h8).mono ?_; rintro e w' ⟨rfl, rfl⟩
  go_wp2
  go_ret2
  exact ⟨rfl, rfl⟩

/-! ### Order, Cmp -/
/-- What the loop of Order knows: the first k bytes are the same. -/
def OrderR (s t : ByteArray) (w : World) (v : Value) (wr : World) : Prop :=
  ∃ k : Nat, k ≤ s.size ∧ v = .int .i64 k ∧ s.data.toList.take k = t.data.toList.take k ∧ ∃ q, wr = w.drewN q
theorem order_first {l m : List UInt8} {k : Nat} (hl : l.length = m.length) (hk : k < l.length) (hp : l.take k = m.take k) (h : (l[k]'hk) < (m[k]'(hl ▸ hk))) : bval l < bval m := by
  have e1 : l = l.take k ++ (l[k]'hk) :: l.drop (k + 1) := by rw [List.getElem_cons_drop, List.take_append_drop]
  have e2 : m = m.take k ++ (m[k]'(hl ▸ hk)) :: m.drop (k + 1) := by rw [List.getElem_cons_drop, List.take_append_drop]
  have hd : (l.drop (k + 1)).length = (m.drop (k + 1)).length := by simp [hl]
  rw [e1, e2, bval_append, bval_append, hp, List.length_cons, List.length_cons, hd, bval_cons, bval_cons, hd]
  have h1 := bval_lt (l.drop (k + 1))
  rw [hd] at h1
  have hh := UInt8.lt_iff_toNat_lt.1 h
  have := Nat.mul_le_mul_right (256 ^ (m.drop (k + 1)).length) (show (l[k]'hk).toNat + 1 ≤ (m[k]'(hl ▸ hk)).toNat from hh)
  rw [Nat.add_mul] at this
  omega
theorem take_step {l m : List UInt8} {k : Nat} (hl : l.length = m.length) (hk : k < l.length) (hp : l.take k = m.take k) (h : (l[k]'hk) = (m[k]'(hl ▸ hk))) : l.take (k + 1) = m.take (k + 1) := by
  rw [List.take_succ_eq_append_getElem hk, List.take_succ_eq_append_getElem (hl ▸ hk), hp, h]

set_option maxHeartbeats 800000 in
set_option maxRecDepth 20000 in
theorem order_any (s t : ByteArray) (w : World) (hs : can s.data.toList) (ht : can t.data.toList) (h1 : s.size ≤ 100000) (h2 : t.size ≤ 100000) :
    Calls Tryz.prog 39 #[.string s, .string t] w fun e w' => e = .returned (.int .i64 (sgn (V s) (V t))) ∧ ∃ q, w.drewN q = w' := by
  rcases Nat.lt_trichotomy s.size t.size with h | h | h
  · have hlt : V s < V t := can_lt_of_len ht (by rw [← size_eq, ← size_eq]; exact h)
    have R := Lib.hid (sg_lt hlt)
    have e1 : ((s.size : Int) != (t.size : Int)) = true := by rw [bne_iff_ne]; omega
    clear hlt
    go_enter Tryz.func39, Tryz.ntmps39
    go_wp2
    go_ret
    exact ⟨ret_int (by rw [R.out]), 0, rfl⟩
  · have e1 : ((s.size : Int) != (t.size : Int)) = false := by rw [bne_eq_false_iff_eq]; omega
    have hl : s.data.toList.length = t.data.toList.length := by rw [← size_eq, ← size_eq]; exact h
    have HL := Lib.hid hl
    have h3 : s.size ≤ t.size := by omega
    have h4 : t.size ≤ s.size := by omega
    have H := Lib.hid h; clear h hl
    go_enter Tryz.func39, Tryz.ntmps39
    go_wp2
    go_loopw [5] (fun v wr => OrderR s t w v wr) (fun v _ => s.size - (intOf v).toNat)
    case atStart => exact ⟨0, by omega, rfl, rfl, 0, rfl⟩
    case round =>
      obtain ⟨k, hk, rfl, hp, q, rfl⟩ := hrel
      have HP := Lib.hid hp; clear hp
      by_cases hlt : k < s.size
      · have hlt2 : k < t.size := by omega
        have hkl : k < s.data.toList.length := by rw [← size_eq]; exact hlt
        have ga := get_eq s k hlt
        have gb := get_eq t k hlt2
        have i1 : (k : Int) < (s.size : Int) := by omega
        have i2 : (k : Int) < (t.size : Int) := by omega
        rcases Nat.lt_trichotomy (s[k]'hlt).toNat (t[k]'hlt2).toNat with hc | hc | hc
        · have hv : V s < V t := order_first HL.out hkl HP.out (by rw [← ga, ← gb]; exact UInt8.lt_iff_toNat_lt.2 hc)
          have R := Lib.hid (sg_lt hv)
          have e2 : (((s[k]'hlt).toNat : Int) != ((t[k]'hlt2).toNat : Int)) = true := by rw [bne_iff_ne]; omega
          clear ga gb hv
          go_wp2
          go_quiet (fail)
          go_wp2
          go_quiet (fail)
          go_wp2
          go_ret
          exact ⟨ret_int (by rw [R.out]), q + _ + _, by simp [World.drewN_drewN, Nat.add_assoc]; rfl⟩
        · have hg : (s[k]'hlt) = (t[k]'hlt2) := UInt8.toNat_inj.1 hc
          have hp2 := take_step HL.out hkl HP.out (by rw [← ga, ← gb]; exact hg)
          have e2 : (((s[k]'hlt).toNat : Int) != ((t[k]'hlt2).toNat : Int)) = false := by rw [bne_eq_false_iff_eq]; omega
          have HP2 := Lib.hid hp2; clear hp2 ga gb hg hc
          go_wp2
          go_quiet (fail)
          go_wp2
          go_roundw
          case rel => exact ⟨k + 1, by omega, by go_num, HP2.out, q + _, rfl⟩
          case measure => simp [intOf]; omega
        · have hv : V t < V s := order_first HL.out.symm (by rw [← HL.out]; exact hkl) HP.out.symm (by rw [← ga, ← gb]; exact UInt8.lt_iff_toNat_lt.2 hc)
          have R := Lib.hid (sg_gt hv)
          have e2 : (((s[k]'hlt).toNat : Int) != ((t[k]'hlt2).toNat : Int)) = true := by rw [bne_iff_ne]; omega
          have e3 : ¬ ((s[k]'hlt).toNat < (t[k]'hlt2).toNat) := by omega
          clear ga gb hv hc
          go_wp2
          go_quiet (fail)
          go_wp2
          go_quiet (fail)
          go_wp2
          go_ret
          exact ⟨ret_int (by rw [R.out]), q + _ + _, by simp [World.drewN_drewN, Nat.add_assoc]; rfl⟩
      · obtain rfl : k = s.size := by omega
        have heq : V s = V t := by
          have := HP.out
          have e1 : s.data.toList.take s.size = s.data.toList := by rw [size_eq, List.take_length]
          have e2 : t.data.toList.take s.size = t.data.toList := by rw [H.out, size_eq, List.take_length]
          rw [e1, e2] at this
          unfold V; rw [this]
        have R := Lib.hid (sg_eq (V t))
        have HE := Lib.hid heq; clear heq
        go_wp2
        go_ret
        exact ⟨ret_int (by rw [HE.out, R.out]), _, rfl⟩
  · have hlt : V t < V s := can_lt_of_len hs (by rw [← size_eq, ← size_eq]; exact h)
    have R := Lib.hid (sg_gt hlt)
    have e1 : ((s.size : Int) != (t.size : Int)) = true := by rw [bne_iff_ne]; omega
    clear hlt
    go_enter Tryz.func39, Tryz.ntmps39
    go_wp2
    go_ret
    exact ⟨ret_int (by rw [R.out]), 0, rfl⟩
end Go.Proofs.YtogmgfdihmacpaaGreatDoor
