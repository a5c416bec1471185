/-
  Several parts in one text (NA).
-/
import Derived.Test.YtogmgfdihmacpaaGreatDoorNat1
import Derived.Test.YtogmgfdihmacpaaGreatDoorShelf
import Derived.Deep.OwnRows
/-
  Contracts of package natural, the second part: Of, Small, Cmp, Bits, Bit.
-/
namespace Go.Proofs.YtogmgfdihmacpaaGreatDoor
open Go.RowKit
set_option linter.unusedVariables false

/-- Byte j of a buffer of len bytes, of which the k with the least weights are written. -/
def partB (n len k j : Nat) : Nat := if len - 1 - j < k then dig n (len - 1 - j) else 0
theorem partB_lt (n len k j : Nat) : partB n len k j < 256 := by unfold partB dig; split <;> omega
theorem partB_zero (n len j : Nat) : partB n len 0 j = 0 := by unfold partB; rw [if_neg (by omega)]
theorem part_step {w : World} {g t n len k : Nat} {v : Int} (h : w.rowIs g t len (fun j => .int .u8 (partB n len k j))) (hk : k < len) (hv : v = (dig n k : Nat)) :
    (w.setCell ⟨g, len - 1 - k, none⟩ (.int .u8 v)).rowIs g t len (fun j => .int .u8 (partB n len (k + 1) j)) := by
  refine (h.set (len - 1 - k) (.int .u8 v)).congr fun j _ => ?_
  show (if j = len - 1 - k then _ else _) = _
  split
  · rename_i e
    subst e
    have e2 : len - 1 - (len - 1 - k) = k := by omega
    rw [hv]; unfold partB; rw [e2, if_pos (by omega)]
  · rename_i e
    have e2 : len - 1 - j < k ↔ len - 1 - j < k + 1 := by omega
    unfold partB
    by_cases hq : len - 1 - j < k
    · rw [if_pos hq, if_pos (e2.1 hq)]
    · rw [if_neg hq, if_neg (fun q => hq (e2.2 q))]
theorem part_done {w : World} {g t n len : Nat} (h : w.rowIs g t len (fun j => .int .u8 (partB n len len j))) : Bytes w g 0 (beN len n) := by
  intro j hj
  rw [beN_length] at hj
  rw [beN_get len n j hj, Nat.zero_add, h.cell hj]
  unfold partB
  rw [if_pos (by omega), Option.getD_some, ofNat_mod_toNat]
  rfl
theorem pow256 (k : Nat) : (2 : Nat) ^ (8 * k) = 256 ^ k := by rw [Nat.pow_mul]
theorem pow256i (k : Nat) : (2 : Int) ^ (8 * k) = ((256 ^ k : Nat) : Int) := by rw [Int.pow_mul]; rfl
theorem dig_cast (n k : Nat) : (n : Int) / 2 ^ (8 * k) % 256 = (dig n k : Nat) := by rw [pow256i]; unfold dig; rfl
theorem E_data (n : Nat) : (E n).data.toList = enc n := rfl
theorem V_E (n : Nat) : V (E n) = n := bval_enc n
theorem can_E {n : Nat} (h : n < 256 ^ 128) : Can (E n) := ⟨by rw [size_eq, E_data]; exact enc_length_le.2 h, can_enc n⟩
theorem E_V {s : ByteArray} (h : Can s) : E (V s) = s := by
  unfold E V; rw [enc_bval h.2]
theorem E_strip {l : List UInt8} {n : Nat} (h : bval l = n) : (⟨(strip l).toArray⟩ : ByteArray) = E n := by rw [strip_eq_enc, h]; rfl
theorem E_beN {k n : Nat} (h : n < 256 ^ k) : (⟨(strip (beN k n)).toArray⟩ : ByteArray) = E n := by rw [strip_beN h]; rfl
theorem V_inj {s t : ByteArray} (hs : Can s) (ht : Can t) : V s = V t ↔ s = t := ⟨fun h => by rw [← E_V hs, h, E_V ht], fun h => by rw [h]⟩
theorem E_inj {n m : Nat} (h : E n = E m) : n = m := by rw [← V_E n, h, V_E]
theorem V_lt128 {s : ByteArray} (h : Can s) : V s < 256 ^ 128 := Nat.lt_of_lt_of_le (V_lt s) (Nat.pow_le_pow_right (by omega) h.1)
theorem E_size_le {n k : Nat} : (E n).size ≤ k ↔ n < 256 ^ k := by rw [size_eq, E_data]; exact enc_length_le

theorem eight (i : Nat) (h : i < (#[.int .u8 0, .int .u8 0, .int .u8 0, .int .u8 0, .int .u8 0, .int .u8 0, .int .u8 0, .int .u8 0] : Array Value).size) :
    (#[.int .u8 0, .int .u8 0, .int .u8 0, .int .u8 0, .int .u8 0, .int .u8 0, .int .u8 0, .int .u8 0] : Array Value)[i]? = some (.int .u8 0) := by
  match i, h with
  | 0, _ | 1, _ | 2, _ | 3, _ | 4, _ | 5, _ | 6, _ | 7, _ => rfl
theorem ret_two {a b c d : Value} (h1 : a = c) (h2 : b = d) : Ending.returned (.tuple #[a, b]) = .returned (.tuple #[c, d]) := by rw [h1, h2]
theorem int_eq {k : IntKind} {a b : Int} (h : a = b) : Value.int k a = .int k b := by rw [h]
set_option maxHeartbeats 400000 in
theorem of_any (n : Nat) (w : World) (hn : n < 18446744073709551616) :
    Calls Tryz.prog 28 #[.int .u64 n] w fun e w' => e = .returned (.string (E n)) ∧ Below w.heap.size w w' := by
  go_enter Tryz.func28, Tryz.ntmps28
  go_wp2
  go_loopw [4, 5] (fun _ v wr => ∃ k : Nat, k ≤ 8 ∧ v = .int .i64 k ∧ wr.rowIs w.heap.size 81 8 (fun j => .int .u8 (partB n 8 k j : Nat)) ∧ Below w.heap.size w wr) (fun _ v _ => 8 - (intOf v).toNat)
  case atStart => exact ⟨0, by omega, rfl, (World.rowIs_alloc w _ _ (fun _ => .int .u8 0) eight).congr (fun j _ => by rw [partB_zero]; rfl), (Below.refl _ _).alloc (Nat.le_refl _) _⟩
  case round =>
    obtain ⟨k, hk, rfl, hrow, hbel⟩ := hrel
    by_cases hlt : k < 8
    · have hcell := hrow.cell (i := 7 - k) (by omega)
      have hfr := hrow.frozen (7 - k)
      go_wp2
      go_roundw
      case rel => exact ⟨k + 1, by omega, by go_num, part_step hrow hlt (dig_cast n k), hbel.setCell (Nat.le_refl _) _⟩
      case measure => simp [intOf]; omega
    · obtain rfl : k = 8 := by omega
      have hb := part_done hrow
      have hE : (⟨(strip (beN 8 n)).toArray⟩ : ByteArray) = E n := E_beN (by omega)
      have HB := Lib.hid hb; clear hb
      have HE := Lib.hid hE; clear hE
      go_wp2_with fail
      refine (strip_any w.heap.size 0 8 8 (beN 8 n) _ (beN_length _ _) (by omega) (by omega) (by omega) HB.out).mono ?_
      rintro e w' ⟨rfl, rfl⟩
      rw [HE.out]
      go_wp2
      go_ret
      exact ⟨rfl, hbel⟩

theorem or_add (i a b : Nat) (h : b < 2 ^ i) : a * 2 ^ i ||| b = a * 2 ^ i + b := by
  rw [← Nat.shiftLeft_eq]; exact (Nat.shiftLeft_add_eq_or_of_lt h a).symm
/-- Small: the number, if the string is canonical and has at most 8 bytes. -/
def SmallC (s : ByteArray) : Prop := Can s ∧ s.size ≤ 8
/-- The number of the first k bytes. -/
def pre (s : ByteArray) (k : Nat) : Nat := bval (s.data.toList.take k)
theorem pre_zero (s : ByteArray) : pre s 0 = 0 := rfl
theorem pre_all (s : ByteArray) : pre s s.size = V s := by unfold pre V; rw [size_eq, List.take_length]
theorem pre_succ (s : ByteArray) (k : Nat) (h : k < s.size) : pre s (k + 1) = pre s k * 256 + (s[k]'h).toNat := by
  unfold pre
  have h' : k < s.data.toList.length := by rw [← size_eq]; exact h
  rw [List.take_succ_eq_append_getElem h', bval_snoc, get_eq]
theorem pre_lt (s : ByteArray) (k : Nat) : pre s k < 256 ^ k := by
  have := bval_lt (s.data.toList.take k)
  exact Nat.lt_of_lt_of_le this (Nat.pow_le_pow_right (by omega) (List.length_take_le _ _))

/-- The order of numbers. -/
def sgn (a b : Nat) : Int := if a < b then -1 else if b < a then 1 else 0
theorem sgn_compare : ∀ (l m : List UInt8), l.length = m.length → Lib.compareBytes l m = sgn (bval l) (bval m) := by
  intro l
  induction l with
  | nil => intro m h; cases m with | nil => rfl | cons => simp at h
  | cons c l ih =>
    intro m h
    cases m with
    | nil => simp at h
    | cons d m =>
      have hl : l.length = m.length := by simpa using h
      have h1 := bval_lt l; have h2 := bval_lt m
      rw [← hl] at h2
      unfold Lib.compareBytes
      by_cases hcd : c < d
      · rw [if_pos hcd]
        have hh : c.toNat < d.toNat := UInt8.lt_iff_toNat_lt.1 hcd
        have : bval (c :: l) < bval (d :: m) := by
          rw [bval_cons, bval_cons, ← hl]
          have := Nat.mul_le_mul_right (256 ^ l.length) (show c.toNat + 1 ≤ d.toNat from hh)
          rw [Nat.add_mul] at this; omega
        unfold sgn; rw [if_pos this]
      · rw [if_neg hcd]
        by_cases hdc : d < c
        · rw [if_pos hdc]
          have hh : d.toNat < c.toNat := UInt8.lt_iff_toNat_lt.1 hdc
          have : bval (d :: m) < bval (c :: l) := by
            rw [bval_cons, bval_cons, ← hl]
            have := Nat.mul_le_mul_right (256 ^ l.length) (show d.toNat + 1 ≤ c.toNat from hh)
            rw [Nat.add_mul] at this; omega
          unfold sgn; rw [if_neg (by omega), if_pos this]
        · rw [if_neg hdc]
          have hh : c.toNat = d.toNat := by
            have a1 : ¬ c.toNat < d.toNat := fun q => hcd (UInt8.lt_iff_toNat_lt.2 q)
            have a2 : ¬ d.toNat < c.toNat := fun q => hdc (UInt8.lt_iff_toNat_lt.2 q)
            omega
          rw [ih m hl]
          unfold sgn
          rw [bval_cons, bval_cons, ← hl, hh]
          have a1 : bval l < bval m ↔ d.toNat * 256 ^ l.length + bval l < d.toNat * 256 ^ l.length + bval m := by omega
          have a2 : bval m < bval l ↔ d.toNat * 256 ^ l.length + bval m < d.toNat * 256 ^ l.length + bval l := by omega
          simp only [← a1, ← a2]
theorem sgn_short {s t : ByteArray} (ht : Can t) (h : s.size < t.size) : sgn (V s) (V t) = -1 := by
  unfold sgn; rw [if_pos]; exact can_lt_of_len ht.2 (by rw [← size_eq, ← size_eq]; exact h)
theorem sgn_long {s t : ByteArray} (hs : Can s) (h : t.size < s.size) : sgn (V s) (V t) = 1 := by
  have : V t < V s := can_lt_of_len hs.2 (by rw [← size_eq, ← size_eq]; exact h)
  unfold sgn; rw [if_neg (by omega), if_pos this]

set_option maxHeartbeats 400000 in
theorem cmp_no (s t : ByteArray) (w : World) (h : ¬ (Can s ∧ Can t)) :
    Calls Tryz.prog 61 #[.string s, .string t] w fun e w' => e = .returned (.int .i64 0) ∧ w = w' := by
  by_cases hc : Can s
  · have hd : ¬ Can t := fun q => h ⟨hc, q⟩
    have HC := Lib.hid hc; clear hc h
    have HD := Lib.hid hd; clear hd
    go_enter Tryz.func61, Tryz.ntmps61
    go_wp2_with fail
    refine (valid_yes s _ HC.out).mono ?_; rintro e w' ⟨rfl, rfl⟩
    go_wp2_with fail
    refine (valid_no t _ HD.out).mono ?_; rintro e w' ⟨rfl, rfl⟩
    go_wp2
    go_ret
    exact ⟨rfl, rfl⟩
  · have HC := Lib.hid hc; clear hc h
    go_enter Tryz.func61, Tryz.ntmps61
    go_wp2_with fail
    refine (valid_no s _ HC.out).mono ?_; rintro e w' ⟨rfl, rfl⟩
    go_wp2
    go_ret
    exact ⟨rfl, rfl⟩

set_option maxHeartbeats 400000 in
theorem cmp_yes (s t : ByteArray) (w : World) (hs : Can s) (ht : Can t) :
    Calls Tryz.prog 61 #[.string s, .string t] w fun e w' => e = .returned (.int .i64 (sgn (V s) (V t))) ∧ w = w' := by
  have h1 := hs.1
  have h2 := ht.1
  have HS := Lib.hid hs; clear hs
  have HT := Lib.hid ht; clear ht
  rcases Nat.lt_trichotomy s.size t.size with h | h | h
  · have R := Lib.hid (sgn_short HT.out h)
    go_enter Tryz.func61, Tryz.ntmps61
    go_wp2_with fail
    refine (valid_yes s _ HS.out).mono ?_; rintro e w' ⟨rfl, rfl⟩
    go_wp2_with fail
    refine (valid_yes t _ HT.out).mono ?_; rintro e w' ⟨rfl, rfl⟩
    go_wp2
    go_ret
    exact ⟨ret_int (by rw [R.out]), rfl⟩
  · have R : Lib.compareBytes s.data.toList t.data.toList = sgn (V s) (V t) := sgn_compare _ _ (by rw [← size_eq, ← size_eq]; exact h)
    have R := Lib.hid R
    have H := Lib.hid h
    have h3 : s.size ≤ t.size := by omega
    have h4 : t.size ≤ s.size := by omega
    clear h
    go_enter Tryz.func61, Tryz.ntmps61
    go_wp2_with fail
    refine (valid_yes s _ HS.out).mono ?_; rintro e w' ⟨rfl, rfl⟩
    go_wp2_with fail
    refine (valid_yes t _ HT.out).mono ?_; rintro e w' ⟨rfl, rfl⟩
    go_wp2_with fail
    refine (Tryz.strings_Compare s t _).mono ?_
    rintro e w' ⟨rfl, rfl⟩
    rw [R.out]
    go_wp2
    go_ret
    exact ⟨rfl, rfl⟩
  · have R := Lib.hid (sgn_long HS.out h)
    go_enter Tryz.func61, Tryz.ntmps61
    go_wp2_with fail
    refine (valid_yes s _ HS.out).mono ?_; rintro e w' ⟨rfl, rfl⟩
    go_wp2_with fail
    refine (valid_yes t _ HT.out).mono ?_; rintro e w' ⟨rfl, rfl⟩
    go_wp2
    go_ret
    exact ⟨ret_int (by rw [R.out]), rfl⟩

/-- The number of binary digits. -/
def nbits (n : Nat) : Nat := if n = 0 then 0 else Nat.log2 n + 1
theorem nbits_of {n k : Nat} (h1 : 2 ^ k ≤ n) (h2 : n < 2 ^ (k + 1)) : nbits n = k + 1 := by
  have : n ≠ 0 := by have := Nat.pow_pos (n := k) (show 0 < 2 by omega); omega
  unfold nbits; rw [if_neg this, (Nat.log2_eq_iff this).2 ⟨h1, h2⟩]
theorem nbits_half (x : Nat) (h : x ≠ 0) : nbits x = 1 + nbits (x / 2) := by
  unfold nbits
  rw [if_neg h, Nat.log2_def]
  split
  · rw [if_neg (by omega)]; omega
  · rw [if_pos (by omega)]
theorem bitLenAux_nbits : ∀ f x, x < 2 ^ f → Lib.bitLenAux f x = nbits x := by
  intro f
  induction f with
  | zero => intro x h; have : x = 0 := by simpa using h
            subst this; rfl
  | succ f ih =>
    intro x h
    unfold Lib.bitLenAux
    split
    · rename_i e; subst e; rfl
    · rename_i e; rw [nbits_half x e, ih _ (by rw [Nat.pow_succ] at h; omega)]
theorem bitLen_nbits (x : Nat) (h : x < 2 ^ 64) : Lib.bitLen x = nbits x := bitLenAux_nbits 64 x h
theorem sub_one_size (s : ByteArray) : s.data.toList.length - 1 = s.size - 1 := by rw [size_eq]
theorem nbits_head (s : ByteArray) (h0 : 0 < s.size) (hz : (s[0]'h0).toNat ≠ 0) : nbits (V s) = 8 * (s.size - 1) + nbits (s[0]'h0).toNat := by
  have e : V s = (s[0]'h0).toNat * 256 ^ (s.size - 1) + bval (s.data.toList.drop 1) := by
    unfold V
    have h0' : 0 < s.data.toList.length := by rw [← size_eq]; exact h0
    have : s.data.toList = s.data.toList[0] :: s.data.toList.drop 1 := by rw [List.getElem_cons_drop, List.drop_zero]
    conv => lhs; rw [this]
    rw [bval_cons, get_eq, List.length_drop, sub_one_size s]
  have hl := bval_lt (s.data.toList.drop 1)
  rw [List.length_drop, ← size_eq] at hl
  generalize (s[0]'h0).toNat = c at *
  generalize bval (s.data.toList.drop 1) = r at *
  generalize hm : s.size - 1 = m at *
  have hc : nbits c = Nat.log2 c + 1 := by unfold nbits; rw [if_neg hz]
  have b1 : 2 ^ Nat.log2 c ≤ c := (Nat.le_log2 hz).1 (Nat.le_refl _)
  have b2 : c < 2 ^ (Nat.log2 c + 1) := (Nat.log2_lt hz).1 (by omega)
  rw [hc, ← Nat.add_assoc]
  apply nbits_of
  · rw [e, Nat.pow_add, pow256, Nat.mul_comm]
    have := Nat.mul_le_mul_right (256 ^ m) b1
    omega
  · rw [e, Nat.add_assoc, Nat.pow_add, pow256, Nat.mul_comm (256 ^ m)]
    have := Nat.mul_le_mul_right (256 ^ m) (show c + 1 ≤ 2 ^ (Nat.log2 c + 1) from b2)
    rw [Nat.add_mul] at this
    omega

set_option maxHeartbeats 400000 in
theorem bits_no (s : ByteArray) (w : World) (h : ¬ Can s) :
    Calls Tryz.prog 52 #[.string s] w fun e w' => e = .returned (.int .i64 0) ∧ w = w' := by
  have hne : s.size ≠ 0 := fun q => h ⟨by omega, by rw [size_eq] at q; rw [List.eq_nil_of_length_eq_zero q]; exact can_nil⟩
  have hE := not_empty_of hne
  have H := Lib.hid h; clear h hne
  go_enter Tryz.func52, Tryz.ntmps52
  go_wp2_with (go_at_call 34; refine (valid_no s _ H.out).mono ?_; rintro e w' ⟨rfl, rfl⟩)
  go_ret
  exact ⟨rfl, rfl⟩

set_option maxHeartbeats 400000 in
theorem bits_yes (s : ByteArray) (w : World) (h : Can s) :
    Calls Tryz.prog 52 #[.string s] w fun e w' => e = .returned (.int .i64 (nbits (V s))) ∧ w = w' := by
  by_cases h0 : s.size = 0
  · have hE := empty_of h0
    have hv : nbits (V s) = 0 := by
      have : s.data.toList = [] := by rw [size_eq] at h0; exact List.eq_nil_of_length_eq_zero h0
      unfold V; rw [this]; rfl
    have HV := Lib.hid hv; clear hv h0 h
    go_enter Tryz.func52, Tryz.ntmps52
    go_wp2
    go_ret
    exact ⟨ret_int (by rw [HV.out]; rfl), rfl⟩
  · have hE := not_empty_of h0
    have h1 : 0 < s.size := by omega
    have h128 := h.1
    have hb := (s[0]'h1).toNat_lt
    have hz : (s[0]'h1).toNat ≠ 0 := by
      have := can_head h.2 h1
      rw [bne_iff_ne] at this
      omega
    have hv := nbits_head s h1 hz
    have hl := Lib.bitLen_le8' ((s[0]'h1).toNat : Int) (by omega) (by omega)
    have hbl : Lib.bitLen (s[0]'h1).toNat = nbits (s[0]'h1).toNat := bitLen_nbits _ (Nat.lt_trans hb (by decide))
    rw [← hbl] at hv
    have HV := Lib.hid hv; clear hv hz hbl
    have H := Lib.hid h; clear h h0
    have hl : Lib.bitLen (s[0]'h1).toNat ≤ 8 := by simpa using hl
    go_enter Tryz.func52, Tryz.ntmps52
    go_wp2_with fail
    refine (valid_yes s _ H.out).mono ?_; rintro e w' ⟨rfl, rfl⟩
    go_wp2_with fail
    refine (Tryz.bits_Len8 _ _ (by omega) (by omega)).mono ?_
    rintro e w' ⟨rfl, rfl⟩
    rw [Int.toNat_natCast]
    go_wp2
    go_ret
    exact ⟨ret_int (by rw [HV.out]; omega), rfl⟩

set_option maxHeartbeats 400000 in
theorem bit_no (s : ByteArray) (i : Int) (w : World) (h : ¬ Can s ∨ i < 0) :
    Calls Tryz.prog 63 #[.string s, .int .i64 i] w fun e w' => e = .returned (.bool false) ∧ w = w' := by
  by_cases hi : i < 0
  · clear h
    go_enter Tryz.func63, Tryz.ntmps63
    go_wp2
    go_ret
    exact ⟨rfl, rfl⟩
  · have hc : ¬ Can s := by
      rcases h with h | h
      · exact h
      · exact absurd h hi
    have H := Lib.hid hc; clear hc h
    go_enter Tryz.func63, Tryz.ntmps63
    go_wp2_with (go_at_call 34; refine (valid_no s _ H.out).mono ?_; rintro e w' ⟨rfl, rfl⟩)
    go_ret
    exact ⟨rfl, rfl⟩

theorem bit_eq (n i : Nat) : (bits .and .u8 ((dig n (i / 8) : Nat) / 2 ^ (i % 8)) 1 == 1) = n.testBit i := by
  have hd : dig n (i / 8) / 2 ^ (i % 8) < 256 := Nat.lt_of_le_of_lt (Nat.div_le_self _ _) (by unfold dig; omega)
  have h := u8_and_nat (dig n (i / 8) / 2 ^ (i % 8)) 1 hd (by omega)
  have hc : ((dig n (i / 8) / 2 ^ (i % 8) : Nat) : Int) = ((dig n (i / 8) : Nat) : Int) / 2 ^ (i % 8) := by simp
  rw [hc] at h
  have h1 : bits .and .u8 ((dig n (i / 8) : Nat) / 2 ^ (i % 8)) 1 = ((dig n (i / 8) / 2 ^ (i % 8) % 2 : Nat) : Int) := by rw [← Nat.and_one_is_mod]; exact h
  rw [h1, Nat.testBit_eq_decide_div_mod_eq]
  have e : dig n (i / 8) / 2 ^ (i % 8) % 2 = n / 2 ^ i % 2 := by
    have hi : 2 ^ i = 256 ^ (i / 8) * 2 ^ (i % 8) := by rw [← pow256, ← Nat.pow_add]; congr 1; omega
    rw [hi, ← Nat.div_div_eq_div_mul]
    unfold dig
    generalize n / 256 ^ (i / 8) = q
    have hr : i % 8 < 8 := by omega
    generalize i % 8 = r at *
    have : r = 0 ∨ r = 1 ∨ r = 2 ∨ r = 3 ∨ r = 4 ∨ r = 5 ∨ r = 6 ∨ r = 7 := by omega
    rcases this with rfl | rfl | rfl | rfl | rfl | rfl | rfl | rfl <;> omega
  rw [e]
  rcases Nat.mod_two_eq_zero_or_one (n / 2 ^ i) with h | h <;> rw [h] <;> rfl
theorem ret_bool {a b : Bool} (h : a = b) : Ending.returned (.bool a) = .returned (.bool b) := by rw [h]
set_option maxHeartbeats 400000 in
theorem bit_yes (s : ByteArray) (i : Nat) (w : World) (h : Can s) (hi : i ≤ 9223372036854775807) :
    Calls Tryz.prog 63 #[.string s, .int .i64 i] w fun e w' => e = .returned (.bool ((V s).testBit i)) ∧ w = w' := by
  have h128 := h.1
  have H := Lib.hid h; clear h
  go_enter Tryz.func63, Tryz.ntmps63
  go_wp2_with fail
  refine (valid_yes s _ H.out).mono ?_; rintro e w' ⟨rfl, rfl⟩
  go_wp2_with fail
  refine (byteAt_any s _ _ (by omega) (by omega) (by omega)).mono ?_
  rintro e w' ⟨rfl, rfl⟩
  go_wp2
  go_ret
  exact ⟨ret_bool (bit_eq (V s) i), rfl⟩
end Go.Proofs.YtogmgfdihmacpaaGreatDoor


/-
  Contracts of package natural, the third part: Add, Sub.
-/
namespace Go.Proofs.YtogmgfdihmacpaaGreatDoor
open Go.RowKit
set_option linter.unusedVariables false

theorem Tryz.info5 : (Tryz.prog.info? 5).map (fun i => (i.zero, i.size, i.bytes)) = some (some (.int .u8 0), 1, 1) := by kernel_rfl
theorem Tryz.info86 : (Tryz.prog.info? 86).map (fun i => (i.zero, i.size, i.bytes)) = some (some (.int .u32 0), 1, 4) := by kernel_rfl

theorem run_make_bytes (n : Nat) (hn : n ≤ 1000000) (w : World) :
    (Instr.makeSlice 83 (.int .i64 (n : Int)) (.int .i64 (n : Int))).run Tryz.prog w = .ok (.slice (some ⟨w.heap.size, 0, none⟩) n n) (w.alloc (.cells (madeCells #[.int .u8 0] n) 5)) := by
  obtain ⟨i0, hi, hz0, hz1, hz2⟩ := info_parts Tryz.info5
  exact run_make_row 83 5 i0 _ Tryz.underlying83 hi hz0 hz1 rfl .i64 .i64 n (by rw [hz2]; omega) (by omega) w
theorem run_make_words (n : Nat) (hn : n ≤ 1000000) (w : World) :
    (Instr.makeSlice 84 (.int .i64 (n : Int)) (.int .i64 (n : Int))).run Tryz.prog w = .ok (.slice (some ⟨w.heap.size, 0, none⟩) n n) (w.alloc (.cells (madeCells #[.int .u32 0] n) 86)) := by
  obtain ⟨i0, hi, hz0, hz1, hz2⟩ := info_parts Tryz.info86
  exact run_make_row 84 86 i0 _ Tryz.underlying84 hi hz0 hz1 rfl .i64 .i64 n (by rw [hz2]; omega) (by omega) w

theorem run_make_bytes1 (n : Nat) (hn : n ≤ 999999) (w : World) :
    (Instr.makeSlice 83 (.int .i64 ((n : Int) + 1)) (.int .i64 ((n : Int) + 1))).run Tryz.prog w = .ok (.slice (some ⟨w.heap.size, 0, none⟩) (n + 1) (n + 1)) (w.alloc (.cells (madeCells #[.int .u8 0] (n + 1)) 5)) :=
  run_make_bytes (n + 1) (by omega) w
theorem run_make_words1 (n : Nat) (hn : n ≤ 999999) (w : World) :
    (Instr.makeSlice 84 (.int .i64 ((n : Int) + 1)) (.int .i64 ((n : Int) + 1))).run Tryz.prog w = .ok (.slice (some ⟨w.heap.size, 0, none⟩) (n + 1) (n + 1)) (w.alloc (.cells (madeCells #[.int .u32 0] (n + 1)) 86)) :=
  run_make_words (n + 1) (by omega) w

/-- The carry behind k digits of a sum. -/
def carryA (a b k : Nat) : Nat := (a % 256 ^ k + b % 256 ^ k) / 256 ^ k
theorem carryA_le (a b k : Nat) : carryA a b k ≤ 1 := by
  have h := Nat.pow_pos (n := k) (show 0 < 256 by omega)
  have h1 := Nat.mod_lt a h
  have h2 := Nat.mod_lt b h
  unfold carryA
  have : (a % 256 ^ k + b % 256 ^ k) / 256 ^ k < 2 := Nat.div_lt_of_lt_mul (by omega)
  omega
theorem carryA_zero (a b : Nat) : carryA a b 0 = 0 := by simp [carryA, Nat.mod_one]
theorem add_step (a b k : Nat) : (carryA a b k + (dig a k + dig b k)) % 256 = dig (a + b) k ∧ (carryA a b k + (dig a k + dig b k)) / 256 = carryA a b (k + 1) := by
  unfold carryA dig
  have h := Nat.pow_pos (n := k) (show 0 < 256 by omega)
  rw [Nat.pow_succ]
  generalize 256 ^ k = p at *
  have ea : a % (p * 256) = a % p + p * (a / p % 256) := Nat.mod_mul
  have eb : b % (p * 256) = b % p + p * (b / p % 256) := Nat.mod_mul
  have ha := Nat.div_add_mod a p
  have hb := Nat.div_add_mod b p
  have e1 : (a + b) / p = a / p + b / p + (a % p + b % p) / p := by
    conv => lhs; rw [← ha, ← hb]
    rw [show p * (a / p) + a % p + (p * (b / p) + b % p) = p * (a / p + b / p) + (a % p + b % p) by rw [Nat.mul_add]; omega, Nat.mul_add_div h]
  have e2 : (a % (p * 256) + b % (p * 256)) / (p * 256) = ((a % p + b % p) / p + (a / p % 256 + b / p % 256)) / 256 := by
    rw [ea, eb, ← Nat.div_div_eq_div_mul, show a % p + p * (a / p % 256) + (b % p + p * (b / p % 256)) = p * (a / p % 256 + b / p % 256) + (a % p + b % p) by rw [Nat.mul_add]; omega, Nat.mul_add_div h]
    omega
  rw [e1, e2]
  exact ⟨by omega, rfl⟩

set_option maxHeartbeats 400000 in
theorem add_no (s t : ByteArray) (w : World) (h : ¬ (Can s ∧ Can t)) :
    Calls Tryz.prog 30 #[.string s, .string t] w fun e w' => e = .returned (.tuple #[.string (E 0), .int .i64 3]) ∧ w = w' := by
  by_cases hc : Can s
  · have hd : ¬ Can t := fun q => h ⟨hc, q⟩
    have HC := Lib.hid hc; clear hc h
    have HD := Lib.hid hd; clear hd
    go_enter Tryz.func30, Tryz.ntmps30
    go_wp2_with fail
    refine (valid_yes s _ HC.out).mono ?_; rintro e w' ⟨rfl, rfl⟩
    go_wp2_with fail
    refine (valid_no t _ HD.out).mono ?_; rintro e w' ⟨rfl, rfl⟩
    go_wp2
    go_ret2
    exact ⟨rfl, rfl⟩
  · have HC := Lib.hid hc; clear hc h
    go_enter Tryz.func30, Tryz.ntmps30
    go_wp2_with fail
    refine (valid_no s _ HC.out).mono ?_; rintro e w' ⟨rfl, rfl⟩
    go_wp2
    go_ret2
    exact ⟨rfl, rfl⟩

/-- The numbers that fit. -/
def Lim : Nat := 256 ^ 128
theorem lim_eq : Lim = 256 ^ 128 := rfl
/-- A number, or ErrLong. -/
def okN (n : Nat) : Value := if n < Lim then .tuple #[.string (E n), .int .i64 0] else .tuple #[.string (E 0), .int .i64 5]
theorem E_size_lim (n : Nat) : (E n).size ≤ 128 ↔ n < Lim := by rw [lim_eq]; exact E_size_le
theorem V_lim {s : ByteArray} (h : Can s) : V s < Lim := by rw [lim_eq]; exact V_lt128 h
theorem can_E' {n : Nat} (h : n < Lim) : Can (E n) := can_E (by rw [← lim_eq]; exact h)
theorem ret_v {a b : Value} (h : a = b) : Ending.returned a = .returned b := by rw [h]
theorem okN_yes {n : Nat} (h : n < Lim) : okN n = .tuple #[.string (E n), .int .i64 0] := by unfold okN; rw [if_pos h]
theorem okN_no {n : Nat} (h : ¬ n < Lim) : okN n = .tuple #[.string (E 0), .int .i64 5] := by unfold okN; rw [if_neg h]
theorem sum_lt {s t : ByteArray} : V s + V t < 256 ^ (max s.size t.size + 1) := by
  have h1 := V_lt s
  have h2 := V_lt t
  have h3 : 256 ^ s.size ≤ 256 ^ max s.size t.size := Nat.pow_le_pow_right (by omega) (by omega)
  have h4 : 256 ^ t.size ≤ 256 ^ max s.size t.size := Nat.pow_le_pow_right (by omega) (by omega)
  rw [Nat.pow_succ]
  omega

theorem part_zero (w : World) (n len : Nat) (t : TypeId) : (w.alloc (.cells (madeCells #[.int .u8 0] len) t)).rowIs w.heap.size t len (fun j => .int .u8 (partB n len 0 j : Nat)) :=
  (World.rowIs_made w (.int .u8 0) len t).congr (fun j _ => by rw [partB_zero]; rfl)

set_option maxHeartbeats 400000 in
theorem add_yes (s t : ByteArray) (w : World) (hs : Can s) (ht : Can t) :
    Calls Tryz.prog 30 #[.string s, .string t] w fun e w' => e = .returned (okN (V s + V t)) ∧ Below w.heap.size w w' := by
  have h1 := hs.1
  have h2 := ht.1
  have HS := Lib.hid hs; clear hs
  have HT := Lib.hid ht; clear ht
  obtain ⟨n, hn⟩ : ∃ n, n = max s.size t.size := ⟨_, rfl⟩
  have hmk := run_make_bytes1 n (by omega)
  have hmax : max (s.size : Int) (t.size : Int) = (n : Int) := by omega
  have hn128 : n ≤ 128 := by omega
  have HN := Lib.hid hn; clear hn
  go_enter Tryz.func30, Tryz.ntmps30
  go_wp2_with fail
  refine (valid_yes s _ HS.out).mono ?_; rintro e w' ⟨rfl, rfl⟩
  go_wp2_with fail
  refine (valid_yes t _ HT.out).mono ?_; rintro e w' ⟨rfl, rfl⟩
  go_wp2
  go_loopw [7, 8, 27] (fun c _ v wr => ∃ k : Nat, k ≤ n + 1 ∧ v = .int .i64 k ∧ c = .int .i64 (carryA (V s) (V t) k : Nat) ∧ wr.rowIs w.heap.size 5 (n + 1) (fun j => .int .u8 (partB (V s + V t) (n + 1) k j : Nat)) ∧ Below w.heap.size w wr) (fun _ _ v _ => n + 1 - (intOf v).toNat)
  case atStart => exact ⟨0, by omega, rfl, by rw [carryA_zero]; rfl, part_zero w _ _ _, (Below.refl _ _).alloc (Nat.le_refl _) _⟩
  case round =>
    obtain ⟨k, hk, rfl, rfl, hrow, hbel⟩ := hrel
    have hcar := carryA_le (V s) (V t) k
    by_cases hlt : k < n + 1
    · have hcell := hrow.cell (i := n - k) (by omega)
      have hfr := hrow.frozen (n - k)
      have hd1 : dig (V s) k < 256 := Nat.mod_lt _ (by omega)
      have hd2 : dig (V t) k < 256 := Nat.mod_lt _ (by omega)
      have HR := Lib.hid hrow; clear hrow
      go_wp2_with fail
      refine (byteAt_any s _ _ (by omega) (by omega) (by omega)).mono ?_
      rintro e w' ⟨rfl, rfl⟩
      rw [Int.toNat_natCast]
      go_wp2_with fail
      refine (byteAt_any t _ _ (by omega) (by omega) (by omega)).mono ?_
      rintro e w' ⟨rfl, rfl⟩
      rw [Int.toNat_natCast]
      go_wp2
      have ha := add_step (V s) (V t) k
      go_roundw
      case rel =>
        have e := part_step (v := ((carryA (V s) (V t) k : Nat) + ((dig (V s) k : Nat) + (dig (V t) k : Nat))) % 256) HR.out hlt (by rw [← ha.1]; rfl)
        exact ⟨k + 1, by omega, by go_num, int_eq (by rw [← ha.2]; rfl), e, hbel.setCell (Nat.le_refl _) _⟩
      case measure => simp [intOf]; omega
    · obtain rfl : k = n + 1 := by omega
      have hb := part_done hrow
      have hsum : V s + V t < 256 ^ (n + 1) := by rw [HN.out]; exact sum_lt
      have hE := E_beN hsum
      have hsz := E_size_lim (V s + V t)
      have HB := Lib.hid hb; clear hb
      have HE := Lib.hid hE; clear hE hsum
      have HZ := Lib.hid hsz; clear hsz
      go_wp2_with fail
      refine (strip_any w.heap.size 0 (n + 1) (n + 1) (beN (n + 1) (V s + V t)) _ (beN_length _ _) (by omega) (by omega) (by omega) HB.out).mono ?_
      rintro e w' ⟨rfl, rfl⟩
      rw [HE.out]
      by_cases hfit : V s + V t < Lim
      · have hf := HZ.out.2 hfit
        have ho := Lib.hid (okN_yes hfit)
        clear hfit
        go_wp2
        go_ret2
        exact ⟨ret_v ho.out.symm, hbel⟩
      · have hf : ¬ (E (V s + V t)).size ≤ 128 := fun q => hfit (HZ.out.1 q)
        have ho := Lib.hid (okN_no hfit)
        clear hfit
        go_wp2
        go_ret2
        exact ⟨ret_v ho.out.symm, hbel⟩

/-- The borrow behind k digits of a difference. -/
def borrow (a b k : Nat) : Int := ((a % 256 ^ k : Nat) - (b % 256 ^ k : Nat) : Int) / (256 ^ k : Nat)
theorem borrow_le (a b k : Nat) : -1 ≤ borrow a b k ∧ borrow a b k ≤ 0 := by
  have h := Nat.pow_pos (n := k) (show 0 < 256 by omega)
  have h1 := Nat.mod_lt a h
  have h2 := Nat.mod_lt b h
  unfold borrow
  constructor
  · exact (Int.le_ediv_iff_mul_le (by omega)).2 (by omega)
  · have := (Int.ediv_lt_iff_lt_mul (a := ((a % 256 ^ k : Nat) - (b % 256 ^ k : Nat) : Int)) (b := 1) (c := ((256 ^ k : Nat) : Int)) (by omega)).2 (by omega)
    omega
theorem borrow_zero (a b : Nat) : borrow a b 0 = 0 := by simp [borrow, Nat.mod_one]
theorem sub_step (a b k : Nat) (hab : b ≤ a) : (borrow a b k + ((dig a k : Nat) - (dig b k : Nat))) % 256 = (dig (a - b) k : Nat) ∧ (borrow a b k + ((dig a k : Nat) - (dig b k : Nat))) / 256 = borrow a b (k + 1) := by
  unfold borrow dig
  have h := Nat.pow_pos (n := k) (show 0 < 256 by omega)
  rw [Nat.pow_succ]
  generalize 256 ^ k = p at *
  have ea : a % (p * 256) = a % p + p * (a / p % 256) := Nat.mod_mul
  have eb : b % (p * 256) = b % p + p * (b / p % 256) := Nat.mod_mul
  have ha := Nat.div_add_mod a p
  have hb := Nat.div_add_mod b p
  have e1 : ((a - b : Nat) : Int) / (p : Nat) = (a / p : Nat) - (b / p : Nat) + ((a % p : Nat) - (b % p : Nat) : Int) / (p : Nat) := by
    have : ((a - b : Nat) : Int) = ((a % p : Nat) - (b % p : Nat) : Int) + (p : Nat) * ((a / p : Nat) - (b / p : Nat)) := by
      rw [Int.mul_sub, ← Int.natCast_mul, ← Int.natCast_mul]; omega
    rw [this, Int.add_mul_ediv_left _ _ (by omega)]; omega
  have e2 : ((a % (p * 256) : Nat) - (b % (p * 256) : Nat) : Int) / ((p * 256 : Nat) : Int) = (((a % p : Nat) - (b % p : Nat) : Int) / (p : Nat) + ((a / p % 256 : Nat) - (b / p % 256 : Nat))) / 256 := by
    rw [Int.natCast_mul, ← Int.ediv_ediv_of_nonneg (by omega), ea, eb]
    have : (((a % p + p * (a / p % 256) : Nat) : Int) - ((b % p + p * (b / p % 256) : Nat) : Int)) = ((a % p : Nat) - (b % p : Nat) : Int) + (p : Nat) * ((a / p % 256 : Nat) - (b / p % 256 : Nat)) := by
      rw [Int.mul_sub, ← Int.natCast_mul, ← Int.natCast_mul]; omega
    rw [this, Int.add_mul_ediv_left _ _ (by omega)]
    rfl
  rw [e2]
  refine ⟨?_, rfl⟩
  have e3 : (((a - b) / p % 256 : Nat) : Int) = (((a - b : Nat) : Int) / (p : Nat)) % 256 := by simp
  rw [e3, e1]
  omega

set_option maxHeartbeats 400000 in
theorem sub_no (s t : ByteArray) (w : World) (h : ¬ (Can s ∧ Can t)) :
    Calls Tryz.prog 62 #[.string s, .string t] w fun e w' => e = .returned (.tuple #[.string (E 0), .int .i64 3]) ∧ w = w' := by
  by_cases hc : Can s
  · have hd : ¬ Can t := fun q => h ⟨hc, q⟩
    have HC := Lib.hid hc; clear hc h
    have HD := Lib.hid hd; clear hd
    go_enter Tryz.func62, Tryz.ntmps62
    go_wp2_with fail
    refine (valid_yes s _ HC.out).mono ?_; rintro e w' ⟨rfl, rfl⟩
    go_wp2_with fail
    refine (valid_no t _ HD.out).mono ?_; rintro e w' ⟨rfl, rfl⟩
    go_wp2
    go_ret2
    exact ⟨rfl, rfl⟩
  · have HC := Lib.hid hc; clear hc h
    go_enter Tryz.func62, Tryz.ntmps62
    go_wp2_with fail
    refine (valid_no s _ HC.out).mono ?_; rintro e w' ⟨rfl, rfl⟩
    go_wp2
    go_ret2
    exact ⟨rfl, rfl⟩

/-- A difference, or ErrRange. -/
def subN (a b : Nat) : Value := if b ≤ a then .tuple #[.string (E (a - b)), .int .i64 0] else .tuple #[.string (E 0), .int .i64 2]
theorem subN_yes {a b : Nat} (h : b ≤ a) : subN a b = .tuple #[.string (E (a - b)), .int .i64 0] := by unfold subN; rw [if_pos h]
theorem subN_no {a b : Nat} (h : ¬ b ≤ a) : subN a b = .tuple #[.string (E 0), .int .i64 2] := by unfold subN; rw [if_neg h]
theorem sgn_neg {a b : Nat} (h : ¬ b ≤ a) : sgn a b = -1 := by unfold sgn; rw [if_pos (by omega)]
theorem sgn_nonneg {a b : Nat} (h : b ≤ a) : 0 ≤ sgn a b := by unfold sgn; rw [if_neg (by omega)]; split <;> omega

set_option maxHeartbeats 400000 in
theorem sub_yes (s t : ByteArray) (w : World) (hs : Can s) (ht : Can t) :
    Calls Tryz.prog 62 #[.string s, .string t] w fun e w' => e = .returned (subN (V s) (V t)) ∧ Below w.heap.size w w' := by
  have h1 := hs.1
  have h2 := ht.1
  have HS := Lib.hid hs; clear hs
  have HT := Lib.hid ht; clear ht
  have hmk := run_make_bytes s.size (by omega)
  by_cases hle : V t ≤ V s
  · have hsg := sgn_nonneg hle
    have HL := Lib.hid hle; clear hle
    go_enter Tryz.func62, Tryz.ntmps62
    go_wp2_with fail
    refine (valid_yes s _ HS.out).mono ?_; rintro e w' ⟨rfl, rfl⟩
    go_wp2_with fail
    refine (valid_yes t _ HT.out).mono ?_; rintro e w' ⟨rfl, rfl⟩
    go_wp2_with fail
    refine (cmp_yes s t _ HS.out HT.out).mono ?_; rintro e w' ⟨rfl, rfl⟩
    go_wp2
    go_loopw [7, 8, 26] (fun c _ v wr => ∃ k : Nat, k ≤ s.size ∧ v = .int .i64 k ∧ c = .int .i64 (borrow (V s) (V t) k) ∧ wr.rowIs w.heap.size 5 s.size (fun j => .int .u8 (partB (V s - V t) s.size k j : Nat)) ∧ Below w.heap.size w wr) (fun _ _ v _ => s.size - (intOf v).toNat)
    case atStart => exact ⟨0, by omega, rfl, by rw [borrow_zero], part_zero w _ _ _, (Below.refl _ _).alloc (Nat.le_refl _) _⟩
    case round =>
      obtain ⟨k, hk, rfl, rfl, hrow, hbel⟩ := hrel
      have hcar := borrow_le (V s) (V t) k
      by_cases hlt : k < s.size
      · have hcell := hrow.cell (i := s.size - 1 - k) (by omega)
        have hfr := hrow.frozen (s.size - 1 - k)
        have hd1 : dig (V s) k < 256 := Nat.mod_lt _ (by omega)
        have hd2 : dig (V t) k < 256 := Nat.mod_lt _ (by omega)
        have HR := Lib.hid hrow; clear hrow
        go_wp2_with fail
        refine (byteAt_any s _ _ (by omega) (by omega) (by omega)).mono ?_
        rintro e w' ⟨rfl, rfl⟩
        rw [Int.toNat_natCast]
        go_wp2_with fail
        refine (byteAt_any t _ _ (by omega) (by omega) (by omega)).mono ?_
        rintro e w' ⟨rfl, rfl⟩
        rw [Int.toNat_natCast]
        go_wp2
        have ha := sub_step (V s) (V t) k HL.out
        go_roundw
        case rel =>
          have e := part_step (n := V s - V t) (v := (borrow (V s) (V t) k + ((dig (V s) k : Nat) - (dig (V t) k : Nat))) % 256) HR.out hlt ha.1
          exact ⟨k + 1, by omega, by go_num, int_eq ha.2, e, hbel.setCell (Nat.le_refl _) _⟩
        case measure => simp [intOf]; omega
      · obtain rfl : k = s.size := by omega
        have hb := part_done hrow
        have hE := E_beN (k := s.size) (n := V s - V t) (Nat.lt_of_le_of_lt (Nat.sub_le _ _) (V_lt s))
        have HB := Lib.hid hb; clear hb
        have HE := Lib.hid hE; clear hE
        have ho := Lib.hid (subN_yes HL.out)
        go_wp2_with fail
        refine (strip_any w.heap.size 0 s.size s.size (beN s.size (V s - V t)) _ (beN_length _ _) (by omega) (by omega) (by omega) HB.out).mono ?_
        rintro e w' ⟨rfl, rfl⟩
        rw [HE.out]
        go_wp2
        go_ret2
        exact ⟨ret_v ho.out.symm, hbel⟩
  · have hsg := sgn_neg hle
    have hs1 : sgn (V s) (V t) < 0 := by omega
    have ho := Lib.hid (subN_no hle)
    clear hle hsg
    go_enter Tryz.func62, Tryz.ntmps62
    go_wp2_with fail
    refine (valid_yes s _ HS.out).mono ?_; rintro e w' ⟨rfl, rfl⟩
    go_wp2_with fail
    refine (valid_yes t _ HT.out).mono ?_; rintro e w' ⟨rfl, rfl⟩
    go_wp2_with fail
    refine (cmp_yes s t _ HS.out HT.out).mono ?_; rintro e w' ⟨rfl, rfl⟩
    go_wp2
    go_ret2
    exact ⟨ret_v ho.out.symm, Below.refl _ _⟩
end Go.Proofs.YtogmgfdihmacpaaGreatDoor

