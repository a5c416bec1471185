/-
  Contracts of package natural, the fourteenth part: Text.
-/
import Derived.Test.YtjbcicgbemepbaaDoorNat13
namespace Go.Proofs.YtjbcicgbemepbaaDoor
open Go.RowKit
set_option linter.unusedVariables false

/-- The first K decimal digits as bytes, the lowest one first. -/
def digs (n K : Nat) : List Value := (List.range K).map fun k => Value.int .u8 (48 + dd n k : Nat)
theorem digs_succ (n K : Nat) : digs n (K + 1) = digs n K ++ [Value.int .u8 (48 + dd n K : Nat)] := by
  unfold digs; rw [List.range_succ, List.map_append]; rfl
theorem digs_length (n K : Nat) : (digs n K).length = K := by simp [digs]

/-- What the outer loop of Text knows. -/
def TextR (v m g B : Nat) (w : World) (N : Nat) (text d : Value) (wr : World) : Prop :=
  ∃ i, N = v / 10 ^ (9 * i) ∧ d = .slice (some ⟨g, 0, none⟩) (nd N) m ∧ Row wr g 49 m (nd N) N ∧ wr.ownsRow B 5 1 text (9 * i) (digs v (9 * i)) ∧ Below w.heap.size w wr ∧ B ≤ wr.heap.size
/-- What the inner loop knows. -/
def TextI (v m g B i M n1 N2 : Nat) (w : World) (text part j : Value) (wr : World) : Prop :=
  ∃ k : Nat, k ≤ 9 ∧ j = .int .i64 k ∧ part = .int .u32 (M / 10 ^ k : Nat) ∧ Row wr g 49 m n1 N2 ∧ wr.ownsRow B 5 1 text (9 * i + k) (digs v (9 * i + k)) ∧ Below w.heap.size w wr ∧ B ≤ wr.heap.size

theorem own_only {w w' : World} {base e size n g : Nat} {v : Value} {xs : List Value} (h : w.ownsRow base e size v n xs) (ho : Only g w w') (hg : g < base) : w'.ownsRow base e size v n xs := by
  obtain ⟨h1, h2⟩ := h
  refine ⟨h1, ?_⟩
  rcases h2 with h2 | ⟨k, cap, cur, hv, hk, hh, r⟩
  · exact .inl h2
  · refine .inr ⟨k, cap, cur, hv, hk, ?_, r⟩
    have hlt : k < w.heap.size := by
      rcases Nat.lt_or_ge k w.heap.size with h | h
      · exact h
      · rw [Array.getElem?_eq_none h] at hh; cases hh
    rw [ho.block k hlt (by omega)]; exact hh
theorem Row.grown {w w' : World} {g tt L n N : Nat} {row : Option Nat} (h : Row w g tt L n N) (hg : w.grownBy w' row) (hn : some g ≠ row) : Row w' g tt L n N := by
  obtain ⟨f, h1, h2⟩ := h
  exact ⟨f, h1.of_block (hg.block g h1.lt hn), h2⟩
theorem own_block_ge {w : World} {base e size n : Nat} {v : Value} {xs : List Value} (h : w.ownsRow base e size v n xs) : ∀ k, v.ownBlock = some k → base ≤ k := by
  intro k hk
  rcases h.2 with ⟨rfl, _⟩ | ⟨g, cap, cur, rfl, hg, _⟩
  · cases hk
  · have : g = k := by simpa [Value.ownBlock] using hk
    omega

theorem ndec_bytes {n k : Nat} (h : n < 256 ^ k) : ndec n ≤ 3 * k := ndec_le.2 (Nat.lt_of_lt_of_le h (by rw [Nat.pow_mul]; exact Nat.pow_le_pow_left (by omega) k))
theorem run_bytes_str {w : World} {g o : Nat} {l : List UInt8} (h : Bytes w g o l) (c n : Nat) (hn : n = l.length) :
    (convert 62 9 (.slice (some ⟨g, o, none⟩) n c)).run Tryd.prog w = .ok (.string ⟨l.toArray⟩) w := by
  subst hn
  have := run_convert_bytes_arg (P := Tryd.prog) w 62 5 Tryd.und62 Tryd.und5 g o l.length c (l.map fun c => (c.toNat : Int)) (by simp) (fun i hi => by
    rw [h i hi]; simp [List.getD, hi]) 9 (by kernel_rfl)
  rw [this, strOfNums_bytes]
theorem decT_pos {n : Nat} (h : 0 < n) : decT n = (List.range (ndec n)).map fun j => UInt8.ofNat (48 + dd n (ndec n - 1 - j)) := by unfold decT; rw [if_neg (by omega)]
theorem bytes_decT {w : World} {g tt L n : Nat} (hr : RowB w g tt L (ndec n) (fun j => 48 + dd n (ndec n - 1 - j))) (hL : ndec n ≤ L) (h : 0 < n) : Bytes w g 0 (decT n) := by
  intro j hj
  rw [decT_pos h] at hj ⊢
  have hj' : j < ndec n := by simpa using hj
  rw [Nat.zero_add, hr.cell hj' hL]
  have hd := dd_lt n (ndec n - 1 - j)
  have e : (UInt8.ofNat (48 + dd n (ndec n - 1 - j))).toNat = 48 + dd n (ndec n - 1 - j) := by
    rw [UInt8.toNat_ofNat']; exact Nat.mod_eq_of_lt (by omega)
  rw [List.getElem?_map, List.getElem?_range hj', Option.map_some, Option.getD_some, e]
theorem decT_length {n : Nat} (h : 0 < n) : (decT n).length = ndec n := by rw [decT_pos h]; simp

end Go.Proofs.YtjbcicgbemepbaaDoor
