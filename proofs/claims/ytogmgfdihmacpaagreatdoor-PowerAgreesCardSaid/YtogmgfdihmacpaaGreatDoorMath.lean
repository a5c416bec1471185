/-
  Plain mathematics: big-endian byte strings as numbers; nothing of the program.
-/
import Init
namespace Go.Proofs.YtogmgfdihmacpaaGreatDoor

/-- The number of big-endian bytes. -/
def bval (l : List UInt8) : Nat := l.foldl (fun n c => n * 256 + c.toNat) 0

/-- The canonical bytes of a number, with fuel. -/
def encF : Nat → Nat → List UInt8
  | 0, _ => []
  | f + 1, n => if n = 0 then [] else encF f (n / 256) ++ [UInt8.ofNat (n % 256)]

/-- The canonical bytes of a number. -/
def enc (n : Nat) : List UInt8 := encF n n

/-- The bytes behind leading zeros. -/
def strip : List UInt8 → List UInt8
  | [] => []
  | c :: l => if c = 0 then strip l else c :: l

/-- No leading zero byte. -/
def can (l : List UInt8) : Prop := l.head? ≠ some 0

theorem bval_foldl (l : List UInt8) (a : Nat) : l.foldl (fun n c => n * 256 + c.toNat) a = a * 256 ^ l.length + bval l := by
  induction l generalizing a with
  | nil => simp [bval]
  | cons c l ih =>
    simp only [List.foldl_cons, List.length_cons, bval]
    rw [ih, ih (0 * 256 + c.toNat), Nat.pow_succ, Nat.add_mul, Nat.zero_mul, Nat.zero_add, Nat.mul_assoc a 256, Nat.mul_comm 256, Nat.add_assoc]

theorem bval_nil : bval [] = 0 := rfl
theorem bval_cons (c : UInt8) (l : List UInt8) : bval (c :: l) = c.toNat * 256 ^ l.length + bval l := by
  show List.foldl _ _ l = _
  rw [bval_foldl]; simp
theorem bval_append (l m : List UInt8) : bval (l ++ m) = bval l * 256 ^ m.length + bval m := by
  unfold bval; rw [List.foldl_append, bval_foldl]; rfl
theorem bval_snoc (l : List UInt8) (c : UInt8) : bval (l ++ [c]) = bval l * 256 + c.toNat := by
  rw [bval_append]; simp [bval]
theorem bval_lt (l : List UInt8) : bval l < 256 ^ l.length := by
  induction l with
  | nil => simp [bval]
  | cons c l ih =>
    rw [bval_cons, List.length_cons, Nat.pow_succ]
    have hc : c.toNat ≤ 255 := by have := c.toNat_lt; omega
    have := Nat.mul_le_mul_right (256 ^ l.length) hc
    omega

theorem bval_strip (l : List UInt8) : bval (strip l) = bval l := by
  induction l with
  | nil => rfl
  | cons c l ih =>
    unfold strip
    split
    · rename_i h; subst h; rw [ih, bval_cons]; simp
    · rfl
theorem can_nil : can [] := by simp [can]
theorem can_strip (l : List UInt8) : can (strip l) := by
  induction l with
  | nil => exact can_nil
  | cons c l ih => unfold strip; split <;> simp_all [can]
theorem strip_can {l : List UInt8} (h : can l) : strip l = l := by
  cases l with
  | nil => rfl
  | cons c l => unfold strip; rw [if_neg]; intro e; exact h (by simp [e])
theorem strip_length_le (l : List UInt8) : (strip l).length ≤ l.length := by
  induction l with
  | nil => simp [strip]
  | cons c l ih => unfold strip; split <;> simp <;> omega

theorem can_low {c : UInt8} {l : List UInt8} (h : can (c :: l)) : 256 ^ l.length ≤ bval (c :: l) := by
  rw [bval_cons]
  have hc : c.toNat ≠ 0 := by
    intro e; apply h; simp
    exact UInt8.toNat_inj.1 (by simpa using e)
  have := Nat.mul_le_mul_right (256 ^ l.length) (show 1 ≤ c.toNat by omega)
  omega

theorem inj_len : ∀ (l m : List UInt8), l.length = m.length → bval l = bval m → l = m := by
  intro l
  induction l with
  | nil => intro m h _; cases m with | nil => rfl | cons => simp at h
  | cons c l ih =>
    intro m h e
    cases m with
    | nil => simp at h
    | cons d m =>
      have hl : l.length = m.length := by simpa using h
      rw [bval_cons, bval_cons, hl] at e
      have h1 := bval_lt l; have h2 := bval_lt m
      rw [hl] at h1
      have hcd : c.toNat = d.toNat := by
        have a1 : (c.toNat * 256 ^ m.length + bval l) / 256 ^ m.length = c.toNat := by
          rw [Nat.mul_comm, Nat.mul_add_div (Nat.pow_pos (by omega)), Nat.div_eq_of_lt h1]; simp
        have a2 : (d.toNat * 256 ^ m.length + bval m) / 256 ^ m.length = d.toNat := by
          rw [Nat.mul_comm, Nat.mul_add_div (Nat.pow_pos (by omega)), Nat.div_eq_of_lt h2]; simp
        rw [← a1, ← a2, e]
      have : c = d := UInt8.toNat_inj.1 hcd
      subst this
      rw [ih m hl (by omega)]

theorem can_len_le {l m : List UInt8} (hl : can l) (e : bval l ≤ bval m) : l.length ≤ m.length := by
  cases l with
  | nil => simp
  | cons c l =>
    have h1 := can_low hl
    have h2 := bval_lt m
    have h3 : 256 ^ l.length < 256 ^ m.length := by omega
    have := (Nat.pow_lt_pow_iff_right (a := 256) (by omega)).1 h3
    simp; omega

theorem can_inj {l m : List UInt8} (hl : can l) (hm : can m) (e : bval l = bval m) : l = m :=
  inj_len l m (by have := can_len_le hl (Nat.le_of_eq e); have := can_len_le hm (Nat.le_of_eq e.symm); omega) e

theorem ofNat_mod_toNat (n : Nat) : (UInt8.ofNat (n % 256)).toNat = n % 256 := by
  simp [UInt8.toNat_ofNat']

theorem bval_encF : ∀ f n, n ≤ f → bval (encF f n) = n := by
  intro f
  induction f with
  | zero => intro n h; have : n = 0 := by omega
            subst this; rfl
  | succ f ih =>
    intro n h
    unfold encF
    split
    · rename_i e; subst e; rfl
    · rw [bval_snoc, ih _ (by omega), ofNat_mod_toNat]; omega
theorem bval_enc (n : Nat) : bval (enc n) = n := bval_encF n n (Nat.le_refl _)

theorem can_encF : ∀ f n, n ≤ f → can (encF f n) := by
  intro f
  induction f with
  | zero => intro n h; exact can_nil
  | succ f ih =>
    intro n h
    unfold encF
    split
    · exact can_nil
    · rename_i hn
      have h1 := ih (n / 256) (by omega)
      by_cases hz : n / 256 = 0
      · have he : encF f (n / 256) = [] := by rw [hz]; cases f <;> simp [encF]
        rw [he]
        simp only [can, List.nil_append, List.head?_cons, ne_eq, Option.some.injEq]
        intro e
        have := congrArg UInt8.toNat e
        rw [ofNat_mod_toNat] at this
        have : n % 256 = 0 := by simpa using this
        omega
      · have hne : encF f (n / 256) ≠ [] := by
          intro e
          have := bval_encF f (n / 256) (by omega)
          rw [e] at this
          exact hz this.symm
        unfold can at *
        rw [List.head?_append]
        cases hq : encF f (n / 256) with
        | nil => exact absurd hq hne
        | cons c l => rw [hq] at h1; simpa using h1
theorem can_enc (n : Nat) : can (enc n) := can_encF n n (Nat.le_refl _)
theorem enc_bval {l : List UInt8} (h : can l) : enc (bval l) = l := can_inj (can_enc _) h (bval_enc _)
theorem strip_eq_enc (l : List UInt8) : strip l = enc (bval l) := can_inj (can_strip l) (can_enc _) (by rw [bval_strip, bval_enc])
theorem enc_zero : enc 0 = [] := rfl
theorem enc_inj {n m : Nat} (h : enc n = enc m) : n = m := by rw [← bval_enc n, h, bval_enc]
theorem enc_nil_iff (n : Nat) : enc n = [] ↔ n = 0 := ⟨fun h => by rw [← bval_enc n, h]; rfl, fun h => by subst h; rfl⟩
theorem enc_length_le {n k : Nat} : (enc n).length ≤ k ↔ n < 256 ^ k := by
  constructor
  · intro h
    have := bval_lt (enc n)
    rw [bval_enc] at this
    exact Nat.lt_of_lt_of_le this (Nat.pow_le_pow_right (by omega) h)
  · intro h
    cases hq : enc n with
    | nil => simp
    | cons c l =>
      have h1 := can_low (c := c) (l := l) (by rw [← hq]; exact can_enc n)
      rw [← hq, bval_enc] at h1
      have := (Nat.pow_lt_pow_iff_right (a := 256) (by omega)).1 (Nat.lt_of_le_of_lt h1 h)
      simp; omega

/-- The bytes of n, k of them, the most significant one first. -/
def beN (k n : Nat) : List UInt8 := (List.range k).map fun i => UInt8.ofNat (n / 256 ^ (k - 1 - i) % 256)
theorem beN_length (k n : Nat) : (beN k n).length = k := by simp [beN]
theorem beN_get (k n i : Nat) (h : i < k) : (beN k n)[i]? = some (UInt8.ofNat (n / 256 ^ (k - 1 - i) % 256)) := by simp [beN, h]
theorem beN_succ (k n : Nat) : beN (k + 1) n = beN k (n / 256) ++ [UInt8.ofNat (n % 256)] := by
  unfold beN
  rw [List.range_succ, List.map_append]
  congr 1
  · apply List.map_congr_left
    intro i hi
    have hi : i < k := by simpa using hi
    have : k + 1 - 1 - i = (k - 1 - i) + 1 := by omega
    rw [this, Nat.pow_succ, Nat.mul_comm, Nat.div_div_eq_div_mul]
  · simp
theorem bval_beN : ∀ k n, bval (beN k n) = n % 256 ^ k := by
  intro k
  induction k with
  | zero => intro n; simp [beN, bval, Nat.mod_one]
  | succ k ih =>
    intro n
    rw [beN_succ, bval_snoc, ih, ofNat_mod_toNat, Nat.pow_succ, Nat.mul_comm (256 ^ k) 256, Nat.mod_mul]; omega
theorem strip_beN {k n : Nat} (h : n < 256 ^ k) : strip (beN k n) = enc n := by rw [strip_eq_enc, bval_beN, Nat.mod_eq_of_lt h]

/-- Digit i of a byte string, the least significant one first. -/
theorem bval_digit : ∀ (l : List UInt8) (i : Nat), i < l.length → (l[l.length - 1 - i]?.getD 0).toNat = bval l / 256 ^ i % 256 := by
  intro l i h
  have hs : l = l.take (l.length - 1 - i) ++ (l[l.length - 1 - i]'(by omega)) :: l.drop (l.length - 1 - i + 1) := by
    rw [List.getElem_cons_drop, List.take_append_drop]
  have hd : (l.drop (l.length - 1 - i + 1)).length = i := by simp; omega
  have e : bval l = (bval (l.take (l.length - 1 - i)) * 256 + (l[l.length - 1 - i]'(by omega)).toNat) * 256 ^ i + bval (l.drop (l.length - 1 - i + 1)) := by
    conv => lhs; rw [hs]
    rw [bval_append, bval_cons, List.length_cons, hd, Nat.pow_succ, Nat.add_mul, Nat.mul_comm (256 ^ i) 256, Nat.mul_assoc, Nat.add_assoc]
  have hlt := bval_lt (l.drop (l.length - 1 - i + 1))
  rw [hd] at hlt
  rw [e, Nat.mul_comm _ (256 ^ i), Nat.mul_add_div (Nat.pow_pos (by omega)), Nat.div_eq_of_lt hlt, Nat.add_zero, Nat.mul_add_mod_self_right, List.getElem?_eq_getElem (by omega)]
  have := (l[l.length - 1 - i]'(by omega)).toNat_lt
  simp

/-- Order of strings without leading zeros. -/
theorem can_lt_of_len {l m : List UInt8} (hm : can m) (h : l.length < m.length) : bval l < bval m := by
  cases m with
  | nil => simp at h
  | cons c m =>
    have h1 := can_low hm
    have h2 := bval_lt l
    have : 256 ^ l.length ≤ 256 ^ m.length := Nat.pow_le_pow_right (by omega) (by simp at h; omega)
    omega

theorem strip_drop_zero {l : List UInt8} {k : Nat} (h : l[k]? = some 0) : strip (l.drop k) = strip (l.drop (k + 1)) := by
  obtain ⟨hk, e⟩ := List.getElem?_eq_some_iff.1 h
  rw [← List.getElem_cons_drop hk, e]
  conv => lhs; unfold strip
  simp
theorem strip_drop_stop {l : List UInt8} {k : Nat} {c : UInt8} (h : l[k]? = some c) (hc : c ≠ 0) : strip (l.drop k) = l.drop k := by
  obtain ⟨hk, e⟩ := List.getElem?_eq_some_iff.1 h
  rw [← List.getElem_cons_drop hk, e]
  unfold strip
  rw [if_neg hc]

end Go.Proofs.YtogmgfdihmacpaaGreatDoor
