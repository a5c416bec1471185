/-
  The walks of IntegerTexts and IntegerParses.
-/
import Derived.Test.YtamgklgjhjociaaLaw2a
namespace Go.Proofs.Ytamgklgjhjociaa
open Go.RowKit
set_option linter.unusedVariables false

/-! ### A text of digits is the text of its number -/
theorem dval_lt : ∀ (l : List UInt8), (∀ c ∈ l, 48 ≤ c.toNat ∧ c.toNat ≤ 57) → dval l < 10 ^ l.length
  | [], _ => by decide
  | c :: l, h => by
    have ih := dval_lt l (fun x hx => h x (by simp [hx]))
    have hc := h c (by simp)
    rw [dval_cons, List.length_cons, Nat.pow_succ]
    have : (c.toNat - 48) * 10 ^ l.length ≤ 9 * 10 ^ l.length := Nat.mul_le_mul_right _ (by omega)
    omega
theorem dd_low (a m k i : Nat) (h : i < k) : dd (a * 10 ^ k + m) i = dd m i := by
  unfold dd
  have e : a * 10 ^ k + m = 10 ^ i * (10 * (a * 10 ^ (k - i - 1))) + m := by
    have e2 : (10 : Nat) ^ k = 10 ^ i * (10 * 10 ^ (k - i - 1)) := by
      rw [← Nat.pow_succ', ← Nat.pow_add]; congr 1; omega
    rw [e2, Nat.mul_left_comm, Nat.mul_left_comm a]
  rw [e, Nat.mul_add_div (Nat.pow_pos (by omega))]
  omega
theorem dd_lead (a m k : Nat) (ha : a < 10) (h : m < 10 ^ k) : dd (a * 10 ^ k + m) k = a := by
  unfold dd
  rw [Nat.mul_comm, Nat.mul_add_div (Nat.pow_pos (by omega)), Nat.div_eq_of_lt h]
  omega
theorem lowT_same (n m : Nat) : ∀ k, (∀ i, i < k → dd n i = dd m i) → lowT n k = lowT m k
  | 0, _ => rfl
  | k + 1, h => by rw [lowT_succ, lowT_succ, h k (by omega), lowT_same n m k (fun i hi => h i (by omega))]
theorem lowT_dval : ∀ (l : List UInt8), (∀ c ∈ l, 48 ≤ c.toNat ∧ c.toNat ≤ 57) → lowT (dval l) l.length = l
  | [], _ => rfl
  | c :: l, h => by
    have hd : ∀ x ∈ l, 48 ≤ x.toNat ∧ x.toNat ≤ 57 := fun x hx => h x (by simp [hx])
    have ih := lowT_dval l hd
    have hl := dval_lt l hd
    have hc := h c (by simp)
    rw [List.length_cons, lowT_succ, dval_cons, dd_lead _ _ _ (by omega) hl, lowT_same _ (dval l) _ (fun i hi => dd_low _ _ _ _ hi), ih]
    congr 1
    exact UInt8.toNat_inj.1 (by rw [dig_byte (by omega)]; omega)
theorem T_inv {r : ByteArray} (h : DecS r) : T (pv r r.size) = r := by
  have hl : r.data.toList.length = r.size := (size_eq r).symm
  have hpv : pv r r.size = dval r.data.toList := by unfold pv; rw [List.take_of_length_le (by omega)]
  have hd : ∀ c ∈ r.data.toList, 48 ≤ c.toNat ∧ c.toNat ≤ 57 := by
    intro c hc
    obtain ⟨i, hi, rfl⟩ := List.mem_iff_getElem.1 hc
    have := h.1 i (by omega)
    rwa [get_eq] at this
  have hlo : ∀ (_ : 1 < r.size), 10 ^ (r.size - 1) ≤ pv r r.size := fun h1 => by
    have := pv_lo h h1 (r.size - 1) (by omega)
    rwa [show r.size - 1 + 1 = r.size by omega] at this
  have hhi : pv r r.size < 10 ^ r.size := by rw [hpv, ← hl]; exact dval_lt _ hd
  have hT := lowT_dval _ hd
  rw [hl, ← hpv] at hT
  by_cases h0 : pv r r.size = 0
  · have h1 : r.size = 1 := by
      by_cases q : 1 < r.size
      · have := hlo q
        have := Nat.pow_pos (n := r.size - 1) (show 0 < 10 by omega)
        omega
      · have := h.2.1; omega
    rw [h0, T_zero]
    rw [h0, h1] at hT
    apply ByteArray.ext
    apply Array.ext'
    rw [← hT]; rfl
  · rw [T_low h0]
    have hn : ndec (pv r r.size) = r.size := by
      have h1 := ndec_le.2 hhi
      have h2 : ¬ ndec (pv r r.size) ≤ r.size - 1 := fun q => by
        have q := ndec_le.1 q
        by_cases h1 : 1 < r.size
        · have := hlo h1; omega
        · have hs := h.2.1
          rw [show r.size - 1 = 0 by omega] at q
          have : (10 : Nat) ^ 0 = 1 := rfl
          omega
      omega
    rw [hn, hT]
/-! ### Parse of a text, and the text of what is parsed -/
theorem mns_t (r : ByteArray) : mns true r = ⟨#[45]⟩ ++ r := rfl
theorem mns_f (r : ByteArray) : mns false r = r := rfl
theorem mns_list (r : ByteArray) : (mns true r).data.toList = 45 :: r.data.toList := by
  rw [mns_t, ByteArray.data_append, Array.toList_append]; rfl
theorem mns_minus (r : ByteArray) : Minus (mns true r) := list_minus (mns_list r)
theorem mns_size (r : ByteArray) : (mns true r).size = r.size + 1 := by rw [size_eq, mns_list, List.length_cons, ← size_eq]
theorem mns_rest (r : ByteArray) : (mns true r).extract 1 (mns true r).size = r := by
  apply ByteArray.ext
  rw [ByteArray.data_extract]
  apply Array.ext'
  rw [Array.toList_extract, mns_list, mns_size]
  simp only [List.extract, List.drop_succ_cons, List.drop_zero]
  exact List.take_of_length_le (by rw [← size_eq]; omega)
theorem rest_mns {s : ByteArray} (h : Minus s) : mns true (s.extract 1 s.size) = s := by
  obtain ⟨l, hl⟩ := minus_list h
  apply ByteArray.ext
  apply Array.ext'
  rw [mns_list, ByteArray.data_extract, Array.toList_extract, hl]
  simp [List.extract, size_eq, hl]
theorem T_plus (n : Nat) : ¬ Minus (T n) := by
  intro ⟨h0, h⟩
  have := (T_dec n).1 0 h0
  omega
theorem parse_text (g : Bool) (s : ByteArray) (w : World) (h : IVal g s) :
    Calls Try.prog 42 #[.string (mns g (T (V s)))] w fun e w' => e = .returned (.tuple #[.agg #[.bool g, .string s], .int .i64 0]) ∧ Below w.heap.size w w' := by
  have hl := V_lim h.1
  have hs := T_small hl
  cases g
  · have := iparse_plus (T (V s)) w (T_plus _) hs
    rw [ipN_ok (T_dec _) (by rw [T_pv]; exact hl) (fun q => by cases q.1), T_pv] at this
    rw [mns_f, Z_IZ h]; exact this
  · have hb : (mns true (T (V s))).size ≤ 1000 := by
      rw [mns_size]
      have : (T (V s)).size ≤ 999 := by
        by_cases h0 : V s = 0
        · rw [h0]; decide
        · rw [T_size h0]; have := ndec_lim hl; omega
      omega
    have := iparse_minus (mns true (T (V s))) w (mns_minus _) hb
    rw [mns_rest, ipN_ok (T_dec _) (by rw [T_pv]; exact hl) (fun q => h.2 rfl ((size_zero h.1).2 (by have := q.2; rwa [T_pv] at this))), T_pv] at this
    rw [Z_IZ h]; exact this
theorem text_sg (g : Bool) (n : Nat) (w : World) (h : n < Lim) (hn : ¬ (g = true ∧ n = 0)) :
    Calls Try.prog 40 #[Z (sg g n)] w fun e w' => e = .returned (.tuple #[.string (mns g (T n)), .int .i64 0]) ∧ Below w.heap.size w w' := by
  have hi := ival_Z (sg g n) (by rw [sg_natAbs]; exact h)
  have := itext_yes (ZG (sg g n)) (ZS (sg g n)) w hi
  have e1 : V (ZS (sg g n)) = n := by unfold ZS; rw [V_E, sg_natAbs]
  have e2 : ZG (sg g n) = g := by
    unfold ZG
    cases g
    · simp [sg]
    · have : n ≠ 0 := fun q => hn ⟨rfl, q⟩
      rw [sg_t]; simp; omega
  rw [e1] at this
  have e3 : Z (sg g n) = .agg #[.bool (ZG (sg g n)), .string (ZS (sg g n))] := rfl
  rw [e3]
  rw [e2] at this ⊢
  exact this
/-- What the statement about Parse needs: the results agree; where there is no error the text of the result is the string. -/
theorem iparse_agree (s : ByteArray) (hs : s.size ≤ 1000) : ∃ (G : Bool) (S : ByteArray) (v : Nat), v ≤ 100 ∧
    (∀ w, Calls Try.prog 42 #[.string s] w fun e w' => e = .returned (.tuple #[.agg #[.bool G, .string S], .int .i64 v]) ∧ Below w.heap.size w w') ∧
    (∀ w, Calls Try.prog 43 #[.string s] w fun e w' => e = .returned (.tuple #[.agg #[.bool G, .string S], .int .i64 v]) ∧ Below w.heap.size w w') ∧
    (v = 0 ∧ (∀ w, Calls Try.prog 40 #[.agg #[.bool G, .string S]] w fun e w' => e = .returned (.tuple #[.string s, .int .i64 0]) ∧ Below w.heap.size w w') ∨ ¬ (v : Int) = 0) := by
  have key : ∃ (g : Bool) (r : ByteArray), mns g r = s ∧ (∀ w, Calls Try.prog 42 #[.string s] w fun e w' => e = .returned (ipN g r) ∧ Below w.heap.size w w') ∧
      (∀ w, Calls Try.prog 43 #[.string s] w fun e w' => e = .returned (ipN g r) ∧ Below w.heap.size w w') := by
    by_cases h : Minus s
    · exact ⟨true, _, rest_mns h, fun w => iparse_minus s w h hs, fun w => riparse_minus s w h hs⟩
    · exact ⟨false, s, rfl, fun w => iparse_plus s w h hs, fun w => riparse_plus s w h hs⟩
  obtain ⟨g, r, hm, h1, h2⟩ := key
  by_cases hd : DecS r
  · by_cases hl : pv r r.size < Lim
    · by_cases hz : g = true ∧ pv r r.size = 0
      · obtain ⟨rfl, hz⟩ := hz
        rw [ipN_zero hd hl hz, Z_zero] at h1 h2
        exact ⟨_, _, 4, by omega, h1, h2, .inr (by decide)⟩
      · rw [ipN_ok hd hl hz] at h1 h2
        refine ⟨_, _, 0, by omega, h1, h2, .inl ⟨rfl, fun w => ?_⟩⟩
        have := text_sg g _ w hl hz
        rwa [T_inv hd, hm] at this
    · rw [ipN_long hd hl, Z_zero] at h1 h2
      exact ⟨_, _, 5, by omega, h1, h2, .inr (by decide)⟩
  · rw [ipN_bad hd, Z_zero] at h1 h2
    exact ⟨_, _, 4, by omega, h1, h2, .inr (by decide)⟩

set_option maxHeartbeats 4000000 in
set_option maxRecDepth 20000 in
theorem itexts_yes (g1 : Bool) (s1 : ByteArray) (w : World) (hf : s1.size ≤ 140) (h : IVal g1 s1) :
    Calls Try.prog 7 #[.agg #[.bool g1, .string s1]] w fun e w' => e = .returned (.bool true) ∧ Below w.heap.size w w' := by
  have H1 := Lib.hid (fun w => itext_yes g1 s1 w h)
  have R1 := Lib.hid (fun w => ritext_yes g1 s1 w h)
  have H2 := Lib.hid (fun w => parse_text g1 s1 w h)
  clear h
  obtain ⟨x, hx⟩ : ∃ x, x = mns g1 (T (V s1)) := ⟨_, rfl⟩
  rw [← hx] at H1 R1 H2
  clear hx
  have k := Below.refl w.heap.size w
  have A := Two.new w (.bool g1) (.string s1) 24 (w.heap.size) (by first | (simp; done) | (simp; omega) | omega)
  have k := k.alloc (by first | (simp; done) | (simp; omega) | omega) (.cells #[.bool g1, .string s1] 24)
  have hst := ints1 (w.alloc (.cells #[.bool g1, .string s1] 24)) g1 s1 24 (w.heap.size + 1) (by first | (simp; done) | (simp; omega) | omega)
  have HST := Lib.hid hst; clear hst
  have A := A.alloc (.cells #[.bool g1, .string s1] 24)
  have k := k.alloc (by first | (simp; done) | (simp; omega) | omega) (.cells #[.bool g1, .string s1] 24)
  go_enter Try.func7, Try.ntmps7
  go_wp2_with fail
  refine (long_no _ 1 _ _ (by omega) HST.out (fun _ _ => hf)).mono ?_; rintro e wx ⟨rfl, rfl⟩
  have q1a := A.1
  have q1b := A.2.1
  go_wp2_with fail
  refine (H1.out _).mono ?_; rintro e w1 ⟨rfl, b1⟩
  clear q1a q1b
  have A := A.below b1 rfl
  have lA := A.2.2.2.2
  have k := bnextW k b1 (by first | (simp; done) | (simp; omega) | omega)
  have z1 := k.size
  have q2a := A.1
  have q2b := A.2.1
  go_wp2_with fail
  refine (R1.out _).mono ?_; rintro e w2 ⟨rfl, b2⟩
  clear q2a q2b
  have A := A.below b2 rfl
  have lA := A.2.2.2.2
  have k := bnextW k b2 (by first | (simp; done) | (simp; omega) | omega)
  have z2 := k.size
  go_wp2_with fail
  refine (H2.out _).mono ?_; rintro e w3 ⟨rfl, b3⟩
  have A := A.below b3 rfl
  have lA := A.2.2.2.2
  have k := bnextW k b3 (by first | (simp; done) | (simp; omega) | omega)
  have z3 := k.size
  have A := A.alloc (.cells #[.bool g1, .string s1] 24)
  have B := Two.new w3 (.bool g1) (.string s1) 24 (w3.heap.size) (by first | (simp; done) | (simp; omega) | omega)
  have k := k.alloc (by first | (simp; done) | (simp; omega) | omega) (.cells #[.bool g1, .string s1] 24)
  go_wp2_with fail
  refine (awake2 _).mono ?_; rintro e w4 ⟨rfl, b4⟩
  have A := A.below b4 rfl
  have B := B.below b4 rfl
  have lA := A.2.2.2.2
  have lB := B.2.2.2.2
  have k := bnextW k b4 (by first | (simp; done) | (simp; omega) | omega)
  have z4 := k.size
  have q3a := A.1
  have q3b := A.2.1
  have q4a := B.1
  have q4b := B.2.1
  go_wp2
  go_ret
  exact ⟨rfl, k⟩

set_option maxHeartbeats 4000000 in
set_option maxRecDepth 20000 in
theorem itexts_no (g1 : Bool) (s1 : ByteArray) (w : World) (hf : s1.size ≤ 140) (h : ¬ IVal g1 s1) :
    Calls Try.prog 7 #[.agg #[.bool g1, .string s1]] w fun e w' => e = .returned (.bool true) ∧ Below w.heap.size w w' := by
  have HI := Lib.hid h; clear h
  have k := Below.refl w.heap.size w
  have A := Two.new w (.bool g1) (.string s1) 24 (w.heap.size) (by first | (simp; done) | (simp; omega) | omega)
  have k := k.alloc (by first | (simp; done) | (simp; omega) | omega) (.cells #[.bool g1, .string s1] 24)
  have hst := ints1 (w.alloc (.cells #[.bool g1, .string s1] 24)) g1 s1 24 (w.heap.size + 1) (by first | (simp; done) | (simp; omega) | omega)
  have HST := Lib.hid hst; clear hst
  have A := A.alloc (.cells #[.bool g1, .string s1] 24)
  have k := k.alloc (by first | (simp; done) | (simp; omega) | omega) (.cells #[.bool g1, .string s1] 24)
  go_enter Try.func7, Try.ntmps7
  go_wp2_with fail
  refine (long_no _ 1 _ _ (by omega) HST.out (fun _ _ => hf)).mono ?_; rintro e wx ⟨rfl, rfl⟩
  have q1a := A.1
  have q1b := A.2.1
  go_wp2_with fail
  refine (itext_no _ _ _ HI.out).mono ?_; rintro e w1 ⟨rfl, b1⟩
  clear q1a q1b
  have A := A.below b1 rfl
  have lA := A.2.2.2.2
  have k := bnextW k b1 (by first | (simp; done) | (simp; omega) | omega)
  have z1 := k.size
  have q2a := A.1
  have q2b := A.2.1
  go_wp2_with fail
  refine (ritext_no _ _ _ HI.out).mono ?_; rintro e w2 ⟨rfl, b2⟩
  clear q2a q2b
  have A := A.below b2 rfl
  have lA := A.2.2.2.2
  have k := bnextW k b2 (by first | (simp; done) | (simp; omega) | omega)
  have z2 := k.size
  go_wp2_with fail
  refine (awake2 _).mono ?_; rintro e w3 ⟨rfl, b3⟩
  have A := A.below b3 rfl
  have lA := A.2.2.2.2
  have k := bnextW k b3 (by first | (simp; done) | (simp; omega) | omega)
  have z3 := k.size
  go_wp2
  go_ret
  exact ⟨rfl, k⟩

set_option maxHeartbeats 4000000 in
set_option maxRecDepth 20000 in
theorem itexts_skip (g1 : Bool) (s1 : ByteArray) (w : World) (hm : s1.size ≤ 9223372036854775807) (hf : ¬ s1.size ≤ 140) :
    Calls Try.prog 7 #[.agg #[.bool g1, .string s1]] w fun e w' => e = .returned (.bool true) ∧ Below w.heap.size w w' := by
  have k := Below.refl w.heap.size w
  have A := Two.new w (.bool g1) (.string s1) 24 (w.heap.size) (by first | (simp; done) | (simp; omega) | omega)
  have k := k.alloc (by first | (simp; done) | (simp; omega) | omega) (.cells #[.bool g1, .string s1] 24)
  have hst := ints1 (w.alloc (.cells #[.bool g1, .string s1] 24)) g1 s1 24 (w.heap.size + 1) (by first | (simp; done) | (simp; omega) | omega)
  have HST := Lib.hid hst; clear hst
  have A := A.alloc (.cells #[.bool g1, .string s1] 24)
  have k := k.alloc (by first | (simp; done) | (simp; omega) | omega) (.cells #[.bool g1, .string s1] 24)
  go_enter Try.func7, Try.ntmps7
  go_wp2_with fail
  refine (long_yes _ 1 _ _ (by omega) HST.out (fun _ _ => by omega) (fun q => hf (q 0 (by omega)))).mono ?_; rintro e wx ⟨rfl, rfl⟩
  go_wp2_with fail
  refine (awake2 _).mono ?_; rintro e w1 ⟨rfl, b1⟩
  have A := A.below b1 rfl
  have lA := A.2.2.2.2
  have k := bnextW k b1 (by first | (simp; done) | (simp; omega) | omega)
  have z1 := k.size
  go_wp2
  go_ret
  exact ⟨rfl, k⟩

theorem law_IntegerTexts (g1 : Bool) (s1 : ByteArray) (l1 : s1.size ≤ maxLen) (w : World) :
    Calls Try.prog 7 #[.agg #[.bool g1, .string s1]] w fun e w' => e = .returned (.bool true) ∧ Below w.heap.size w w' := by
  unfold maxLen at l1
  by_cases hf : s1.size ≤ 140
  · by_cases h : IVal g1 s1
    · exact itexts_yes g1 s1 w hf h
    · exact itexts_no g1 s1 w hf h
  · exact itexts_skip g1 s1 w (by omega) hf

set_option maxHeartbeats 4000000 in
set_option maxRecDepth 20000 in
theorem iparses_yes (s S : ByteArray) (G : Bool) (v : Int) (w : World) (hf : s.size ≤ 400)
    (h1 : ∀ w, Calls Try.prog 42 #[.string s] w fun e w' => e = .returned (.tuple #[.agg #[.bool G, .string S], .int .i64 v]) ∧ Below w.heap.size w w')
    (r1 : ∀ w, Calls Try.prog 43 #[.string s] w fun e w' => e = .returned (.tuple #[.agg #[.bool G, .string S], .int .i64 v]) ∧ Below w.heap.size w w')
    (h2 : ∀ w, Calls Try.prog 40 #[.agg #[.bool G, .string S]] w fun e w' => e = .returned (.tuple #[.string s, .int .i64 0]) ∧ Below w.heap.size w w') (hv : v = 0) :
    Calls Try.prog 8 #[.string s] w fun e w' => e = .returned (.bool true) ∧ Below w.heap.size w w' := by
  subst hv
  have hf' : (s.size : Int) ≤ 400 := by omega
  have H1 := Lib.hid h1; clear h1
  have R1 := Lib.hid r1; clear r1
  have H2 := Lib.hid h2; clear h2
  have k := Below.refl w.heap.size w
  go_enter Try.func8, Try.ntmps8
  go_wp2_with fail
  refine (H1.out _).mono ?_; rintro e w1 ⟨rfl, b1⟩
  have k := bnextW k b1 (by first | (simp; done) | (simp; omega) | omega)
  have z1 := k.size
  have A := Two.new w1 (.bool G) (.string S) 24 (w1.heap.size) (by first | (simp; done) | (simp; omega) | omega)
  have k := k.alloc (by first | (simp; done) | (simp; omega) | omega) (.cells #[.bool G, .string S] 24)
  go_wp2_with fail
  refine (R1.out _).mono ?_; rintro e w2 ⟨rfl, b2⟩
  have A := A.below b2 rfl
  have lA := A.2.2.2.2
  have k := bnextW k b2 (by first | (simp; done) | (simp; omega) | omega)
  have z2 := k.size
  have A := A.alloc (.cells #[.bool G, .string S] 24)
  have B := Two.new w2 (.bool G) (.string S) 24 (w2.heap.size) (by first | (simp; done) | (simp; omega) | omega)
  have k := k.alloc (by first | (simp; done) | (simp; omega) | omega) (.cells #[.bool G, .string S] 24)
  have q1a := A.1
  have q1b := A.2.1
  have q2a := B.1
  have q2b := B.2.1
  go_wp2_with fail
  refine (H2.out _).mono ?_; rintro e w3 ⟨rfl, b3⟩
  clear q1a q1b q2a q2b
  have A := A.below b3 rfl
  have B := B.below b3 rfl
  have lA := A.2.2.2.2
  have lB := B.2.2.2.2
  have k := bnextW k b3 (by first | (simp; done) | (simp; omega) | omega)
  have z3 := k.size
  go_wp2_with fail
  refine (awake2 _).mono ?_; rintro e w4 ⟨rfl, b4⟩
  have A := A.below b4 rfl
  have B := B.below b4 rfl
  have lA := A.2.2.2.2
  have lB := B.2.2.2.2
  have k := bnextW k b4 (by first | (simp; done) | (simp; omega) | omega)
  have z4 := k.size
  go_wp2
  go_ret
  exact ⟨rfl, k⟩

set_option maxHeartbeats 4000000 in
set_option maxRecDepth 20000 in
theorem iparses_err (s S : ByteArray) (G : Bool) (v : Int) (w : World) (hf : s.size ≤ 400)
    (h1 : ∀ w, Calls Try.prog 42 #[.string s] w fun e w' => e = .returned (.tuple #[.agg #[.bool G, .string S], .int .i64 v]) ∧ Below w.heap.size w w')
    (r1 : ∀ w, Calls Try.prog 43 #[.string s] w fun e w' => e = .returned (.tuple #[.agg #[.bool G, .string S], .int .i64 v]) ∧ Below w.heap.size w w') (hv : ¬ v = 0) (hv1 : 0 ≤ v) (hv2 : v ≤ 100) :
    Calls Try.prog 8 #[.string s] w fun e w' => e = .returned (.bool true) ∧ Below w.heap.size w w' := by
  have hf' : (s.size : Int) ≤ 400 := by omega
  have H1 := Lib.hid h1; clear h1
  have R1 := Lib.hid r1; clear r1
  have k := Below.refl w.heap.size w
  go_enter Try.func8, Try.ntmps8
  go_wp2_with fail
  refine (H1.out _).mono ?_; rintro e w1 ⟨rfl, b1⟩
  have k := bnextW k b1 (by first | (simp; done) | (simp; omega) | omega)
  have z1 := k.size
  have A := Two.new w1 (.bool G) (.string S) 24 (w1.heap.size) (by first | (simp; done) | (simp; omega) | omega)
  have k := k.alloc (by first | (simp; done) | (simp; omega) | omega) (.cells #[.bool G, .string S] 24)
  go_wp2_with fail
  refine (R1.out _).mono ?_; rintro e w2 ⟨rfl, b2⟩
  have A := A.below b2 rfl
  have lA := A.2.2.2.2
  have k := bnextW k b2 (by first | (simp; done) | (simp; omega) | omega)
  have z2 := k.size
  have A := A.alloc (.cells #[.bool G, .string S] 24)
  have B := Two.new w2 (.bool G) (.string S) 24 (w2.heap.size) (by first | (simp; done) | (simp; omega) | omega)
  have k := k.alloc (by first | (simp; done) | (simp; omega) | omega) (.cells #[.bool G, .string S] 24)
  have q1a := A.1
  have q1b := A.2.1
  have q2a := B.1
  have q2b := B.2.1
  go_wp2_with fail
  refine (awake2 _).mono ?_; rintro e w3 ⟨rfl, b3⟩
  clear q1a q1b q2a q2b
  have A := A.below b3 rfl
  have B := B.below b3 rfl
  have lA := A.2.2.2.2
  have lB := B.2.2.2.2
  have k := bnextW k b3 (by first | (simp; done) | (simp; omega) | omega)
  have z3 := k.size
  go_wp2
  go_ret
  exact ⟨rfl, k⟩

set_option maxHeartbeats 4000000 in
set_option maxRecDepth 20000 in
theorem iparses_skip (s S : ByteArray) (G : Bool) (v : Int) (w : World) (hm : s.size ≤ 9223372036854775807) (hf : ¬ s.size ≤ 400) :
    Calls Try.prog 8 #[.string s] w fun e w' => e = .returned (.bool true) ∧ Below w.heap.size w w' := by
  have hf' : ¬ (s.size : Int) ≤ 400 := by omega
  have k := Below.refl w.heap.size w
  go_enter Try.func8, Try.ntmps8
  go_wp2_with fail
  refine (awake2 _).mono ?_; rintro e w1 ⟨rfl, b1⟩
  have k := bnextW k b1 (by first | (simp; done) | (simp; omega) | omega)
  have z1 := k.size
  go_wp2
  go_ret
  exact ⟨rfl, k⟩

theorem law_IntegerParses (s : ByteArray) (l1 : s.size ≤ maxLen) (w : World) :
    Calls Try.prog 8 #[.string s] w fun e w' => e = .returned (.bool true) ∧ Below w.heap.size w w' := by
  unfold maxLen at l1
  by_cases hf : s.size ≤ 400
  · obtain ⟨G, S, v, hl, h1, r1, hv⟩ := iparse_agree s (by omega)
    rcases hv with ⟨rfl, h2⟩ | hv
    · exact iparses_yes s S G _ w hf h1 r1 h2 rfl
    · exact iparses_err s S G v w hf h1 r1 hv (by omega) (by omega)
  · exact iparses_skip s s false 0 w (by omega) hf
end Go.Proofs.Ytamgklgjhjociaa
