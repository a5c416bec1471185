/-
  Contracts of package natural, the seventh part: divideByDigit, shiftLeft, shiftRight.
-/
import Derived.Test.YtjbcicgbemepbaaDoorNat6
namespace Go.Proofs.YtjbcicgbemepbaaDoor
open Go.RowKit
set_option linter.unusedVariables false

theorem hi_step (n j : Nat) : n / B32 ^ j = n / B32 ^ (j + 1) * B32 + wd n j := by
  unfold wd
  rw [Nat.pow_succ, ← Nat.div_div_eq_div_mul]
  have := Nat.div_add_mod (n / B32 ^ j) B32
  rw [Nat.mul_comm] at this
  exact this.symm
/-- One step of the division by a digit. -/
theorem digit_step (n j dg : Nat) (hd : 0 < dg) (hd2 : dg < 4294967296) :
    (n / B32 ^ (j + 1) % dg * 4294967296 + wd n j) / dg = wd (n / dg) j ∧ (n / B32 ^ (j + 1) % dg * 4294967296 + wd n j) % dg = n / B32 ^ j % dg := by
  have hB : (4294967296 : Nat) = B32 := rfl
  have hw : wd n j < B32 := wd_lt n j
  rw [hB] at *
  have h1 := hi_step n j
  have hq := Nat.div_add_mod (n / B32 ^ (j + 1)) dg
  generalize n / B32 ^ (j + 1) = m at *
  have hr := Nat.mod_lt m hd
  have hm : m * B32 + wd n j = dg * (m / dg * B32) + (m % dg * B32 + wd n j) := by
    conv => lhs; rw [← hq]
    rw [Nat.add_mul, Nat.mul_assoc]; omega
  constructor
  · have e : wd (n / dg) j = n / B32 ^ j / dg % B32 := by
      unfold wd; rw [Nat.div_div_eq_div_mul, Nat.div_div_eq_div_mul, Nat.mul_comm]
    have hlt : (m % dg * B32 + wd n j) / dg < B32 := by
      apply Nat.div_lt_of_lt_mul
      have := Nat.mul_le_mul_right B32 (show m % dg + 1 ≤ dg from hr)
      rw [Nat.add_mul] at this; omega
    rw [e, h1, hm, Nat.mul_add_div hd, Nat.mul_comm (m / dg), Nat.mul_add_mod, Nat.mod_eq_of_lt hlt]
  · rw [h1, hm, Nat.mul_add_mod]

theorem u64_shl_or (r a : Nat) (h : r < 4294967296) (ha : a < 4294967296) : bits .or .u64 ((r : Int) * 4294967296) (a : Int) = ((r * 4294967296 + a : Nat) : Int) := by
  have h1 := u64_or_nat (r * 4294967296) a (by omega) (by omega)
  rw [show (4294967296 : Nat) = 2 ^ 32 from rfl, or_add 32 r a (by omega)] at h1
  simpa using h1

/-- Block g has L cells, the first n of which are the digits of N. -/
def Row (w : World) (g tt L n N : Nat) : Prop := ∃ f : Nat → Nat, w.rowIs g tt L (fun j => .int .u32 (f j : Nat)) ∧ ∀ j, j < n → f j = wd N j
theorem Row.words {w : World} {g tt L n N : Nat} (h : Row w g tt L n N) (hn : n ≤ L) : Words w g 0 n N := by
  obtain ⟨f, hr, hf⟩ := h
  intro j hj
  rw [Nat.zero_add, hr.cell (by omega), hf j hj]
theorem Row.lt {w : World} {g tt L n N : Nat} (h : Row w g tt L n N) : g < w.heap.size := by
  obtain ⟨f, hr, hf⟩ := h; exact hr.lt
theorem Row.of {w : World} {g tt L n N : Nat} (h : w.rowIs g tt L (fun j => .int .u32 (wd N j : Nat))) : Row w g tt L n N := ⟨_, h, fun _ _ => rfl⟩
/-- The digits below place a are those of N, the ones from there to n those of Q. -/
def Split (w : World) (g tt L n a N Q : Nat) : Prop := ∃ f : Nat → Nat, w.rowIs g tt L (fun j => .int .u32 (f j : Nat)) ∧ (∀ j, j < a → f j = wd N j) ∧ ∀ j, a ≤ j → j < n → f j = wd Q j
theorem Split.step {w : World} {g tt L n a N Q : Nat} {v : Int} (h : Split w g tt L n (a + 1) N Q) (hv : v = (wd Q a : Nat)) (ha : a < n) :
    Split (w.setCell ⟨g, a, none⟩ (.int .u32 v)) g tt L n a N Q := by
  obtain ⟨f, hr, h1, h2⟩ := h
  refine ⟨fun j => if j = a then wd Q a else f j, set_row (h := fun j => if j = a then wd Q a else f j) hr (by rw [hv]; simp) (fun j hj => by simp [hj]), fun j hj => ?_, fun j h3 h4 => ?_⟩
  · show (if j = a then _ else _) = _
    rw [if_neg (by omega)]; exact h1 j (by omega)
  · show (if j = a then _ else _) = _
    by_cases e : j = a
    · rw [if_pos e, e]
    · rw [if_neg e]; exact h2 j (by omega) h4

set_option maxHeartbeats 400000 in
set_option maxRecDepth 20000 in
theorem divideByDigit_any (g n c dg L tt N : Nat) (w : World) (hn : n ≤ c) (hc : c ≤ 1000) (hL : n ≤ L) (hd0 : 0 < dg) (hd : dg < 4294967296)
    (hrow : Row w g tt L n N) (hN : N < B32 ^ n) :
    Calls Tryd.prog 38 #[.slice (some ⟨g, 0, none⟩) n c, .int .u32 dg] w fun e w' => e = .returned (.int .u32 (N % dg : Nat)) ∧ Row w' g tt L n (N / dg) ∧ Only g w w' := by
  have hsp : Split w g tt L n (n - 0) N (N / dg) := by
    obtain ⟨f, h1, h2⟩ := hrow
    exact ⟨f, h1, fun j hj => h2 j (by omega), fun j h3 h4 => by omega⟩
  have HR0 := Lib.hid hsp; clear hrow hsp
  have HN := Lib.hid hN; clear hN
  have hnz : ((dg : Int) == 0) = false := by rw [beq_eq_false_iff_ne]; omega
  go_enter Tryd.func38, Tryd.ntmps38
  go_wp2
  go_loopw [5, 6, 7, 10] (fun r _ _ v wr => ∃ k : Nat, k ≤ n ∧ v = .int .i64 k ∧ r = .int .u64 (N / B32 ^ (n - k) % dg : Nat) ∧ Split wr g tt L n (n - k) N (N / dg) ∧ Only g w wr) (fun _ _ _ v _ => n - (intOf v).toNat)
  case atStart => exact ⟨0, by omega, rfl, by rw [Nat.sub_zero, Nat.div_eq_of_lt HN.out]; rw [Nat.zero_mod]; rfl, HR0.out, Only.refl _ _⟩
  case round =>
    obtain ⟨k, hk, rfl, rfl, hsp, ho⟩ := hrel
    by_cases hlt : k < n
    · obtain ⟨j, hj⟩ : ∃ j, n - k = j + 1 := ⟨n - k - 1, by omega⟩
      have hjn : j = n - 1 - k := by omega
      rw [hj] at hsp ⊢
      have hcell : wr.cell? ⟨g, n - 1 - k, none⟩ = some (.int .u32 (wd N j : Nat)) := by
        obtain ⟨f, h1, h2, _⟩ := hsp
        rw [h1.cell (i := n - 1 - k) (by omega), ← hjn, h2 j (by omega)]
      have hfr : wr.frozen? ⟨g, n - 1 - k, none⟩ = false := by
        obtain ⟨f, h1, _⟩ := hsp
        exact h1.frozen _
      have hst := digit_step N j dg hd0 hd
      have hwl := wd_lt N j
      have hrl : N / B32 ^ (j + 1) % dg < 4294967296 := Nat.lt_of_lt_of_le (Nat.mod_lt _ hd0) (by omega)
      have hql : wd (N / dg) j < 4294967296 := wd_lt _ _
      obtain ⟨r, hr⟩ : ∃ r, r = N / B32 ^ (j + 1) % dg := ⟨_, rfl⟩
      rw [← hr] at hst hrl ⊢
      obtain ⟨x, hx⟩ : ∃ x, x = wd N j := ⟨_, rfl⟩
      rw [← hx] at hst hwl hcell
      have hor := u64_shl_or r x hrl hwl
      have HST := Lib.hid hst; clear hst
      have HR := Lib.hid hsp; clear hsp
      have HJ := Lib.hid hj; clear hj
      have HJN := Lib.hid hjn; clear hjn
      have HRE := Lib.hid hr; clear hr
      have HXE := Lib.hid hx; clear hx
      go_wp2
      have hst := HST.out
      have hj1 : n - (k + 1) = j := by have := HJ.out; omega
      go_roundw
      case rel =>
        refine ⟨k + 1, by omega, by go_num, int_eq ?_, ?_, ho.set _ _⟩
        · rw [hj1, ← hst.2]; simp
        · rw [hj1]
          have e := HR.out.step (v := ((r : Int) * 4294967296 + (x : Int)) / (dg : Int) % 4294967296) (by
            rw [← hst.1]
            have h5 : (((r * 4294967296 + x) / dg : Nat) : Int) = ((r : Int) * 4294967296 + (x : Int)) / (dg : Int) := by simp
            have h6 : (r * 4294967296 + x) / dg < 4294967296 := by rw [hst.1]; exact hql
            omega) (by omega)
          rw [HJN.out] at e ⊢
          exact e
      case measure => simp [intOf]; omega
    · obtain rfl : k = n := by omega
      have hm : N / B32 ^ (k - k) % dg < 4294967296 := Nat.lt_of_lt_of_le (Nat.mod_lt _ hd0) (by omega)
      have he : N / B32 ^ (k - k) % dg = N % dg := by simp
      rw [he] at hm ⊢
      have HSP := Lib.hid hsp; clear hsp he
      go_wp2
      go_ret
      refine ⟨rfl, ?_, ho⟩
      obtain ⟨f, h1, _, h3⟩ := HSP.out
      exact ⟨f, h1, fun j hj => h3 j (by omega) hj⟩

/-! ### shiftLeft -/
/-- One step: the digits of (N mod B^i) 2^s. -/
theorem shl_step (n i s : Nat) (hs : s < 32) :
    wd (lowW n i * 2 ^ s) i < 2 ^ s ∧ wd (lowW n (i + 1) * 2 ^ s) i = (wd n i * 2 ^ s % 4294967296) + wd (lowW n i * 2 ^ s) i ∧ (wd n i * 2 ^ s % 4294967296) % 2 ^ s = 0 ∧
      wd (lowW n (i + 1) * 2 ^ s) (i + 1) = wd n i * 2 ^ s / 4294967296 ∧ (∀ j, j < i → wd (lowW n (i + 1) * 2 ^ s) j = wd (lowW n i * 2 ^ s) j) ∧ (∀ j, i + 1 < j → wd (lowW n (i + 1) * 2 ^ s) j = wd (lowW n i * 2 ^ s) j) := by
  have hB : (4294967296 : Nat) = B32 := rfl
  have hS : 0 < 2 ^ s := Nat.pow_pos (by omega)
  have hSB : 2 ^ s * 2 ^ (32 - s) = B32 := by rw [← Nat.pow_add, show s + (32 - s) = 32 by omega]; rfl
  have h2 : 2 ≤ 2 ^ (32 - s) := by
    have : 2 ^ 1 ≤ 2 ^ (32 - s) := Nat.pow_le_pow_right (by omega) (by omega)
    simpa using this
  rw [hB]
  have hl := lowW_lt n i
  have hd : wd n i < B32 := wd_lt n i
  have hsucc := lowW_succ n i
  have hp := b32_pos i
  generalize 2 ^ s = S at *
  generalize 2 ^ (32 - s) = T at *
  have hlS : lowW n i * S / B32 ^ i < S := Nat.div_lt_of_lt_mul (Nat.mul_lt_mul_of_pos_right hl hS)
  have hSle : S ≤ B32 := by rw [← hSB]; exact Nat.le_mul_of_pos_right _ (by omega)
  have hw : wd (lowW n i * S) i = lowW n i * S / B32 ^ i := by unfold wd; rw [Nat.mod_eq_of_lt (by omega)]
  have hnew : lowW n (i + 1) * S = lowW n i * S + wd n i * S * B32 ^ i := by rw [hsucc, Nat.add_mul, Nat.mul_right_comm]
  have hdiv : lowW n (i + 1) * S / B32 ^ i = wd n i * S + lowW n i * S / B32 ^ i := by rw [hnew, add_high, Nat.add_comm]
  have hmul : wd n i * S % B32 % S = 0 := by rw [← hSB, Nat.mod_mul_right_mod, Nat.mul_mod_left]
  have hle : wd n i * S % B32 + S ≤ B32 := by
    have hlt : wd n i * S % B32 < B32 := Nat.mod_lt _ (by decide)
    obtain ⟨q, hq⟩ := Nat.dvd_of_mod_eq_zero hmul
    rw [hq] at hlt ⊢
    rw [← hSB] at hlt ⊢
    have : q < T := Nat.lt_of_mul_lt_mul_left hlt
    rw [← Nat.mul_succ]
    exact Nat.mul_le_mul_left _ this
  have hdm := Nat.div_add_mod (wd n i * S) B32
  refine ⟨by rw [hw]; exact hlS, ?_, hmul, ?_, ?_, ?_⟩
  · rw [hw]
    unfold wd
    rw [hdiv]
    unfold wd at hdm hle ⊢
    conv => lhs; rw [← hdm]
    rw [Nat.add_assoc, Nat.mul_add_mod, Nat.mod_eq_of_lt (by omega)]
  · have : lowW n (i + 1) * S / B32 ^ (i + 1) = wd n i * S / B32 := by
      rw [Nat.pow_succ, ← Nat.div_div_eq_div_mul, hdiv]
      have hz : (wd n i * S % B32 + lowW n i * S / B32 ^ i) / B32 = 0 := Nat.div_eq_of_lt (by omega)
      conv => lhs; rw [← hdm]
      rw [Nat.add_assoc, Nat.mul_add_div (by decide), hz, Nat.add_zero]
    show lowW n (i + 1) * S / B32 ^ (i + 1) % B32 = _
    rw [this]
    apply Nat.mod_eq_of_lt
    apply Nat.div_lt_of_lt_mul
    exact Nat.lt_of_lt_of_le (Nat.mul_lt_mul_of_pos_right hd hS) (Nat.mul_le_mul_left _ hSle)
  · intro j hj
    rw [hnew, wd_add_low _ _ _ _ hj]
  · intro j hj
    have h1 : lowW n (i + 1) * S < B32 ^ j := by
      have := Nat.mul_lt_mul'' (lowW_lt n (i + 1)) (Nat.lt_succ_of_le hSle)
      have h3 : lowW n (i + 1) * S < B32 ^ (i + 1) * B32 := Nat.lt_of_lt_of_le (Nat.mul_lt_mul_of_pos_right (lowW_lt n (i + 1)) hS) (Nat.mul_le_mul_left _ hSle)
      rw [← Nat.pow_succ] at h3
      exact Nat.lt_of_lt_of_le h3 (Nat.pow_le_pow_right (by decide) (by omega))
    have h2 : lowW n i * S < B32 ^ j := Nat.lt_of_le_of_lt (by rw [hnew]; omega) h1
    unfold wd
    rw [Nat.div_eq_of_lt h1, Nat.div_eq_of_lt h2]

theorem shl_pow_lt (n m s : Nat) (hn : n < B32 ^ m) (hs : s < 32) : n * 2 ^ s < B32 ^ (m + 1) := by
  rw [Nat.pow_succ]
  have : 2 ^ s < B32 := by rw [show B32 = 2 ^ 32 from rfl]; exact Nat.pow_lt_pow_right (by omega) hs
  exact Nat.mul_lt_mul'' hn this
theorem low_eq_self {n m : Nat} (h : n < B32 ^ m) : lowW n m = n := Nat.mod_eq_of_lt h
theorem u32_or_add (s a b : Nat) (hs : s < 32) (ha : a < 4294967296) (hm : a % 2 ^ s = 0) (hb : b < 2 ^ s) : bits .or .u32 (b : Int) (a : Int) = ((a + b : Nat) : Int) := by
  have hb2 : b < 4294967296 := Nat.lt_of_lt_of_le hb (by
    have : 2 ^ s ≤ 2 ^ 32 := Nat.pow_le_pow_right (by omega) (by omega)
    simpa using this)
  rw [u32_or_nat _ _ hb2 ha, Nat.or_comm]
  obtain ⟨q, rfl⟩ := Nat.dvd_of_mod_eq_zero hm
  rw [Nat.mul_comm, or_add s q b hb]

set_option maxHeartbeats 400000 in
set_option maxRecDepth 20000 in
theorem shiftLeft_any (g o n c s N : Nat) (w : World) (hn : n ≤ c) (hc : c ≤ 1000) (hs : s < 32) (hg : g < w.heap.size) (hw : Words w g o n N) (hN : N < B32 ^ n) :
    Calls Tryd.prog 52 #[.slice (some ⟨g, o, none⟩) n c, .int .i64 s] w fun e w' => e = .returned (.slice (some ⟨w.heap.size, 0, none⟩) (n + 1) (n + 1)) ∧
      w'.rowIs w.heap.size 49 (n + 1) (fun j => .int .u32 (wd (N * 2 ^ s) j : Nat)) ∧ Below w.heap.size w w' := by
  have hmk := run_make_words1 n (by omega)
  have HW := Lib.hid hw; clear hw
  have HN := Lib.hid hN; clear hN
  obtain ⟨S, hS⟩ : ∃ S, S = 2 ^ s := ⟨_, rfl⟩
  have hS2 : (2 : Int) ^ s = (S : Int) := by rw [hS]; simp
  have hS0 : 0 < S := by rw [hS]; exact Nat.pow_pos (by omega)
  have hSl : S ≤ 2147483648 := by
    rw [hS]
    have : 2 ^ s ≤ 2 ^ 31 := Nat.pow_le_pow_right (by omega) (by omega)
    simpa using this
  have HS := Lib.hid hS; clear hS
  rw [← HS.out]
  go_enter Tryd.func52, Tryd.ntmps52
  go_wp2
  go_loopw [6, 7, 14] (fun _ _ v wr => ∃ k : Nat, k ≤ n ∧ v = .int .i64 k ∧ wr.rowIs w.heap.size 49 (n + 1) (fun j => .int .u32 (wd (lowW N k * S) j : Nat)) ∧ Below w.heap.size w wr) (fun _ _ v _ => n - (intOf v).toNat)
  case atStart => exact ⟨0, by omega, rfl, (World.rowIs_made w (.int .u32 0) (n + 1) _).congr (fun j _ => by rw [lowW_zero, Nat.zero_mul, wd_zero]; rfl), (Below.refl _ _).alloc (Nat.le_refl _) _⟩
  case round =>
    obtain ⟨k, hk, rfl, hrow, hbel⟩ := hrel
    by_cases hlt : k < n
    · have hsrc : wr.cell? ⟨g, o + k, none⟩ = some (.int .u32 (wd N k : Nat)) := (hbel.cell (p := ⟨g, o + k, none⟩) hg).trans (HW.out k hlt)
      have hst := shl_step N k s hs
      rw [← HS.out] at hst
      have hcell := hrow.cell (i := k) (by omega)
      have hcell2 := hrow.cell (i := k + 1) (by omega)
      have hfr := hrow.frozen k
      have hfr2 := hrow.frozen (k + 1)
      have hwl := wd_lt N k
      have hmul : wd N k * S ≤ 9223372034707292160 := Nat.mul_le_mul (show wd N k ≤ 4294967295 by omega) hSl
      have hwl2 := wd_lt (lowW N k * S) k
      obtain ⟨x, hx⟩ : ∃ x, x = wd N k := ⟨_, rfl⟩
      obtain ⟨y, hy⟩ : ∃ y, y = wd (lowW N k * S) k := ⟨_, rfl⟩
      rw [← hx] at hst hwl hsrc hmul
      rw [← hy] at hst hcell hwl2
      have hor := u32_or_add s (x * S % 4294967296) y hs (Nat.mod_lt _ (by omega)) (by rw [← HS.out]; exact hst.2.2.1) (by rw [← HS.out]; exact hst.1)
      have hlo : x * S % 4294967296 + y < 4294967296 := by rw [← hst.2.1]; exact wd_lt _ _
      have HOR := Lib.hid hor; clear hor
      have HST := Lib.hid hst; clear hst
      have HX := Lib.hid hx; clear hx
      have HY := Lib.hid hy; clear hy
      have HR := Lib.hid hrow; clear hrow
      go_wp2
      go_roundw
      case rel =>
        have e := HST.out
        have r1 := set_row (v := bits BinOp.or IntKind.u32 (y : Int) ((x : Int) * (S : Int) % 4294967296)) (h := fun j => if j = k then x * S % 4294967296 + y else wd (lowW N k * S) j) HR.out (i := k) (by
          show _ = ((if k = k then _ else _ : Nat) : Int)
          rw [if_pos rfl, ← HOR.out]; simp) (fun j hj => by show (if j = k then _ else _) = _; rw [if_neg hj])
        have r2 := set_row (v := (x : Int) * (S : Int) / 4294967296) (h := fun j => wd (lowW N (k + 1) * S) j) r1 (i := k + 1) (by
          show _ = ((wd (lowW N (k + 1) * S) (k + 1) : Nat) : Int)
          rw [e.2.2.2.1]; simp) (fun j hj => by
            show wd (lowW N (k + 1) * S) j = if j = k then _ else _
            by_cases h1 : j = k
            · rw [if_pos h1, h1, e.2.1]
            · rw [if_neg h1]
              rcases Nat.lt_or_ge j k with h2 | h2
              · exact e.2.2.2.2.1 j h2
              · exact e.2.2.2.2.2 j (by omega))
        exact ⟨k + 1, by omega, by go_num, r2, (hbel.setCell (Nat.le_refl _) _).setCell (Nat.le_refl _) _⟩
      case measure => simp [intOf]; omega
    · obtain rfl : k = n := by omega
      rw [low_eq_self HN.out] at hrow
      have HR := Lib.hid hrow; clear hrow
      go_wp2
      go_ret
      exact ⟨rfl, HR.out, hbel⟩

/-! ### shiftRight -/
theorem shr_step (n i s : Nat) (hs : s < 32) : (wd n (i + 1) * 4294967296 + wd n i) / 2 ^ s % 4294967296 = wd (n / 2 ^ s) i := by
  have hB : (4294967296 : Nat) = B32 := rfl
  have hS : 0 < 2 ^ s := Nat.pow_pos (by omega)
  have hSB : 2 ^ s * 2 ^ (32 - s) = B32 := by rw [← Nat.pow_add, show s + (32 - s) = 32 by omega]; rfl
  rw [hB]
  have e : wd (n / 2 ^ s) i = n / B32 ^ i / 2 ^ s % B32 := by
    unfold wd; rw [Nat.div_div_eq_div_mul, Nat.div_div_eq_div_mul, Nat.mul_comm]
  rw [e, hi_step n i, hi_step n (i + 1)]
  generalize 2 ^ s = S at *
  generalize 2 ^ (32 - s) = T at *
  have e2 : (n / B32 ^ (i + 1 + 1) * B32 + wd n (i + 1)) * B32 + wd n i = S * (B32 * (T * (n / B32 ^ (i + 1 + 1)))) + (wd n (i + 1) * B32 + wd n i) := by
    rw [Nat.add_mul, Nat.mul_left_comm S B32, ← Nat.mul_assoc S T, hSB, Nat.mul_comm (n / B32 ^ (i + 1 + 1)) B32, Nat.mul_comm _ B32, Nat.add_assoc]
  rw [e2, Nat.mul_add_div hS, Nat.mul_add_mod]

theorem mix_zero {w : World} {g t L Q : Nat} (h : w.rowIs g t L (fun _ => .int .u32 0)) : w.rowIs g t L (fun j => .int .u32 (mix Q 0 0 j : Nat)) :=
  h.congr fun j _ => by unfold mix; rw [if_neg (by omega), wd_zero]; rfl
theorem mix_full {w : World} {g t L Q : Nat} (h : w.rowIs g t L (fun j => .int .u32 (mix Q 0 L j : Nat))) : w.rowIs g t L (fun j => .int .u32 (wd Q j : Nat)) :=
  h.congr fun j hj => by unfold mix; rw [if_pos hj]

set_option maxHeartbeats 400000 in
set_option maxRecDepth 20000 in
theorem shiftRight_any (g o n c s N : Nat) (w : World) (hn : n ≤ c) (hc : c ≤ 1000) (hs : s < 32) (hg : g < w.heap.size) (hw : Words w g o n N) (hN : N < B32 ^ n) :
    Calls Tryd.prog 56 #[.slice (some ⟨g, o, none⟩) n c, .int .i64 s] w fun e w' => e = .returned (.slice (some ⟨w.heap.size, 0, none⟩) n n) ∧
      w'.rowIs w.heap.size 49 n (fun j => .int .u32 (wd (N / 2 ^ s) j : Nat)) ∧ Below w.heap.size w w' := by
  have hmk := run_make_words n (by omega)
  have HW := Lib.hid hw; clear hw
  have HN := Lib.hid hN; clear hN
  obtain ⟨S, hS⟩ : ∃ S, S = 2 ^ s := ⟨_, rfl⟩
  have hS2 : (2 : Int) ^ s = (S : Int) := by rw [hS]; simp
  have hS0 : 0 < S := by rw [hS]; exact Nat.pow_pos (by omega)
  have HS := Lib.hid hS; clear hS
  rw [← HS.out]
  go_enter Tryd.func56, Tryd.ntmps56
  go_wp2
  go_loopw [6, 7, 13] (fun _ _ v wr => ∃ k : Nat, k ≤ n ∧ v = .int .i64 k ∧ wr.rowIs w.heap.size 49 n (fun j => .int .u32 (mix (N / S) 0 k j : Nat)) ∧ Below w.heap.size w wr) (fun _ _ v _ => n - (intOf v).toNat)
  case atStart => exact ⟨0, by omega, rfl, mix_zero (World.rowIs_made w (.int .u32 0) n _), (Below.refl _ _).alloc (Nat.le_refl _) _⟩
  case round =>
    obtain ⟨k, hk, rfl, hrow, hbel⟩ := hrel
    by_cases hlt : k < n
    · have hsrc : wr.cell? ⟨g, o + k, none⟩ = some (.int .u32 (wd N k : Nat)) := (hbel.cell (p := ⟨g, o + k, none⟩) hg).trans (HW.out k hlt)
      have hst := shr_step N k s hs
      rw [← HS.out] at hst
      have hcell := hrow.cell (i := k) hlt
      have hfr := hrow.frozen k
      have hwl := wd_lt N k
      have hwl2 := wd_lt N (k + 1)
      by_cases hl : k + 1 < n
      · have hsrc2 : wr.cell? ⟨g, o + (k + 1), none⟩ = some (.int .u32 (wd N (k + 1) : Nat)) := (hbel.cell (p := ⟨g, o + (k + 1), none⟩) hg).trans (HW.out (k + 1) hl)
        obtain ⟨x, hx⟩ : ∃ x, x = wd N k := ⟨_, rfl⟩
        obtain ⟨y, hy⟩ : ∃ y, y = wd N (k + 1) := ⟨_, rfl⟩
        rw [← hx] at hst hwl hsrc
        rw [← hy] at hst hwl2 hsrc2
        have hor := u64_shl_or y x hwl2 hwl
        have hor2 : bits .or .u64 (x : Int) ((y : Int) * 4294967296) = ((y * 4294967296 + x : Nat) : Int) := by
          have h1 := u64_or_nat x (y * 4294967296) (by omega) (by omega)
          rw [Nat.or_comm, show (4294967296 : Nat) = 2 ^ 32 from rfl, or_add 32 y x (by omega)] at h1
          simpa using h1
        clear hor
        have HST := Lib.hid hst; clear hst
        have HX := Lib.hid hx; clear hx
        have HY := Lib.hid hy; clear hy
        have HR := Lib.hid hrow; clear hrow
        go_wp2
        go_roundw
        case rel => exact ⟨k + 1, by omega, by go_num, mix_step HR.out (by rw [← HST.out]; simp), hbel.setCell (Nat.le_refl _) _⟩
        case measure => simp [intOf]; omega
      · obtain rfl : n = k + 1 := by omega
        have hy : wd N (k + 1) = 0 := by
          unfold wd; rw [Nat.div_eq_of_lt HN.out]; rfl
        rw [hy, Nat.zero_mul, Nat.zero_add] at hst
        obtain ⟨x, hx⟩ : ∃ x, x = wd N k := ⟨_, rfl⟩
        rw [← hx] at hst hwl hsrc
        have HST := Lib.hid hst; clear hst
        have HX := Lib.hid hx; clear hx hy
        have HR := Lib.hid hrow; clear hrow
        go_wp2
        go_roundw
        case rel => exact ⟨k + 1, by omega, by go_num, mix_step HR.out (by rw [← HST.out]; simp), hbel.setCell (Nat.le_refl _) _⟩
        case measure => simp [intOf]
    · obtain rfl : k = n := by omega
      have HR := Lib.hid (mix_full hrow); clear hrow
      go_wp2
      go_ret
      exact ⟨rfl, HR.out, hbel⟩
end Go.Proofs.YtjbcicgbemepbaaDoor
