/-
  Contracts of package natural, the tenth part: divideLong.
-/
import Derived.Test.YtjbcicgbemepbaaDoorNat9
namespace Go.Proofs.YtjbcicgbemepbaaDoor
open Go.RowKit
set_option linter.unusedVariables false

theorem flip_v {P : Program} {f : FuncId} {args : Array Value} {w : World} {v : Ending} (h : Calls P f args w fun e w' => e = v ∧ w' = w) : Calls P f args w fun e w' => e = v ∧ w = w' :=
  h.mono fun _ _ ⟨a, b⟩ => ⟨a, b.symm⟩
/-- Quotient and remainder lie in two slices. -/
def DivP (U D : Nat) (w : World) (e : Ending) (w' : World) : Prop :=
  ∃ v1 v2, e = .returned (.tuple #[v1, v2]) ∧ Sl w' v1 (nd (U / D)) (U / D) ∧ Sl w' v2 (nd (U % D)) (U % D) ∧ Below w.heap.size w w'

theorem norm_shift {D m s : Nat} (hm : 1 ≤ m) (hD : D < B32 ^ m) (ht : wd D (m - 1) ≠ 0) (hs : s = 32 - nbits (wd D (m - 1))) :
    s < 32 ∧ D * 2 ^ s < B32 ^ m ∧ 2147483648 * B32 ^ (m - 1) ≤ D * 2 ^ s := by
  obtain ⟨k, rfl⟩ : ∃ k, m = k + 1 := ⟨m - 1, by omega⟩
  rw [Nat.add_sub_cancel] at *
  have hb := wd_lt D k
  have e0 : D / B32 ^ (k + 1) = 0 := Nat.div_eq_of_lt hD
  have e1 := hi_step D k
  rw [e0, Nat.zero_mul, Nat.zero_add] at e1
  generalize wd D k = t at *
  have hp := b32_pos k
  have dm := Nat.div_add_mod D (B32 ^ k)
  have ml := Nat.mod_lt D hp
  rw [e1] at dm
  generalize D % B32 ^ k = u at dm ml
  have hl : nbits t = Nat.log2 t + 1 := by unfold nbits; rw [if_neg ht]
  have l1 : 2 ^ Nat.log2 t ≤ t := (Nat.le_log2 ht).1 (Nat.le_refl _)
  have l2 : t < 2 ^ (Nat.log2 t + 1) := (Nat.log2_lt ht).1 (by omega)
  have l3 : Nat.log2 t < 32 := (Nat.log2_lt ht).2 hb
  have hs2 : Nat.log2 t + s = 31 := by omega
  have p31 : 2 ^ Nat.log2 t * 2 ^ s = 2147483648 := by rw [← Nat.pow_add, hs2]
  refine ⟨by omega, ?_, ?_⟩
  · have h1 : D < 2 ^ (Nat.log2 t + 1) * B32 ^ k := by
      have := Nat.mul_le_mul_right (B32 ^ k) (show t + 1 ≤ 2 ^ (Nat.log2 t + 1) from l2)
      rw [Nat.add_mul, Nat.one_mul, Nat.mul_comm t] at this
      omega
    have h2 := Nat.mul_lt_mul_of_pos_right h1 (Nat.pow_pos (n := s) (show 0 < 2 by omega))
    have h3 : 2 ^ (Nat.log2 t + 1) * B32 ^ k * 2 ^ s = B32 ^ (k + 1) := by
      rw [Nat.mul_right_comm, Nat.pow_succ, Nat.mul_right_comm (2 ^ Nat.log2 t), p31, Nat.pow_succ, Nat.mul_comm (B32 ^ k)]; rfl
    rw [h3] at h2; exact h2
  · have h1 : 2 ^ Nat.log2 t * B32 ^ k ≤ D := by
      have := Nat.mul_le_mul_right (B32 ^ k) l1
      rw [Nat.mul_comm t] at this
      exact Nat.le_trans this (by omega)
    have h2 := Nat.mul_le_mul_right (2 ^ s) h1
    rw [Nat.mul_right_comm, p31] at h2
    exact h2
theorem norm_top {D m : Nat} (hm : 1 ≤ m) (hD : D < B32 ^ m) (hl : 2147483648 * B32 ^ (m - 1) ≤ D) : 2147483648 ≤ wd D (m - 1) := by
  obtain ⟨k, rfl⟩ : ∃ k, m = k + 1 := ⟨m - 1, by omega⟩
  rw [Nat.add_sub_cancel] at *
  have e0 : D / B32 ^ (k + 1) = 0 := Nat.div_eq_of_lt hD
  have e1 := hi_step D k
  rw [e0, Nat.zero_mul, Nat.zero_add] at e1
  rw [← e1, Nat.le_div_iff_mul_le (b32_pos k)]
  exact hl

/-- What is left of R0 when the digits from a on are divided. -/
def rem (R D a : Nat) : Nat := R % (D * B32 ^ a)
theorem rem_lt {R D a : Nat} (hD : 0 < D) : rem R D a < D * B32 ^ a := Nat.mod_lt _ (Nat.mul_pos hD (b32_pos a))
theorem rem_digit {R D a : Nat} : rem R D (a + 1) / B32 ^ a / D = wd (R / D) a := by
  unfold rem wd
  rw [Nat.div_div_eq_div_mul, Nat.div_div_eq_div_mul, Nat.mul_comm (B32 ^ a) D, Nat.pow_succ, ← Nat.mul_assoc, Nat.mod_mul_right_div_self]
theorem rem_next {R D a : Nat} : rem R D (a + 1) = rem R D a + wd (R / D) a * D * B32 ^ a := by
  have h := Nat.div_add_mod (rem R D (a + 1)) (D * B32 ^ a)
  have e1 : rem R D (a + 1) % (D * B32 ^ a) = rem R D a := by
    unfold rem; rw [Nat.pow_succ, ← Nat.mul_assoc, Nat.mod_mul_right_mod]
  have e2 : rem R D (a + 1) / (D * B32 ^ a) = wd (R / D) a := by
    rw [← rem_digit, Nat.div_div_eq_div_mul, Nat.mul_comm (B32 ^ a)]
  rw [e1, e2] at h
  rw [← h, Nat.mul_comm (D * B32 ^ a), ← Nat.mul_assoc, Nat.add_comm]
theorem rem_part_lt {R D a : Nat} (hD : 0 < D) : rem R D (a + 1) / B32 ^ a < D * B32 := by
  apply Nat.div_lt_of_lt_mul
  have := rem_lt (R := R) (a := a + 1) hD
  rw [Nat.pow_succ, ← Nat.mul_assoc, Nat.mul_right_comm, Nat.mul_comm] at this
  exact this
theorem rem_part_next {R D a : Nat} : rem R D (a + 1) / B32 ^ a = rem R D a / B32 ^ a + wd (R / D) a * D := by
  rw [rem_next, add_high]

/-- The row behind one step: the part is replaced by what is left of it. -/
theorem row_next {w : World} {g tt L m a R D X P : Nat} (hm : D < B32 ^ m) (hD : 0 < D)
    (h : PartAt w g tt L a (m + 1) (m + 1) X P (wd (rem R D (a + 1)))) (hX : ∀ i, i ≤ m → wd X i = wd (rem R D a / B32 ^ a) i) :
    w.rowIs g tt L (fun j => .int .u32 (wd (rem R D a) j : Nat)) := by
  obtain ⟨f, hr, h1, _, h3⟩ := h
  refine hr.congr fun j _ => ?_
  have e : f j = wd (rem R D a) j := by
    by_cases h4 : j < a
    · rw [h3 j (.inl h4), rem_next, wd_add_low _ _ _ _ h4]
    · by_cases h5 : j < a + (m + 1)
      · obtain ⟨i, rfl⟩ : ∃ i, j = a + i := ⟨j - a, by omega⟩
        rw [h1 i (by omega), hX i (by omega), wd_shift]
      · rw [h3 j (.inr (by omega))]
        have hb : rem R D (a + 1) < B32 ^ j := by
          have s1 := rem_lt (R := R) (a := a + 1) hD
          have s2 := Nat.mul_lt_mul_of_pos_right hm (b32_pos (a + 1))
          rw [← Nat.pow_add] at s2
          exact Nat.lt_of_lt_of_le (Nat.lt_trans s1 s2) (Nat.pow_le_pow_right (by decide) (by omega))
        have hb2 : rem R D a < B32 ^ j := Nat.lt_of_le_of_lt (by rw [rem_next]; exact Nat.le_add_right _ _) hb
        unfold wd
        rw [Nat.div_eq_of_lt hb, Nat.div_eq_of_lt hb2]
  rw [e]
theorem part_of_row {w : World} {g tt L a n R : Nat} (h : w.rowIs g tt L (fun j => .int .u32 (wd R j : Nat))) : PartAt w g tt L a n 0 0 (R / B32 ^ a) (wd R) :=
  ⟨wd R, h, fun i hi => absurd hi (by omega), fun i _ _ => wd_shift R a i, fun _ _ => rfl⟩
theorem part_words {w : World} {g tt L a n P : Nat} {f : Nat → Nat} (h : PartAt w g tt L a n 0 0 P f) (hL : a + n ≤ L) : Words w g a n P := by
  obtain ⟨f, hr, _, h2, _⟩ := h
  intro j hj
  rw [hr.cell (by omega), h2 j (by omega) hj]
theorem rem_top {U D n m t s : Nat} (hn : n = m + t) (hm : 1 ≤ m) (hU : U < B32 ^ n) (hs : s < 32) (hl : 2147483648 * B32 ^ (m - 1) ≤ D) : rem (U * 2 ^ s) D (t + 1) = U * 2 ^ s := by
  apply Nat.mod_eq_of_lt
  have h1 : 2 ^ s ≤ 2147483648 := by
    have : 2 ^ s ≤ 2 ^ 31 := Nat.pow_le_pow_right (by omega) (by omega)
    simpa using this
  have h2 : U * 2 ^ s < B32 ^ n * 2147483648 := Nat.lt_of_lt_of_le (Nat.mul_lt_mul_of_pos_right hU (Nat.pow_pos (by omega))) (Nat.mul_le_mul_left _ h1)
  have h3 := Nat.mul_le_mul_right (B32 ^ (t + 1)) hl
  rw [Nat.mul_assoc, ← Nat.pow_add, show m - 1 + (t + 1) = n by omega, Nat.mul_comm] at h3
  omega
theorem rem_zero (R D : Nat) : rem R D 0 = R % D := by simp [rem]
theorem quot_lt {R D t : Nat} (hD : 0 < D) (h : rem R D (t + 1) = R) : R / D < B32 ^ (t + 1) := by
  apply Nat.div_lt_of_lt_mul
  rw [← h]; exact rem_lt hD

theorem Split.only {w w' : World} {g b tt L n a N Q : Nat} (h : Split w g tt L n a N Q) (ho : Only b w w') (hn : g ≠ b) : Split w' g tt L n a N Q := by
  obtain ⟨f, h1, h2⟩ := h
  exact ⟨f, ho.row hn h1, h2⟩
theorem Split.drewN {w : World} {g tt L n a N Q : Nat} (h : Split w g tt L n a N Q) (k : Nat) : Split (w.drewN k) g tt L n a N Q := h
/-- The right digit, when the guess was right. -/
theorem right_digit {P D q : Nat} (hD : 0 < D) (h1 : P / D ≤ q) (h2 : ¬ P < q * D) : q = P / D := by
  have : q ≤ P / D := (Nat.le_div_iff_mul_le hD).2 (by omega)
  omega
theorem wrong_digit {P D q : Nat} (hD : 0 < D) (h1 : q ≤ P / D + 1) (h2 : P < q * D) : q = P / D + 1 := by
  have : P / D < q := (Nat.div_lt_iff_lt_mul hD).2 h2
  omega
theorem back_digit {P D m i : Nat} (hD : 0 < D) (hDl : D < B32 ^ m) (hP : P < B32 ^ (m + 1)) (hi : i ≤ m) (h2 : P < (P / D + 1) * D) : wd (dif P ((P / D + 1) * D) m + D) i = wd (P - P / D * D) i := by
  have h1 : P / D * D ≤ P := Nat.div_mul_le_self _ _
  have hp : B32 ^ m ≤ B32 ^ (m + 1) := Nat.pow_le_pow_right (by decide) (by omega)
  have e : dif P ((P / D + 1) * D) m + D = (P - P / D * D) + 1 * B32 ^ (m + 1) := by
    unfold dif
    rw [Nat.add_mul, Nat.one_mul] at *
    rw [Nat.mod_eq_of_lt (by omega)]
    omega
  rw [e, wd_add_low _ _ _ _ (by omega)]

set_option maxHeartbeats 1000000 in
set_option maxRecDepth 20000 in
theorem divideLong_any (gu ou n cu gv ov m cv U D : Nat) (w : World) (hm : 2 ≤ m) (hmn : m ≤ n) (hn : n ≤ 100) (hcu : n ≤ cu) (hcu2 : cu ≤ 1000) (hcv : m ≤ cv) (hcv2 : cv ≤ 1000)
    (hgu : gu < w.heap.size) (hgv : gv < w.heap.size) (hU : U < B32 ^ n) (hD : D < B32 ^ m) (htop : wd D (m - 1) ≠ 0) (hu : Words w gu ou n U) (hv : Words w gv ov m D) :
    Calls Tryd.prog 40 #[.slice (some ⟨gu, ou, none⟩) n cu, .slice (some ⟨gv, ov, none⟩) m cv] w (DivP U D w) := by
  obtain ⟨s, hs⟩ : ∃ s, s = 32 - nbits (wd D (m - 1)) := ⟨_, rfl⟩
  have hnorm := norm_shift (by omega) hD htop hs
  have hs32 : s < 32 := hnorm.1
  have hcell := hv (m - 1) (by omega)
  have hbl := wd_lt D (m - 1)
  have hbits : Lib.bitLen (wd D (m - 1)) = nbits (wd D (m - 1)) := bitLen_nbits _ (Nat.lt_trans hbl (by decide))
  have hs3 : 32 - (Lib.bitLen (wd D (m - 1)) : Int) = (s : Int) := by
    have : nbits (wd D (m - 1)) ≤ 32 := by
      unfold nbits; split
      · omega
      · rename_i h0
        have := (Nat.log2_lt (n := wd D (m - 1)) (k := 32) h0).2 hbl
        omega
    rw [hbits]; omega
  have hm1 : (m : Int) - 1 = ((m - 1 : Nat) : Int) := by omega
  have HU := Lib.hid hu; clear hu
  have HV := Lib.hid hv; clear hv
  have HUl := Lib.hid hU; clear hU
  have HDl := Lib.hid hD; clear hD
  have HNO := Lib.hid hnorm; clear hnorm
  have HT := Lib.hid htop; clear htop hs hbits
  go_enter Tryd.func40, Tryd.ntmps40
  go_wp2_with fail
  refine (flip_v (Tryd.bits_LeadingZeros32 _ _ (by omega) (by omega))).mono ?_
  rintro e w' ⟨rfl, rfl⟩
  rw [Int.toNat_natCast, hs3]
  clear hs3 hm1 hcell
  go_wp2_with fail
  refine (shiftLeft_any gv ov m cv s D _ hcv hcv2 hs32 hgv HV.out HDl.out).mono ?_
  rintro e w1 ⟨rfl, hr1, hb1⟩
  have HR1 := Lib.hid hr1; clear hr1
  go_wp2_with fail
  refine (shiftLeft_any gu ou n cu s U _ hcu hcu2 hs32 (Nat.lt_of_lt_of_le hgu hb1.size) (HU.out.below hb1 hgu) HUl.out).mono ?_
  rintro e w2 ⟨rfl, hr2, hb2⟩
  have HR2 := Lib.hid hr2; clear hr2
  obtain ⟨t, ht⟩ : ∃ t, n = m + t := ⟨n - m, by omega⟩
  have ht2 : (n : Int) - (m : Int) = (t : Int) := by omega
  have hmk := run_make_words1 t (by omega)
  have HTT := Lib.hid ht; clear ht
  have HU2 : 0 < 2 ^ s := Nat.pow_pos (by omega)
  have hD0 : 0 < D := by
    rcases Nat.eq_zero_or_pos D with e | e
    · rw [e] at HT; exact absurd (wd_zero _) HT.out
    · exact e
  obtain ⟨DD, hDD⟩ : ∃ d, d = D * 2 ^ s := ⟨_, rfl⟩
  obtain ⟨RR, hRR⟩ : ∃ d, d = U * 2 ^ s := ⟨_, rfl⟩
  have hDDl : DD < B32 ^ m := by rw [hDD]; exact HNO.out.2.1
  have hDDn : 2147483648 * B32 ^ (m - 1) ≤ DD := by rw [hDD]; exact HNO.out.2.2
  have hDD0 : 0 < DD := by rw [hDD]; exact Nat.mul_pos hD0 HU2
  have hDDt := norm_top (by omega) hDDl hDDn
  have hrt : rem RR DD (t + 1) = RR := by rw [hRR]; exact rem_top HTT.out (by omega) HUl.out hs32 hDDn
  have hql := quot_lt hDD0 hrt
  have hquo : RR / DD = U / D := by rw [hRR, hDD, Nat.mul_div_mul_right _ _ HU2]
  have hrm : RR % DD / 2 ^ s = U % D := by rw [hRR, hDD, Nat.mul_mod_mul_right, Nat.mul_div_cancel _ HU2]
  have hR1 : Words w2 w.heap.size 0 m DD := by
    have h1 := words_of_row HR1.out (show m ≤ m + 1 by omega)
    rw [hDD]; exact h1.below hb2 HR1.out.lt
  have hR2 : w2.rowIs w1.heap.size 49 (n + 1) (fun j => .int .u32 (wd RR j : Nat)) := by rw [hRR]; exact HR2.out
  have hg1 : w.heap.size < w1.heap.size := HR1.out.lt
  have hg2 : w1.heap.size < w2.heap.size := HR2.out.lt
  have hbw2 : Below w.heap.size w w2 := hb1.trans (hb2.mono (by omega))
  have HQ := Lib.hid hquo; clear hquo
  have HRM := Lib.hid hrm; clear hrm
  have HRT := Lib.hid hrt; clear hrt
  have HQL := Lib.hid hql; clear hql
  have HDDl := Lib.hid hDDl; clear hDDl
  have HDDt := Lib.hid hDDt; clear hDDt hDDn
  have HDV := Lib.hid hR1; clear hR1
  have HR0 := Lib.hid hR2; clear hR2
  have HDE := Lib.hid hDD; clear hDD
  have HRE := Lib.hid hRR; clear hRR
  clear HR1 HR2 HU HV hb1 hb2 HUl HDl HNO HT hbl
  go_wp2
  have hq3 : Split (w2.alloc (.cells (madeCells #[.int .u32 0] (t + 1)) 49)) w2.heap.size 49 (t + 1) (t + 1) (t + 1) 0 (RR / DD) :=
    ⟨fun _ => 0, World.rowIs_made w2 (.int .u32 0) (t + 1) _, fun j _ => (wd_zero j).symm, fun j h1 h2 => by omega⟩
  have hr3 : (w2.alloc (.cells (madeCells #[.int .u32 0] (t + 1)) 49)).rowIs w1.heap.size 49 (n + 1) (fun j => .int .u32 (wd (rem RR DD (t + 1)) j : Nat)) := by rw [HRT.out]; exact HR0.out.alloc _
  have hb3 : Below w2.heap.size w2 (w2.alloc (.cells (madeCells #[.int .u32 0] (t + 1)) 49)) := (Below.refl _ _).alloc (Nat.le_refl _) _
  have hd3 := HDV.out.below hb3 (by omega)
  have hbw3 : Below w.heap.size w (w2.alloc (.cells (madeCells #[.int .u32 0] (t + 1)) 49)) := hbw2.trans (hb3.mono (by omega))
  have hs3 : (w2.alloc (.cells (madeCells #[.int .u32 0] (t + 1)) 49)).heap.size = w2.heap.size + 1 := by simp
  generalize w2.alloc _ = w3 at *
  have HQ3 := Lib.hid hq3; clear hq3
  have HR3 := Lib.hid hr3; clear hr3
  have HD3 := Lib.hid hd3; clear hd3
  have hs4 : w2.heap.size < w3.heap.size := by omega
  clear hs3 hb3 HDV HR0 hbw2 hmk
  generalize hgw : w.heap.size = gd at *
  have HGW := Lib.hid hgw; clear hgw
  generalize w1.heap.size = gr at *
  generalize w2.heap.size = gq at *
  go_loopw [10, 11, 12, 13, 39] (fun _ _ _ _ v wr => ∃ k : Nat, k ≤ t + 1 ∧ v = .int .i64 k ∧ wr.rowIs gr 49 (n + 1) (fun j => .int .u32 (wd (rem RR DD (t + 1 - k)) j : Nat)) ∧ Split wr gq 49 (t + 1) (t + 1) (t + 1 - k) 0 (RR / DD) ∧ Below gr w3 wr) (fun _ _ _ _ v _ => t + 1 - (intOf v).toNat)
  case atStart => exact ⟨0, by omega, rfl, HR3.out, HQ3.out, Below.refl _ _⟩
  case round =>
    obtain ⟨k, hk, rfl, hrow, hsp, hbel⟩ := hrel
    by_cases hlt : k < t + 1
    · obtain ⟨j, hj⟩ : ∃ j, t + 1 - k = j + 1 := ⟨t - k, by omega⟩
      rw [hj] at hrow hsp
      have hjk : (t : Int) - (k : Int) = (j : Int) := by omega
      have hjt : j ≤ t := by omega
      have hjn : j + m ≤ n := by have := HTT.out; omega
      have hpart := part_of_row (a := j) (n := m + 1) hrow
      have hw := part_words hpart (by omega)
      have hdw : Words wr gd 0 m DD := fun i hi => (hbel.cell (p := ⟨gd, 0 + i, none⟩) (by exact hg1)).trans (HD3.out i hi)
      have hgdw : gd < wr.heap.size := Nat.lt_of_lt_of_le (by omega) hbel.size
      have hgrw : gr < wr.heap.size := hrow.lt
      have hPl := rem_part_lt (R := RR) (a := j) hDD0
      have hcell : wr.cell? ⟨gq, j, none⟩ = some (.int .u32 (0 : Nat)) := by
        obtain ⟨f, h1, h2, _⟩ := hsp
        rw [h1.cell (by omega), h2 j (by omega), wd_zero]
      have hfr : wr.frozen? ⟨gq, j, none⟩ = false := by
        obtain ⟨f, h1, _⟩ := hsp
        exact h1.frozen _
      have HJ := Lib.hid hj; clear hj
      have HPT := Lib.hid hpart; clear hpart
      have HW := Lib.hid hw; clear hw
      have HDW := Lib.hid hdw; clear hdw
      have HPL := Lib.hid hPl; clear hPl
      have HSP := Lib.hid hsp; clear hsp
      have HRW := Lib.hid hrow; clear hrow
      have hdig := rem_digit (R := RR) (D := DD) (a := j)
      have hnext := rem_part_next (R := RR) (D := DD) (a := j)
      obtain ⟨P, hP⟩ : ∃ P, P = rem RR DD (j + 1) / B32 ^ j := ⟨_, rfl⟩
      have HPE := Lib.hid hP
      rw [← hP] at hdig hnext
      have hpt := HPT.out; rw [← hP] at hpt
      have hww := HW.out; rw [← hP] at hww
      have hpl := HPL.out; rw [← hP] at hpl
      have hPm : P < B32 ^ (m + 1) := by
        rw [Nat.pow_succ]
        exact Nat.lt_trans hpl (Nat.mul_lt_mul_of_pos_right HDDl.out (by decide))
      have hqd : P / DD < 4294967296 := by rw [hdig]; exact wd_lt _ _
      clear HPT HW HPL hP
      have HPT := Lib.hid hpt; clear hpt
      have HW := Lib.hid hww; clear hww
      have HPL := Lib.hid hpl; clear hpl
      have HPM := Lib.hid hPm; clear hPm
      have HDI := Lib.hid hdig; clear hdig
      have HNX := Lib.hid hnext; clear hnext
      go_wp2_with fail
      refine (guess_any gr j gd m _ _ _ DD P _ hm (by omega) (by omega) (by omega) (by omega) (by omega) HDDl.out HDDt.out HPL.out HW.out HDW.out).mono ?_
      rintro e w' ⟨⟨q, rfl, hq1, hq2, hq3⟩, kk, rfl⟩
      have HQ1 := Lib.hid hq1; clear hq1
      have HQ2 := Lib.hid hq2; clear hq2
      go_wp2_with fail
      refine (subtractRow_any gr j _ _ gd m _ q DD P (n + 1) 49 _ _ (by omega) (by omega) (by omega) (by omega) (by omega) (by omega) hq3 HDDl.out HPM.out (HPT.out.drewN kk) (by omega) hgdw (HDW.out)).mono ?_
      rintro e w5 ⟨rfl, hpa5, ho5⟩
      have HPA5 := Lib.hid hpa5; clear hpa5
      have hsp5 := (HSP.out.drewN kk).only ho5 (by omega)
      have hb5 : Below gr w3 w5 := hbel.trans ((Below.refl gr wr).trans (⟨ho5.os, ho5.tape, ho5.output, ho5.size, fun i hi => ho5.block i (Nat.lt_trans hi hgrw) (by omega)⟩))
      have hcell5 : w5.cell? ⟨gq, j, none⟩ = some (.int .u32 (0 : Nat)) := by
        obtain ⟨f, h1, h2, _⟩ := hsp5
        rw [h1.cell (by omega), h2 j (by omega), wd_zero]
      have hfr5 : w5.frozen? ⟨gq, j, none⟩ = false := by
        obtain ⟨f, h1, _⟩ := hsp5
        exact h1.frozen _
      have hj1 : t + 1 - (k + 1) = j := by have := HJ.out; omega
      have HJ1 := Lib.hid hj1; clear hj1
      have hgd5 : gd < w5.heap.size := Nat.lt_of_lt_of_le hgdw ho5.size
      have hgr5 : gr < w5.heap.size := Nat.lt_of_lt_of_le hgrw ho5.size
      have hdw5 : Words w5 gd 0 m DD := ho5.words hgdw (by omega) HDW.out
      have HDW5 := Lib.hid hdw5; clear hdw5
      have HSP5 := Lib.hid hsp5; clear hsp5 hcell hfr HSP HRW
      by_cases hbor : P < q * DD
      · have hqe := wrong_digit hDD0 HQ2.out hbor
        have hdb := decide_eq_true hbor
        have hq0 : 1 ≤ q := by rw [hqe]; exact Nat.le_add_left _ _
        have hqd1 : q - 1 < 4294967296 := by rw [hqe, Nat.add_sub_cancel]; exact hqd
        have hpa6 : PartAt w5 gr 49 (n + 1) j (m + 1) 0 0 (dif P (q * DD) m) (wd (rem RR DD (j + 1))) := by
          obtain ⟨f, h1, h2, h3, h4⟩ := HPA5.out
          exact ⟨f, h1, fun i hi => absurd hi (by omega), fun i _ hi => h2 i hi, h4⟩
        have HPA6 := Lib.hid hpa6; clear hpa6 HPA5
        have HQE := Lib.hid hqe; clear hqe
        have HBO := Lib.hid hbor; clear hbor
        go_wp2_with fail
        refine (addBack_any gr j _ _ gd m _ DD (dif P (q * DD) m) (n + 1) 49 _ _ (by omega) (by omega) (by omega) (by omega) (by omega) (by omega) HDDl.out HPA6.out (by omega) hgd5 HDW5.out).mono ?_
        rintro e w6 ⟨rfl, hpa7, ho7⟩
        have hsp7 := HSP5.out.only ho7 (by omega)
        have hb7 : Below gr w3 w6 := hb5.trans ⟨ho7.os, ho7.tape, ho7.output, ho7.size, fun i hi => ho7.block i (Nat.lt_trans hi hgr5) (by omega)⟩
        have hcell7 : w6.cell? ⟨gq, j, none⟩ = some (.int .u32 (0 : Nat)) := by
          obtain ⟨f, h1, h2, _⟩ := hsp7
          rw [h1.cell (by omega), h2 j (by omega), wd_zero]
        have hfr7 : w6.frozen? ⟨gq, j, none⟩ = false := by
          obtain ⟨f, h1, _⟩ := hsp7
          exact h1.frozen _
        have hrow8 : w6.rowIs gr 49 (n + 1) (fun i => .int .u32 (wd (rem RR DD j) i : Nat)) := by
          obtain ⟨f, h1, h2, h3, h4⟩ := hpa7
          refine row_next (P := dif P (q * DD) m) (X := dif P (q * DD) m + DD) HDDl.out hDD0 ⟨f, h1, h2, h3, h4⟩ fun i hi => ?_
          have hb := HBO.out
          rw [HQE.out] at hb ⊢
          rw [back_digit hDD0 HDDl.out HPM.out hi hb, HDI.out, Nat.sub_eq_of_eq_add HNX.out]
        have HRW8 := Lib.hid hrow8; clear hrow8 hpa7
        have HSP7 := Lib.hid hsp7; clear hsp7
        clear hcell5 hfr5
        go_wp2
        go_roundw
        case rel =>
          have e := HSP7.out.step (v := (q : Int) - 1) (by have := HQE.out; rw [← HDI.out, HQE.out]; omega) (by omega)
          exact ⟨k + 1, by omega, by go_num, by rw [HJ1.out]; exact HRW8.out.setOther (by show gr ≠ gq; omega) _, by rw [HJ1.out]; exact e, hb7.setCell (by show gr ≤ gq; omega) _⟩
        case measure => simp [intOf]; omega
      · have hqe := right_digit hDD0 HQ1.out hbor
        have hdb := decide_eq_false hbor
        have hrow6 : w5.rowIs gr 49 (n + 1) (fun i => .int .u32 (wd (rem RR DD j) i : Nat)) := row_next HDDl.out hDD0 HPA5.out fun i hi => by
          rw [dif_of HPM.out (by omega), hqe, HDI.out, Nat.sub_eq_of_eq_add HNX.out]
        have HRW6 := Lib.hid hrow6; clear hrow6 HPA5
        have HQE := Lib.hid hqe; clear hqe hbor
        go_wp2
        go_roundw
        case rel =>
          have e := HSP5.out.step (v := (q : Int)) (by rw [HQE.out, HDI.out]) (by omega)
          exact ⟨k + 1, by omega, by go_num, by rw [HJ1.out]; exact HRW6.out.setOther (by show gr ≠ gq; omega) _, by rw [HJ1.out]; exact e, hb5.setCell (by show gr ≤ gq; omega) _⟩
        case measure => simp [intOf]; omega
    · obtain rfl : k = t + 1 := by omega
      have e0 : t + 1 - (t + 1) = 0 := by omega
      rw [e0, rem_zero] at hrow
      rw [e0] at hsp
      have hqw : Words wr gq 0 (t + 1) (RR / DD) := by
        obtain ⟨f, h1, _, h3⟩ := hsp
        intro i hi
        rw [Nat.zero_add, h1.cell hi, h3 i (by omega) hi]
      have hgq : gq < wr.heap.size := by
        obtain ⟨f, h1, _⟩ := hsp
        exact h1.lt
      have hgr : gr < wr.heap.size := hrow.lt
      have hrw := words_of_row hrow (Nat.le_refl _)
      have hrl : RR % DD < B32 ^ (n + 1) := Nat.lt_trans (Nat.mod_lt _ hDD0) (Nat.lt_of_lt_of_le HDDl.out (Nat.pow_le_pow_right (by decide) (by omega)))
      have hbelw : Below w.heap.size w wr := by
        rw [HGW.out]; exact hbw3.trans (hbel.mono (by omega))
      have HQW := Lib.hid hqw; clear hqw
      have HRWW := Lib.hid hrw; clear hrw
      have HRL := Lib.hid hrl; clear hrl
      clear hrow hsp e0
      go_wp2_with fail
      refine (trim_any gq 0 (t + 1) (t + 1) (RR / DD) _ (by omega) (by omega) HQL.out HQW.out).mono ?_
      rintro e w' ⟨rfl, rfl⟩
      go_wp2_with fail
      refine (shiftRight_any gr 0 (n + 1) (n + 1) s (RR % DD) _ (by omega) (by omega) hs32 hgr HRWW.out HRL.out).mono ?_
      rintro e w7 ⟨rfl, hr7, hb7⟩
      rw [HRM.out] at hr7
      have hul : U % D < B32 ^ (n + 1) := by
        rw [← HRM.out]
        exact Nat.lt_of_le_of_lt (Nat.div_le_self _ _) HRL.out
      have HR7 := Lib.hid hr7; clear hr7
      have HUL := Lib.hid hul; clear hul
      go_wp2_with fail
      refine (trim_any wr.heap.size 0 (n + 1) (n + 1) (U % D) _ (by omega) (by omega) HUL.out (words_of_row HR7.out (Nat.le_refl _))).mono ?_
      rintro e w' ⟨rfl, rfl⟩
      go_wp2
      go_ret2
      have hn1 : nd (U / D) ≤ t + 1 := nd_le.2 (by rw [← HQ.out]; exact HQL.out)
      have hn2 : nd (U % D) ≤ n + 1 := nd_le.2 HUL.out
      have hqw7 := HQW.out.below hb7 hgq
      rw [HQ.out] at hqw7
      refine ⟨_, _, rfl, ⟨_, _, by rw [HQ.out]; rfl, by omega, by omega, fun _ => ⟨gq, 0, rfl, Nat.lt_of_lt_of_le hgq hb7.size, fun i hi => hqw7 i (by omega)⟩⟩,
        ⟨_, _, rfl, by omega, by omega, fun _ => ⟨_, 0, rfl, HR7.out.lt, fun i hi => words_of_row HR7.out (Nat.le_refl _) i (by omega)⟩⟩, hbelw.trans (hb7.mono hbelw.size)⟩
end Go.Proofs.YtjbcicgbemepbaaDoor
