/-
  Several parts in one text (MA).
-/
import Derived.Test.YtogmgfdihmacpaaGreatDoorMod3
import Derived.BigQuiet
/-
  Contracts of package modular, the fourth part: guess.
-/
namespace Go.Proofs.YtogmgfdihmacpaaGreatDoor
open Go.RowKit
set_option linter.unusedVariables false

theorem guess_num {D P m : Nat} (hm : 0 < m) (hD : D < B64 ^ m) (hn : 9223372036854775808 ≤ wq D (m - 1)) (hP : P < D * B64) :
    (wq D (m - 1) ≤ wq P m → P / D ≤ 18446744073709551615 ∧ 18446744073709551615 ≤ P / D + 2) ∧
    (wq P m < wq D (m - 1) → P / D ≤ (wq P m * 18446744073709551616 + wq P (m - 1)) / wq D (m - 1) ∧ (wq P m * 18446744073709551616 + wq P (m - 1)) / wq D (m - 1) ≤ P / D + 2) := by
  obtain ⟨k, rfl⟩ : ∃ k, m = k + 1 := ⟨m - 1, by omega⟩
  rw [Nat.add_sub_cancel] at *
  have hk := b64_pos k
  have hPl : P < B64 ^ (k + 1 + 1) := by
    rw [Nat.pow_succ B64 (k + 1)]
    exact Nat.lt_of_lt_of_le hP (Nat.mul_le_mul_right _ (Nat.le_of_lt hD))
  have ef : wq D k = D / B64 ^ k := wq_end hD
  have ex : wq P (k + 1) = P / B64 ^ (k + 1) := wq_end hPl
  have ep : P / B64 ^ k = wq P (k + 1) * 18446744073709551616 + wq P k := by rw [ex]; exact hiq_step P k
  have h1 : wq D k * B64 ^ k ≤ D := by rw [ef]; exact Nat.div_mul_le_self _ _
  have h2 : D < (wq D k + 1) * B64 ^ k := by rw [ef, Nat.add_mul, Nat.one_mul]; exact Nat.lt_div_mul_add hk
  have hy := wq_lt P k
  have key := fun q hq => guess_ok P D (B64 ^ k) (wq D k) q hk hn h1 h2 (by rw [← b64_eq]; exact hP) hq
  rw [ep] at key
  generalize wq D k = f at *
  generalize wq P (k + 1) = x at *
  generalize wq P k = y at *
  clear ef ex ep h1 h2 hP hD hPl
  refine ⟨fun h => key _ ?_, fun h => key _ ?_⟩
  · refine (Nat.min_eq_left ?_).symm
    rw [Nat.le_div_iff_mul_le (by omega)]
    have := Nat.mul_le_mul_right 18446744073709551616 h
    omega
  · refine (Nat.min_eq_right ?_).symm
    have : (x * 18446744073709551616 + y) / f < 18446744073709551616 := by
      rw [Nat.div_lt_iff_lt_mul (by omega)]
      have := Nat.mul_le_mul_right 18446744073709551616 (show x + 1 ≤ f from h)
      omega
    omega

/-- What guess answers. -/
def GuessQ (P D : Nat) (w : World) : Ending → World → Prop := fun e w' => (∃ q : Nat, e = .returned (.int .u64 q) ∧ P / D ≤ q ∧ q ≤ P / D + 2 ∧ q < 18446744073709551616) ∧ ∃ n, w' = w.drewN n

set_option maxHeartbeats 800000 in
set_option maxRecDepth 20000 in
theorem mguess_any (g o gd od m n c cd D P : Nat) (w : World) (hm : 0 < m) (hmn : n = m + 1) (hn : n ≤ c) (hc : c ≤ 1000) (hmd : m ≤ cd) (hcd : cd ≤ 1000)
    (hD : D < B64 ^ m) (hnorm : 9223372036854775808 ≤ wq D (m - 1)) (hP : P < D * B64) (hp : WordsQ w g o (m + 1) P) (hd : WordsQ w gd od m D) :
    Calls Tryz.prog 115 #[.slice (some ⟨g, o, none⟩) n c, .slice (some ⟨gd, od, none⟩) m cd] w (GuessQ P D w) := by
  have c1 := hd (m - 1) (by omega)
  have c3 := hp m (by omega)
  have c4 := hp (m - 1) (by omega)
  have b1 := wq_lt D (m - 1)
  have b3 := wq_lt P m
  have b4 := wq_lt P (m - 1)
  obtain ⟨hs1, hs2⟩ := guess_num hm hD hnorm hP
  generalize wq D (m - 1) = d1 at *
  generalize wq P m = x at *
  generalize wq P (m - 1) = y at *
  have HS1 := Lib.hid hs1; clear hs1
  have HS2 := Lib.hid hs2; clear hs2
  have i1 : (m : Int) - 1 < (m : Int) := by omega
  have i2 : (0 : Int) ≤ (m : Int) - 1 := by omega
  have i5 : ((m : Int) - 1).toNat = m - 1 := by omega
  have w1 : IntKind.i64.wrap ((m : Int) - 1) = (m : Int) - 1 := IntWalk.i64_in _ (by omega)
  subst hmn
  go_enter Tryz.func115, Tryz.ntmps115
  by_cases hxd : d1 ≤ x
  · have hr := HS1.out hxd
    have HR := Lib.hid hr; clear hr
    go_wp2
    go_quiet (fail)
    go_wp2
    go_ret
    exact ⟨⟨18446744073709551615, rfl, HR.out.1, HR.out.2, by omega⟩, _, rfl⟩
  · have hr := HS2.out (by omega)
    have HR := Lib.hid hr; clear hr
    have hxl : x < d1 := by omega
    go_wp2
    go_quiet (fail)
    go_wp2_with fail
    refine (div64_any x y d1 _ hnorm b1 hxl b4).mono ?_
    rintro e w' ⟨⟨r, rfl⟩, ⟨nn, rfl⟩⟩
    go_wp2
    go_ret
    refine ⟨⟨(x * 18446744073709551616 + y) / d1, ret_int ?_, HR.out.1, HR.out.2, ?_⟩, _, rfl⟩
    · rw [Int.natCast_ediv, Int.natCast_add, Int.natCast_mul]; rfl
    · rw [Nat.div_lt_iff_lt_mul (by omega)]
      have := Nat.mul_le_mul_right 18446744073709551616 (show x + 1 ≤ d1 from hxl)
      omega
end Go.Proofs.YtogmgfdihmacpaaGreatDoor


/-
  Contracts of package modular, the fifth part: reduce.
-/
namespace Go.Proofs.YtogmgfdihmacpaaGreatDoor
open Go.RowKit
set_option linter.unusedVariables false

/-- The number that n words from place o of block g on hold. -/
def rdQ (w : World) (g o : Nat) : Nat → Nat
  | 0 => 0
  | n + 1 => rdQ w g o n + (match w.cell? ⟨g, o + n, none⟩ with | some (.int _ v) => v.toNat | _ => 0) * B64 ^ n
theorem rdQ_loq {w : World} {g o n X : Nat} (h : WordsQ w g o n X) : ∀ k, k ≤ n → rdQ w g o k = loq X k := by
  intro k
  induction k with
  | zero => intro _; rw [loq_zero]; rfl
  | succ k ih =>
    intro hk
    rw [loq_succ, ← ih (by omega), rdQ, h k (by omega)]
    rfl
theorem rdQ_eq {w : World} {g o n X : Nat} (h : WordsQ w g o n X) (hX : X < B64 ^ n) : rdQ w g o n = X := by
  rw [rdQ_loq h n (Nat.le_refl _), loq_all hX]
theorem PartQ.words {w : World} {g tt L o n k P : Nat} {f : Nat → Nat} (h : PartQ w g tt L o n 0 k P f) (hL : o + n ≤ L) : WordsQ w g o n P := by
  obtain ⟨h, hr, h1, h2, h3⟩ := h
  intro j hj
  rw [hr.cell (by omega), h2 j (by omega) hj]
theorem PartQ.done {w : World} {g tt L o n R P : Nat} {f : Nat → Nat} (h : PartQ w g tt L o n n R P f) : PartQ w g tt L o n 0 0 R f := by
  obtain ⟨h, hr, h1, h2, h3⟩ := h
  exact ⟨h, hr, fun i hi => absurd hi (by omega), fun i _ hi => h1 i hi, h3⟩
theorem PartQ.congr {w : World} {g tt L o n R S : Nat} {f : Nat → Nat} (h : PartQ w g tt L o n 0 0 R f) (he : ∀ i, i < n → wq R i = wq S i) : PartQ w g tt L o n 0 0 S f := by
  obtain ⟨h, hr, h1, h2, h3⟩ := h
  exact ⟨h, hr, fun i hi => absurd hi (by omega), fun i a hi => (h2 i a hi).trans (he i hi), h3⟩
/-- A row whose first k words are those of U. -/
def RowQ (w : World) (g tt L k U : Nat) : Prop := ∃ f : Nat → Nat, w.rowIs g tt L (fun j => .int .u64 (f j : Nat)) ∧ ∀ j, j < k → f j = wq U j
theorem RowQ.part {w : World} {g tt L o n U : Nat} (h : RowQ w g tt L (n + 1 + o) U) : ∃ f : Nat → Nat, (∀ j, j < o → f j = wq U j) ∧ PartQ w g tt L o (n + 1) 0 0 (U / B64 ^ o) f := by
  obtain ⟨f, hr, hf⟩ := h
  refine ⟨f, fun j hj => hf j (by omega), f, hr, fun i hi => absurd hi (by omega), fun i _ hi => ?_, fun _ _ => rfl⟩
  rw [hf (o + i) (by omega), wq_shift]
theorem RowQ.back {w : World} {g tt L o n U X : Nat} {f : Nat → Nat} (h : PartQ w g tt L o (n + 1) 0 0 X f) (hf : ∀ j, j < o → f j = wq U j) : RowQ w g tt L (n + o) (U % B64 ^ o + X * B64 ^ o) := by
  obtain ⟨h, hr, h1, h2, h3⟩ := h
  refine ⟨h, hr, fun j hj => ?_⟩
  by_cases hjo : j < o
  · rw [h3 j (.inl hjo), hf j hjo, wq_add_low _ _ _ _ hjo]
    exact (wq_loq U o j hjo).symm
  · obtain ⟨i, rfl⟩ : ∃ i, j = o + i := ⟨j - o, by omega⟩
    rw [h2 i (by omega) (by omega), wq_shift, hiq_add, Nat.div_eq_of_lt (Nat.mod_lt U (b64_pos o)), Nat.zero_add]
theorem RowQ.lt {w : World} {g tt L k U : Nat} (h : RowQ w g tt L k U) : g < w.heap.size := by
  obtain ⟨f, hr, _⟩ := h
  exact hr.lt

set_option maxHeartbeats 1000000 in
set_option maxRecDepth 20000 in
theorem mreduce_any (g tt Lt L c gd od n cd M U : Nat) (w : World) (hn : 0 < n) (hL1 : 0 < L) (hLL : L ≤ Lt) (hLc : L ≤ c) (hc : c ≤ 1000) (hncd : n ≤ cd) (hcd : cd ≤ 1000)
    (hM : M < B64 ^ n) (hnorm : 9223372036854775808 ≤ wq M (n - 1)) (hU : U < B64 ^ (L - 1)) (hrow : RowQ w g tt Lt L U) (hne : gd ≠ g) (hgd : gd < w.heap.size) (hd : WordsQ w gd od n M) :
    Calls Tryz.prog 98 #[.slice (some ⟨g, 0, none⟩) L c, .slice (some ⟨gd, od, none⟩) n cd] w fun e w' => ∃ k V, e = .returned (.slice (some ⟨g, 0, none⟩) k c) ∧ k ≤ L ∧ k ≤ n ∧ V % M = U % M ∧ V < B64 ^ k ∧ RowQ w' g tt Lt k V ∧ Only g w w' := by
  have hM1 : B64 ^ (n - 1) ≤ M := by
    have e : wq M (n - 1) = M / B64 ^ (n - 1) := wq_end (by rw [show n - 1 + 1 = n by omega]; exact hM)
    rw [e] at hnorm
    have := Nat.div_mul_le_self M (B64 ^ (n - 1))
    exact Nat.le_trans (Nat.le_mul_of_pos_left _ (by omega)) this
  have hM0 : 0 < M := Nat.lt_of_lt_of_le (b64_pos _) hM1
  have HI := Lib.hid (rinv_first hn hM1 hL1 hU)
  have HM := Lib.hid hM; clear hM
  have HM1 := Lib.hid hM1; clear hM1 hU
  have HNO := Lib.hid hnorm; clear hnorm
  have HRW := Lib.hid hrow; clear hrow
  have HD := Lib.hid hd; clear hd
  go_enter Tryz.func98, Tryz.ntmps98
  go_wp2
  go_loopw [0] (fun v wr => ∃ k V : Nat, v = .slice (some ⟨g, 0, none⟩) k c ∧ k ≤ L ∧ (n ≤ k ∨ k = L) ∧ Hid (RInv U M n k V) ∧ Hid (RowQ wr g tt Lt k V) ∧ Hid (Only g w wr)) (fun v _ => match v with | .slice _ k _ => k | _ => 0)
  case atStart => exact ⟨L, U, rfl, Nat.le_refl _, .inr rfl, HI, HRW, Only.refl _ _⟩
  case round =>
    obtain ⟨k, V, rfl, hkL, hkn, HR, HRO, HO⟩ := hrel
    by_cases hlt : n < k
    · obtain ⟨o, ho⟩ : ∃ o, k = n + 1 + o := ⟨k - n - 1, by omega⟩
      subst ho
      have e1 : n + 1 + o - n - 1 = o := by omega
      have e2 : n + 1 + o - o = n + 1 := by omega
      obtain ⟨hP1, hP2⟩ := rinv_part HR.out
      obtain ⟨P, hPe⟩ : ∃ P, P = V / B64 ^ o := ⟨_, rfl⟩
      rw [← hPe] at hP1 hP2
      obtain ⟨f, hf, hpa⟩ := HRO.out.part
      rw [← hPe] at hpa
      have hstep := rinv_step HR.out hM0 HM.out
      rw [← hPe] at hstep
      have HST := Lib.hid hstep; clear hstep
      have HPE := Lib.hid hPe; clear hPe
      have HP1 := Lib.hid hP1; clear hP1
      have HP2 := Lib.hid hP2; clear hP2
      have HF := Lib.hid hf; clear hf
      have hpw := hpa.words (by omega)
      have hdw := HO.out.wordsQ hgd hne HD.out
      have hgd2 : gd < wr.heap.size := Nat.lt_of_lt_of_le hgd HO.out.size
      have HPA := Lib.hid hpa; clear hpa
      have HPW := Lib.hid hpw; clear hpw
      have HDW := Lib.hid hdw; clear hdw
      go_wp2_with fail
      rw [e1, e2]
      refine (mguess_any g o gd od n (n + 1) (c - o) cd M P _ hn rfl (by omega) (by omega) (by omega) (by omega) HM.out HNO.out HP1.out HPW.out HDW.out).mono ?_
      rintro e w' ⟨⟨q, rfl, hq1, hq2, hq3⟩, ⟨nn, rfl⟩⟩
      have HPA2 : Hid (PartQ (wr.drewN nn) g tt Lt o (n + 1) 0 0 P f) := HPA.out.drewN nn
      have HDW2 : Hid (WordsQ (wr.drewN nn) gd od n M) := HDW.out
      have HO2 : Hid (Only g w (wr.drewN nn)) := HO.out.drewN nn
      have hgd3 : gd < (wr.drewN nn).heap.size := hgd2
      clear HPA HDW HPW HO hgd2 HRO HR
      generalize wr.drewN nn = w1 at *
      go_wp2_with fail
      refine (msubtractRow_any g o (n + 1) (c - o) gd od n cd q M P Lt tt f _ rfl (by omega) (by omega) (by omega) (by omega) (by omega) hq3 HM.out HP2.out HPA2.out hne hgd3 HDW2.out).mono ?_
      rintro e w2 ⟨rfl, hpa3, ho3⟩
      have hqM : q * M < B64 ^ (n + 1) := by
        have := endQ_lt (c := 0) (b64_pos n) HM.out hq3
        rwa [Nat.zero_add] at this
      have HS := Lib.hid (sinv_first HP2.out hqM hq1)
      have HPA3 := Lib.hid hpa3.done; clear hpa3
      have HO3 := Lib.hid (HO2.out.trans ho3)
      have HDW3 := Lib.hid (ho3.wordsQ hgd3 hne HDW2.out)
      have hgd4 : gd < w2.heap.size := Nat.lt_of_lt_of_le hgd3 ho3.size
      clear hqM hq1 hq2 hq3 HPA2 HO2 HDW2 ho3 hgd3
      generalize diQ P (q * M) (n + 1) = X at *
      obtain ⟨b, hb⟩ : ∃ b, b = boQ P (q * M) (n + 1) := ⟨_, rfl⟩
      rw [← hb] at HS ⊢
      clear hb
      go_wp2
      go_loopw [6] (fun v wr => ∃ q X b : Nat, v = .int .u64 b ∧ Hid (SInv P M n q X b) ∧ Hid (PartQ wr g tt Lt o (n + 1) 0 0 X f) ∧ Hid (Only g w wr)) (fun v wr => if intOf v = 0 then 0 else B64 ^ (n + 1) - rdQ wr g o (n + 1))
      case atStart => exact ⟨q, X, b, rfl, HS, HPA3, HO3⟩
      case round =>
        obtain ⟨q, X, b, rfl, HS, HPA, HO⟩ := hrel
        have hb1 := HS.out.2.2.1
        by_cases hb0 : b = 0
        · subst hb0
          have hX := sinv_end HS.out hM0
          have HX := Lib.hid hX; clear hX
          go_wp2
          go_roundw
          case rel =>
            exact ⟨n + o, _, by rw [show n + 1 + o - 1 = n + o by omega], by omega, .inl (by omega), HST, RowQ.back (by rw [← HX.out]; exact HPA.out) HF.out, HO⟩
          case measure => show n + 1 + o - 1 < n + 1 + o; omega
        · obtain rfl : b = 1 := by omega
          have hst := sinv_step HS.out hM0 HP2.out (Nat.lt_of_lt_of_le HM.out (Nat.pow_le_pow_right (by decide) (by omega)))
          obtain ⟨hst1, hst2, hst3⟩ := hst
          have HST2 := Lib.hid hst2; clear hst2
          have hXl := HS.out.2.1
          have hMl : M < B64 ^ (n + 1) := Nat.lt_of_lt_of_le HM.out (Nat.pow_le_pow_right (by decide) (by omega))
          have hrd := rdQ_eq (HPA.out.words (by omega)) hXl
          have had : adQ X M (n + 1) = (X + M) / B64 ^ (n + 1) := by unfold adQ; rw [Nat.mod_eq_of_lt hXl, Nat.mod_eq_of_lt hMl]
          have hgd5 : gd < wr.heap.size := Nat.lt_of_lt_of_le hgd HO.out.size
          have HDW4 := Lib.hid (HO.out.wordsQ hgd hne HD.out)
          have HXL := Lib.hid hXl; clear hXl
          have HML := Lib.hid hMl; clear hMl
          go_wp2_with fail
          refine (maddRow_any g o (n + 1) (c - o) gd od n cd M X Lt tt f _ rfl (by omega) (by omega) (by omega) (by omega) (by omega) HM.out HPA.out hne hgd5 HDW4.out).mono ?_
          rintro e w4 ⟨rfl, hpa5, ho5⟩
          have hpa6 : PartQ w4 g tt Lt o (n + 1) 0 0 ((X + M) % B64 ^ (n + 1)) f := hpa5.done.congr fun i hi => (wq_loq (X + M) (n + 1) i hi).symm
          have hrd2 := rdQ_eq (hpa6.words (by omega)) (Nat.mod_lt _ (b64_pos _))
          have HPA6 := Lib.hid hpa6; clear hpa6 hpa5
          have HO6 := Lib.hid (HO.out.trans ho5); clear ho5
          rw [had]
          have hcd := fun h : (X + M) / B64 ^ (n + 1) = 0 => Nat.mod_eq_of_lt (show X + M < B64 ^ (n + 1) from (Nat.div_eq_zero_iff_lt (b64_pos _)).mp h)
          have HCD := Lib.hid hcd; clear hcd had
          have HRD := Lib.hid hrd; clear hrd
          have HRD2 := Lib.hid hrd2; clear hrd2
          generalize (X + M) / B64 ^ (n + 1) = cc at *
          go_wp2
          go_roundw
          case rel => exact ⟨q - 1, _, 1 - cc, int_eq (by omega), HST2, HPA6, HO6⟩
          case measure =>
            have hXl := HXL.out
            rw [HRD.out, HRD2.out]
            rcases Nat.le_one_iff_eq_zero_or_eq_one.mp hst3 with h0 | h0
            · subst h0
              have := HCD.out rfl
              rw [this]
              simp [intOf]
              omega
            · subst h0
              simp [intOf]
              omega
    · have hkn2 : k ≤ n := by omega
      have h1 := HR.out.1
      have h2 := HR.out.2.1
      have HH1 := Lib.hid h1; clear h1
      have HH2 := Lib.hid h2; clear h2
      go_wp2
      go_ret
      exact ⟨k, V, rfl, hkL, hkn2, HH1.out, HH2.out, HRO.out, HO.out⟩
end Go.Proofs.YtogmgfdihmacpaaGreatDoor


/-
  Contracts of package modular, the sixth part: shiftFully.
-/
namespace Go.Proofs.YtogmgfdihmacpaaGreatDoor
open Go.RowKit
set_option linter.unusedVariables false

theorem normQ_shift {D m s : Nat} (hm : 1 ≤ m) (hD : D < B64 ^ m) (ht : wq D (m - 1) ≠ 0) (hs : s = 64 - nbits (wq D (m - 1))) :
    s < 64 ∧ D * 2 ^ s < B64 ^ m ∧ 9223372036854775808 * B64 ^ (m - 1) ≤ D * 2 ^ s := by
  obtain ⟨k, rfl⟩ : ∃ k, m = k + 1 := ⟨m - 1, by omega⟩
  rw [Nat.add_sub_cancel] at *
  have hb := wq_lt D k
  have e0 : D / B64 ^ (k + 1) = 0 := Nat.div_eq_of_lt hD
  have e1 := hiq_step D k
  rw [e0, Nat.zero_mul, Nat.zero_add] at e1
  generalize wq D k = t at *
  have hp := b64_pos k
  have dm := Nat.div_add_mod D (B64 ^ k)
  have ml := Nat.mod_lt D hp
  rw [e1] at dm
  generalize D % B64 ^ k = u at dm ml
  have hl : nbits t = Nat.log2 t + 1 := by unfold nbits; rw [if_neg ht]
  have l1 : 2 ^ Nat.log2 t ≤ t := (Nat.le_log2 ht).1 (Nat.le_refl _)
  have l2 : t < 2 ^ (Nat.log2 t + 1) := (Nat.log2_lt ht).1 (by omega)
  have l3 : Nat.log2 t < 64 := (Nat.log2_lt ht).2 hb
  have hs2 : Nat.log2 t + s = 63 := by omega
  have p63 : 2 ^ Nat.log2 t * 2 ^ s = 9223372036854775808 := by rw [← Nat.pow_add, hs2]
  refine ⟨by omega, ?_, ?_⟩
  · have h1 : D < 2 ^ (Nat.log2 t + 1) * B64 ^ k := by
      have := Nat.mul_le_mul_right (B64 ^ k) (show t + 1 ≤ 2 ^ (Nat.log2 t + 1) from l2)
      rw [Nat.add_mul, Nat.one_mul, Nat.mul_comm t] at this
      omega
    have h2 := Nat.mul_lt_mul_of_pos_right h1 (Nat.pow_pos (n := s) (show 0 < 2 by omega))
    have h3 : 2 ^ (Nat.log2 t + 1) * B64 ^ k * 2 ^ s = B64 ^ (k + 1) := by
      rw [Nat.mul_right_comm, Nat.pow_succ, Nat.mul_right_comm (2 ^ Nat.log2 t), p63, Nat.pow_succ, Nat.mul_comm (B64 ^ k)]; rfl
    rw [h3] at h2; exact h2
  · have h1 : 2 ^ Nat.log2 t * B64 ^ k ≤ D := by
      have := Nat.mul_le_mul_right (B64 ^ k) l1
      rw [Nat.mul_comm t] at this
      exact Nat.le_trans this (by omega)
    have h2 := Nat.mul_le_mul_right (2 ^ s) h1
    rw [Nat.mul_right_comm, p63] at h2
    exact h2
theorem normQ_top {D m : Nat} (hm : 1 ≤ m) (hD : D < B64 ^ m) (hl : 9223372036854775808 * B64 ^ (m - 1) ≤ D) : 9223372036854775808 ≤ wq D (m - 1) := by
  obtain ⟨k, rfl⟩ : ∃ k, m = k + 1 := ⟨m - 1, by omega⟩
  rw [Nat.add_sub_cancel] at *
  have e0 : D / B64 ^ (k + 1) = 0 := Nat.div_eq_of_lt hD
  have e1 := hiq_step D k
  rw [e0, Nat.zero_mul, Nat.zero_add] at e1
  rw [← e1, Nat.le_div_iff_mul_le (b64_pos k)]
  exact hl


/-- What the loop of shiftFully carries into word k. -/
def lowQ (W s k : Nat) : Nat := if k = 0 then 0 else wq W (k - 1) / 2 ^ (64 - s)
theorem lowQ_lt (W s k : Nat) (hs : s < 64) : lowQ W s k < 2 ^ s := by
  unfold lowQ
  split
  · exact Nat.pow_pos (by omega)
  · rw [Nat.div_lt_iff_lt_mul (Nat.pow_pos (by omega)), ← Nat.pow_add, show s + (64 - s) = 64 by omega]
    exact wq_lt _ _
theorem lowQ_succ (W s k : Nat) : lowQ W s (k + 1) = wq W k / 2 ^ (64 - s) := by unfold lowQ; rw [if_neg (by omega), Nat.add_sub_cancel]
theorem shl_or (d l s : Nat) (hs : s < 64) (hl : l < 2 ^ s) : bits .or .u64 ((d * 2 ^ s % 18446744073709551616 : Nat) : Int) (l : Int) = ((d * 2 ^ s % 18446744073709551616 + l : Nat) : Int) := by
  have h64 : (18446744073709551616 : Nat) = 2 ^ s * 2 ^ (64 - s) := by rw [← Nat.pow_add, show s + (64 - s) = 64 by omega]
  have hl2 : l < 18446744073709551616 := Nat.lt_of_lt_of_le hl (by rw [h64]; exact Nat.le_mul_of_pos_right _ (Nat.pow_pos (by omega)))
  rw [u64_or_nat _ _ (Nat.mod_lt _ (by decide)) hl2]
  have e : d * 2 ^ s % 18446744073709551616 = d % 2 ^ (64 - s) * 2 ^ s := by
    rw [h64, Nat.mul_comm d, Nat.mul_mod_mul_left, Nat.mul_comm]
  rw [e, or_add _ _ _ hl]

/-- The first k words of N, and zeros. -/
def upQ (N k j : Nat) : Nat := if j < k then wq N j else 0
theorem upQ_step {w : World} {g t n N k : Nat} {v : Int} (h : w.rowIs g t n (fun j => .int .u64 (upQ N k j : Nat))) (hv : v = (wq N k : Nat)) :
    (w.setCell ⟨g, k, none⟩ (.int .u64 v)).rowIs g t n (fun j => .int .u64 (upQ N (k + 1) j : Nat)) :=
  set_row (h := upQ N (k + 1)) h (by rw [hv]; unfold upQ; rw [if_pos (by omega)]) (fun j hj => by
    unfold upQ
    by_cases h1 : j < k
    · rw [if_pos h1, if_pos (by omega)]
    · rw [if_neg h1, if_neg (by omega)])

set_option maxHeartbeats 400000 in
set_option maxRecDepth 20000 in
theorem shiftFully_any (g o n c W : Nat) (w : World) (hn : 0 < n) (hc : n ≤ c) (hc2 : c ≤ 1000) (hW : W < B64 ^ n) (ht : wq W (n - 1) ≠ 0) (hg : g < w.heap.size) (hw : WordsQ w g o n W) :
    Calls Tryz.prog 96 #[.slice (some ⟨g, o, none⟩) n c] w fun e w' => ∃ s, e = .returned (.slice (some ⟨w.heap.size, 0, none⟩) n n) ∧ w'.rowIs w.heap.size 56 n (fun j => .int .u64 (wq (W * 2 ^ s) j : Nat)) ∧ Below w.heap.size w w' ∧ W * 2 ^ s < B64 ^ n ∧ 9223372036854775808 ≤ wq (W * 2 ^ s) (n - 1) := by
  obtain ⟨s, hs⟩ : ∃ s, s = 64 - nbits (wq W (n - 1)) := ⟨_, rfl⟩
  obtain ⟨hs64, hlt, hge⟩ := normQ_shift (by omega) hW ht hs
  have htop := normQ_top (by omega) hlt hge
  have hcell := hw (n - 1) (by omega)
  have hbl := wq_lt W (n - 1)
  have hbits : Lib.bitLen (wq W (n - 1)) = nbits (wq W (n - 1)) := bitLen_nbits _ hbl
  have hs3 : 64 - (Lib.bitLen (wq W (n - 1)) : Int) = (s : Int) := by
    have : nbits (wq W (n - 1)) ≤ 64 := by
      unfold nbits; split
      · omega
      · rename_i h0
        have := (Nat.log2_lt (n := wq W (n - 1)) (k := 64) h0).2 hbl
        omega
    rw [hbits]; omega
  have HW := Lib.hid hw; clear hw
  have HLT := Lib.hid hlt; clear hlt hge
  have HTOP := Lib.hid htop; clear htop hs hbits hW
  have hmk := run_make_wordsQ n (by omega)
  have i1 : (n : Int) - 1 < (n : Int) := by omega
  have i2 : (0 : Int) ≤ (n : Int) - 1 := by omega
  have i5 : ((n : Int) - 1).toNat = n - 1 := by omega
  have w1 : IntKind.i64.wrap ((n : Int) - 1) = (n : Int) - 1 := IntWalk.i64_in _ (by omega)
  go_enter Tryz.func96, Tryz.ntmps96
  go_wp2_with fail
  refine (Tryz.bits_LeadingZeros64 _ _ (by omega) (by omega)).mono ?_
  rintro e w' ⟨rfl, hwe⟩
  subst hwe
  rw [Int.toNat_natCast, hs3]
  clear hs3 hcell hbl ht
  go_wp2
  go_loopw [5, 6, 20] (fun lo _ v wr => ∃ k : Nat, k ≤ n ∧ v = .int .i64 k ∧ lo = .int .u64 (lowQ W s k : Nat) ∧ wr.rowIs w'.heap.size 56 n (fun j => .int .u64 (upQ (W * 2 ^ s) k j : Nat)) ∧ Below w'.heap.size w' wr) (fun _ _ v _ => n - (intOf v).toNat)
  case atStart => exact ⟨0, by omega, rfl, rfl, (World.rowIs_made w' (.int .u64 0) n _).congr (fun j _ => rfl), (Below.refl _ _).alloc (Nat.le_refl _) _⟩
  case round =>
    obtain ⟨k, hk, rfl, rfl, hrow, hbel⟩ := hrel
    have hll := lowQ_lt W s k hs64
    have hln := lowQ_succ W s k
    by_cases hlt : k < n
    · have hsrc : wr.cell? ⟨g, o + k, none⟩ = some (.int .u64 (wq W k : Nat)) := (hbel.cell (p := ⟨g, o + k, none⟩) hg).trans (HW.out k hlt)
      have hcell := hrow.cell (i := k) hlt
      have hfr := hrow.frozen k
      have hwd := shl_word W k s (by omega)
      rw [show (if k = 0 then 0 else wq W (k - 1) / 2 ^ (64 - s)) = lowQ W s k from rfl, b64_eq] at hwd
      have hb := wq_lt W k
      have hor := shl_or (wq W k) (lowQ W s k) s hs64 hll
      rw [← hwd] at hor
      generalize lowQ W s k = l at *
      generalize wq W k = x at *
      have q1 : IntKind.u64.wrap ((x : Int) * 2 ^ s) = ((x * 2 ^ s % 18446744073709551616 : Nat) : Int) := by rw [IntKind.wrap_u64]; simp
      generalize x * 2 ^ s % 18446744073709551616 = y at *
      have HR := Lib.hid hrow; clear hrow hwd
      have HLN := Lib.hid hln; clear hln
      go_wp2
      go_roundw
      case rel => exact ⟨k + 1, by omega, by go_num, int_eq (by rw [HLN.out]; simp), upQ_step HR.out rfl, hbel.setCell (Nat.le_refl _) _⟩
      case measure => simp [intOf]; omega
    · obtain rfl : k = n := by omega
      go_wp2
      go_ret
      exact ⟨s, rfl, hrow.congr (fun j hj => by unfold upQ; rw [if_pos hj]), hbel, HLT.out, HTOP.out⟩
end Go.Proofs.YtogmgfdihmacpaaGreatDoor


/-
  Contracts of package modular, the seventh part: product.
-/
namespace Go.Proofs.YtogmgfdihmacpaaGreatDoor
open Go.RowKit
set_option linter.unusedVariables false

/-- One word of c + d y with Mul64 and two times Add64. -/
theorem mul_add2_word (x d y cr : Nat) (hx : x < 18446744073709551616) (hd : d < 18446744073709551616) (hy : y < 18446744073709551616) (hc : cr < 18446744073709551616) :
    d * y / 18446744073709551616 + (x + d * y % 18446744073709551616 + 0) / 18446744073709551616 < 18446744073709551616 ∧
    d * y / 18446744073709551616 + (x + d * y % 18446744073709551616 + 0) / 18446744073709551616 + ((x + d * y % 18446744073709551616 + 0) % 18446744073709551616 + cr + 0) / 18446744073709551616 = (cr + (x + d * y)) / 18446744073709551616 ∧
    ((x + d * y % 18446744073709551616 + 0) % 18446744073709551616 + cr + 0) % 18446744073709551616 = (cr + (x + d * y)) % 18446744073709551616 ∧ (cr + (x + d * y)) / 18446744073709551616 < 18446744073709551616 := by
  have h := Nat.mul_le_mul (show d ≤ 18446744073709551615 by omega) (show y ≤ 18446744073709551615 by omega)
  generalize d * y = t at *
  omega
theorem mixQ_step {w : World} {g t L P2 P a : Nat} {v : Int} (h : w.rowIs g t L (fun j => .int .u64 (mixQ P2 P a j : Nat))) (hv : v = (wq P2 a : Nat)) :
    (w.setCell ⟨g, a, none⟩ (.int .u64 v)).rowIs g t L (fun j => .int .u64 (mixQ P2 P (a + 1) j : Nat)) :=
  set_row (h := mixQ P2 P (a + 1)) h (by rw [hv]; unfold mixQ; rw [if_pos (by omega)]) (fun j hj => by
    unfold mixQ
    by_cases h1 : j < a
    · rw [if_pos h1, if_pos (by omega)]
    · rw [if_neg h1, if_neg (by omega)])
theorem mulQ_lt {a b i j : Nat} (ha : a < B64 ^ i) (hb : b < B64 ^ j) : a * b < B64 ^ (i + j) := by
  rw [Nat.pow_add]
  exact Nat.mul_lt_mul'' ha hb
theorem mulQ_round (x y i : Nat) : loq x i * y + wq x i * y * B64 ^ i = loq x (i + 1) * y := by
  rw [loq_succ, Nat.add_mul, Nat.mul_right_comm]

set_option maxHeartbeats 800000 in
set_option maxRecDepth 20000 in
theorem product_any (ga oa na ca gb ob nb cb A Y : Nat) (w : World) (hna : na ≤ ca) (hca : ca ≤ 1000) (hnb : nb ≤ cb) (hcb : cb ≤ 1000) (hA : A < B64 ^ na) (hY : Y < B64 ^ nb)
    (hga : ga < w.heap.size) (hgb : gb < w.heap.size) (hwa : WordsQ w ga oa na A) (hwb : WordsQ w gb ob nb Y) :
    Calls Tryz.prog 99 #[.slice (some ⟨ga, oa, none⟩) na ca, .slice (some ⟨gb, ob, none⟩) nb cb] w fun e w' => e = .returned (.slice (some ⟨w.heap.size, 0, none⟩) (na + nb + 1) (na + nb + 1)) ∧ w'.rowIs w.heap.size 56 (na + nb + 1) (fun j => .int .u64 (wq (A * Y) j : Nat)) ∧ Below w.heap.size w w' := by
  obtain ⟨N, hN⟩ : ∃ N, N = na + nb + 1 := ⟨_, rfl⟩
  have hmk := run_make_wordsQ N (by omega)
  have hlen : (na : Int) + (nb : Int) + 1 = (N : Int) := by omega
  rw [← hN]
  have hN1 : na + nb < N := by omega
  have hN2 : N ≤ na + nb + 1 := by omega
  have HNN := Lib.hid hN; clear hN
  have HWA := Lib.hid hwa; clear hwa
  have HWB := Lib.hid hwb; clear hwb
  have HA := Lib.hid hA; clear hA
  have HY := Lib.hid hY; clear hY
  go_enter Tryz.func99, Tryz.ntmps99
  go_wp2
  go_loopw [6, 24] (fun _ v wr => ∃ k : Nat, k ≤ na ∧ v = .int .i64 k ∧ Hid (wr.rowIs w.heap.size 56 N (fun j => .int .u64 (wq (loq A k * Y) j : Nat))) ∧ Hid (Below w.heap.size w wr)) (fun _ v _ => na - (intOf v).toNat)
  case atStart => exact ⟨0, by omega, rfl, (World.rowIs_made w (.int .u64 0) N _).congr (fun j _ => by rw [loq_zero, Nat.zero_mul, wq_zero]; rfl), (Below.refl _ _).alloc (Nat.le_refl _) _⟩
  case round =>
    obtain ⟨k, hk, rfl, HRW, HB⟩ := hrel
    by_cases hlt : k < na
    · have hsrc : wr.cell? ⟨ga, oa + k, none⟩ = some (.int .u64 (wq A k : Nat)) := (HB.out.cell (p := ⟨ga, oa + k, none⟩) hga).trans (HWA.out k hlt)
      have hd := wq_lt A k
      have hmr := mulQ_round A Y k
      obtain ⟨d, hde⟩ : ∃ d, d = wq A k := ⟨_, rfl⟩
      rw [← hde] at hsrc hd hmr
      clear hde
      have hP : loq A k * Y < B64 ^ (k + nb) := mulQ_lt (loq_lt _ _) HY.out
      obtain ⟨P, hPe⟩ : ∃ P, P = loq A k * Y := ⟨_, rfl⟩
      rw [← hPe] at hP hmr
      have HRW2 : Hid (wr.rowIs w.heap.size 56 N (fun j => .int .u64 (mixQ (P + d * Y * B64 ^ k) P (k + 0) j : Nat))) := HRW.out.congr fun j _ => by
        rw [← hPe]
        unfold mixQ
        split
        · rw [wq_add_low _ _ _ _ (by omega)]
        · rfl
      clear HRW hPe
      obtain ⟨Pk, hPk⟩ : ∃ q, q = P / B64 ^ k := ⟨_, rfl⟩
      obtain ⟨P2, hP2⟩ : ∃ q, q = P + d * Y * B64 ^ k := ⟨_, rfl⟩
      have hs1 : ∀ i, wq P (k + i) = wq Pk i := fun i => by rw [hPk, wq_shift]
      have hs2 : ∀ i, wq P2 (k + i) = wq (Pk + d * Y) i := fun i => by rw [hP2, hPk, wq_shift, hiq_add]
      have hPkl : Pk < B64 ^ nb := by rw [hPk]; exact Nat.div_lt_of_lt_mul (by rw [← Nat.pow_add]; exact hP)
      rw [← hP2] at hmr HRW2
      have HS1 := Lib.hid hs1; clear hs1
      have HS2 := Lib.hid hs2; clear hs2 hP2 hPk
      have HPK := Lib.hid hPkl; clear hPkl
      have HP := Lib.hid hP; clear hP
      have HMR := Lib.hid hmr; clear hmr
      go_wp2
      go_loopw [8, 9, 31] (fun cr _ v wr => ∃ i : Nat, i ≤ nb ∧ v = .int .i64 i ∧ cr = .int .u64 (carQ Pk d Y i : Nat) ∧ Hid (wr.rowIs w.heap.size 56 N (fun j => .int .u64 (mixQ P2 P (k + i) j : Nat))) ∧ Hid (Below w.heap.size w wr)) (fun _ _ v _ => nb - (intOf v).toNat)
      case atStart => exact ⟨0, by omega, rfl, by rw [carQ_zero]; rfl, HRW2, HB⟩
      case round =>
        obtain ⟨i, hi, rfl, rfl, HRW, HB⟩ := hrel
        have hcar : carQ Pk d Y i < 18446744073709551616 := carQ_lt Pk d Y i hd
        by_cases hlt2 : i < nb
        · have hcw := carQ_word Pk d Y i
          have hcn := carQ_next Pk d Y i
          have hcell := HRW.out.cell (i := k + i) (by omega)
          have hmx : mixQ P2 P (k + i) (k + i) = wq Pk i := by unfold mixQ; rw [if_neg (by omega)]; exact HS1.out i
          rw [hmx] at hcell
          have hw2 : wq P2 (k + i) = wq (Pk + d * Y) i := HS2.out i
          rw [← hw2, b64_eq] at hcw
          rw [b64_eq] at hcn
          have hfr := HRW.out.frozen (k + i)
          have hsrc2 : wr.cell? ⟨gb, ob + i, none⟩ = some (.int .u64 (wq Y i : Nat)) := (HB.out.cell (p := ⟨gb, ob + i, none⟩) hgb).trans (HWB.out i hlt2)
          have b1 := wq_lt Y i
          have b2 := wq_lt Pk i
          clear hmx hw2
          generalize wq Y i = y at *
          obtain ⟨x, hx⟩ : ∃ x, x = wq Pk i := ⟨_, rfl⟩
          obtain ⟨cr, hcr⟩ : ∃ r, r = carQ Pk d Y i := ⟨_, rfl⟩
          rw [← hx] at hcw hcn hcell b2
          rw [← hcr] at hcw hcn hcar ⊢
          obtain ⟨m0, m1, m2, m3⟩ := mul_add2_word x d y cr b2 hd b1 hcar
          rw [hcw] at m2
          rw [hcn] at m1 m3
          have hm := fun w => Tryz.bits_Mul64 d y hd b1 w
          generalize d * y / 18446744073709551616 = h1 at *
          have hlo := Nat.mod_lt (d * y) (show 0 < 18446744073709551616 by decide)
          generalize d * y % 18446744073709551616 = lo at *
          have hadd := add64_run1 x lo
          generalize (x + lo + 0) / 18446744073709551616 = c1 at *
          have hsm := Nat.mod_lt (x + lo + 0) (show 0 < 18446744073709551616 by decide)
          generalize (x + lo + 0) % 18446744073709551616 = sm at *
          have hadd2 := add64_run1 sm cr
          rw [m2] at hadd2
          generalize (sm + cr + 0) / 18446744073709551616 = c2 at *
          have HN := Lib.hid m1
          have hov : h1 + c1 + c2 < 18446744073709551616 := by rw [m1]; exact m3
          clear m1 m2 m3 hcw hcn hx hcr
          have j1 : (k : Int) + (i : Int) < (N : Int) := by omega
          have j2 : ((k : Int) + (i : Int)).toNat = k + i := by omega
          go_wp2_with fail
          refine (hm _).mono ?_
          rintro e w' ⟨rfl, rfl⟩
          go_wp2
          go_roundw
          case rel => exact ⟨i + 1, by omega, by go_num, int_eq (by rw [← HN.out]; simp), mixQ_step (a := k + i) HRW.out rfl, HB.out.setCell (Nat.le_refl _) _⟩
          case measure => simp [intOf]; omega
        · obtain rfl : i = nb := by omega
          have hcell := HRW.out.cell (i := k + i) (by omega)
          have hfr := HRW.out.frozen (k + i)
          have hend := endQ_lt HPK.out HY.out hd
          have htop : carQ Pk d Y i = wq P2 (k + i) := by
            rw [carQ_end HPK.out HY.out, HS2.out]
            exact (wq_end hend).symm
          rw [htop] at hcar ⊢
          have hfin : ∀ j, k + (i + 1) ≤ j → wq P j = wq P2 j := by
            intro j hj
            obtain ⟨r, rfl⟩ : ∃ r, j = k + r := ⟨j - k, by omega⟩
            rw [HS1.out, HS2.out, wq_small (Nat.lt_of_lt_of_le HPK.out (Nat.pow_le_pow_right (by decide) (by omega))), wq_small (Nat.lt_of_lt_of_le hend (Nat.pow_le_pow_right (by decide) (by omega)))]
          have HFIN := Lib.hid hfin; clear hfin hend htop
          have j1 : (k : Int) + (i : Int) < (N : Int) := by omega
          have j2 : ((k : Int) + (i : Int)).toNat = k + i := by omega
          go_wp2
          go_roundw
          case rel =>
            refine ⟨k + 1, by omega, by go_num, ?_, HB.out.setCell (Nat.le_refl _) _⟩
            refine (mixQ_step (a := k + i) HRW.out rfl).congr fun j _ => ?_
            rw [← HMR.out]
            unfold mixQ
            split
            · rfl
            · rw [HFIN.out j (by omega)]
          case measure => simp [intOf]; omega
    · obtain rfl : k = na := by omega
      have hl := loq_all HA.out
      go_wp2
      go_ret
      refine ⟨rfl, ?_, HB.out⟩
      rw [hl] at HRW
      exact HRW.out
end Go.Proofs.YtogmgfdihmacpaaGreatDoor


/-
  Contracts of package modular, the eighth part: store.
-/
namespace Go.Proofs.YtogmgfdihmacpaaGreatDoor
open Go.RowKit
set_option linter.unusedVariables false

theorem trimLeft_strip (l : List UInt8) : Lib.trimLeftB l 0 = strip l := by
  induction l with
  | nil => rfl
  | cons c l ih =>
    unfold Lib.trimLeftB strip
    by_cases h : c = 0
    · subst h
      rw [if_pos rfl, ← ih]; rfl
    · rw [if_neg h, List.dropWhile_cons_of_neg (by simpa using h)]
theorem Tryz.und9 : Tryz.prog.underlying 9 = some .string := by kernel_rfl
theorem run_bytes_string9 {w : World} {g o : Nat} {l : List UInt8} (h : Bytes w g o l) (c n : Nat) (hn : n = l.length) :
    (convert 83 9 (.slice (some ⟨g, o, none⟩) n c)).run Tryz.prog w = .ok (.string ⟨l.toArray⟩) w := by
  subst hn
  have := run_convert_bytes_arg (P := Tryz.prog) w 83 5 Tryz.und83 Tryz.und5 g o l.length c (l.map fun c => (c.toNat : Int)) (by simp) (fun i hi => by
    rw [h i hi]; simp [List.getD, hi]) 9 Tryz.und9
  rw [this, strOfNums_bytes]
theorem dig_of_wq {N k q r : Nat} (hq : q = k / 8) (hr : r = k % 8) : (wq N q : Int) / 2 ^ (8 * r) % 256 = (dig N k : Nat) := by
  have e : wq N q / 2 ^ (8 * r) % 256 = dig N k := by
    have hk : k = 8 * q + r := by omega
    have hr4 : r < 8 := by omega
    subst hk
    unfold wq dig
    rw [b64_powj, pow256, Nat.pow_add, ← Nat.div_div_eq_div_mul]
    generalize N / 256 ^ (8 * q) = x
    have : B64 = 256 ^ r * 256 ^ (8 - r) := by rw [b64_pow, ← Nat.pow_add]; congr 1; omega
    rw [this, Nat.mod_mul_right_div_self]
    have h4 : 256 ^ (8 - r) = 256 * 256 ^ (7 - r) := by rw [Nat.mul_comm, ← Nat.pow_succ]; congr 1; omega
    rw [h4, Nat.mod_mul_right_mod]
  rw [← e]
  simp

set_option maxHeartbeats 400000 in
set_option maxRecDepth 20000 in
theorem mstore_any (g o n c N : Nat) (w : World) (hnc : n ≤ c) (hc : c ≤ 1000) (hN : N < B64 ^ n) (hg : g < w.heap.size) (hws : WordsQ w g o n N) :
    Calls Tryz.prog 79 #[.slice (some ⟨g, o, none⟩) n c] w fun e w' => e = .returned (.string (E N)) ∧ Below w.heap.size w w' := by
  have hmk := run_make_bytes (8 * n) (by omega)
  have hmk : ∀ w : World, (Instr.makeSlice 83 (.int .i64 (8 * (n : Int))) (.int .i64 (8 * (n : Int)))).run Tryz.prog w = .ok (.slice (some ⟨w.heap.size, 0, none⟩) (8 * n) (8 * n)) (w.alloc (.cells (madeCells #[.int .u8 0] (8 * n)) 5)) := hmk
  have HW := Lib.hid hws; clear hws
  have HN := Lib.hid hN; clear hN
  go_enter Tryz.func79, Tryz.ntmps79
  go_wp2
  go_loopw [4, 11] (fun _ v wr => ∃ k : Nat, k ≤ 8 * n ∧ v = .int .i64 k ∧ wr.rowIs w.heap.size 5 (8 * n) (fun j => .int .u8 (partB N (8 * n) k j : Nat)) ∧ Below w.heap.size w wr) (fun _ v _ => 8 * n - (intOf v).toNat)
  case atStart => exact ⟨0, by omega, rfl, part_zero w _ _ _, (Below.refl _ _).alloc (Nat.le_refl _) _⟩
  case round =>
    obtain ⟨k, hk, rfl, hrow, hbel⟩ := hrel
    by_cases hlt : k < 8 * n
    · obtain ⟨q, hq⟩ : ∃ q, q = k / 8 := ⟨_, rfl⟩
      obtain ⟨r, hr⟩ : ∃ r, r = k % 8 := ⟨_, rfl⟩
      have hr4 : r < 8 := by omega
      have hqn : q < n := by omega
      have hcell := hrow.cell (i := 8 * n - 1 - k) (by omega)
      have hfr := hrow.frozen (8 * n - 1 - k)
      have hsrc : wr.cell? ⟨g, o + q, none⟩ = some (.int .u64 (wq N q : Nat)) := (hbel.cell (p := ⟨g, o + q, none⟩) hg).trans (HW.out q hqn)
      have hwl := wq_lt N q
      have q1 : (k : Int) / 8 = (q : Int) := by omega
      have q2 : (k : Int) % 8 = (r : Int) := by omega
      have HQ := Lib.hid hq; clear hq
      have HRR := Lib.hid hr; clear hr
      have HR := Lib.hid hrow; clear hrow
      go_wp2
      go_roundw
      case rel => exact ⟨k + 1, by omega, by go_num, part_step HR.out hlt (dig_of_wq HQ.out HRR.out), hbel.setCell (Nat.le_refl _) _⟩
      case measure => simp [intOf]; omega
    · obtain rfl : k = 8 * n := by omega
      have hb := part_done hrow
      have hN4 : N < 256 ^ (8 * n) := by rw [← b64_powj]; exact HN.out
      have hE := E_beN hN4
      have hcv := run_bytes_string9 hb (8 * n) (8 * n) (beN_length _ _).symm
      have HE := Lib.hid hE; clear hE hN4
      clear hb hrow
      go_wp2_with fail
      refine (Tryz.strings_TrimLeft_one ⟨(beN (8 * n) N).toArray⟩ 0 (by decide) _).mono ?_
      rintro e w' ⟨rfl, rfl⟩
      rw [trimLeft_strip, HE.out]
      go_wp2
      go_ret
      exact ⟨rfl, hbel⟩
end Go.Proofs.YtogmgfdihmacpaaGreatDoor

