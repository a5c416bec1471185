/-
  Several parts in one text (PA).
-/
import Derived.Test.YtfokiokcofabcaaDoorMD
import Derived.Test.YtfokiokcofabcaaDoorPQ
import Derived.Deep.LoopGhost
import Derived.WalkMore
import Derived.Deep.WholeRow
import Derived.Laws.CopyOwn
/-
  Contracts of package prime, the first part: check, oddPart.
-/
namespace Go.Proofs.YtfokiokcofabcaaDoor
open Go.RowKit
set_option linter.unusedVariables false

theorem check_form (s : ByteArray) (w : World) (h : ¬ Can s) :
    Calls Tryd.prog 27 #[.string s] w fun e w' => e = .returned (.int .i64 3) ∧ w = w' := by
  have HC := Lib.hid h; clear h
  go_enter Tryd.func27, Tryd.ntmps27
  go_wp2_with fail
  refine (valid_no s _ HC.out).mono ?_; rintro e w' ⟨rfl, rfl⟩
  go_wp2
  go_ret
  exact ⟨rfl, rfl⟩
theorem check_long (s : ByteArray) (w : World) (h : Can s) (h8 : ¬ s.size ≤ 8) :
    Calls Tryd.prog 27 #[.string s] w fun e w' => e = .returned (.int .i64 5) ∧ w = w' := by
  have HS := Lib.hid (show ¬ SmallC s from fun q => h8 q.2)
  have HC := Lib.hid h; clear h
  go_enter Tryd.func27, Tryd.ntmps27
  go_wp2_with fail
  refine (valid_yes s _ HC.out).mono ?_; rintro e w' ⟨rfl, rfl⟩
  go_wp2_with fail
  refine (small_no s _ HS.out).mono ?_; rintro e w' ⟨rfl, rfl⟩
  go_wp2
  go_ret
  exact ⟨rfl, rfl⟩
theorem check_yes (s : ByteArray) (w : World) (h : SmallC s) :
    Calls Tryd.prog 27 #[.string s] w fun e w' => e = .returned (.int .i64 0) ∧ w = w' := by
  have HC := Lib.hid h; clear h
  go_enter Tryd.func27, Tryd.ntmps27
  go_wp2_with fail
  refine (valid_yes s _ HC.out.1).mono ?_; rintro e w' ⟨rfl, rfl⟩
  go_wp2_with fail
  refine (small_yes s _ HC.out).mono ?_; rintro e w' ⟨rfl, rfl⟩
  go_wp2
  go_ret
  exact ⟨rfl, rfl⟩

/-! ### oddPart -/
def OddR (n : Nat) (w : World) (m : Nat) (u v : Value) (wr : World) : Prop :=
  u = .string (E m) ∧ (∃ s : Nat, v = .int .i64 s ∧ n = 2 ^ s * m ∧ s ≤ 1024) ∧ 0 < m ∧ Below w.heap.size w wr
theorem lim_pow2 : Lim = 2 ^ 1024 := by rw [lim_eq]; decide +kernel
theorem pow_le_lim {s m n : Nat} (h : n = 2 ^ s * m) (hm : 0 < m) (hn : n < Lim) : s < 1024 := by
  rw [lim_pow2] at hn
  have : 2 ^ s ≤ n := by rw [h]; exact Nat.le_mul_of_pos_right _ hm
  exact (Nat.pow_lt_pow_iff_right (by decide)).mp (Nat.lt_of_le_of_lt this hn)
set_option maxHeartbeats 400000 in
theorem oddPart_any (n : Nat) (w : World) (hn : n < Lim) (h0 : 0 < n) :
    Calls Tryd.prog 42 #[.string (E n)] w fun e w' => ∃ s d : Nat, n = 2 ^ s * d ∧ d % 2 = 1 ∧ s ≤ 1024 ∧
      e = .returned (.tuple #[.string (E d), .int .i64 s]) ∧ Below w.heap.size w w' := by
  have HN := Lib.hid hn; clear hn
  go_enter Tryd.func42, Tryd.ntmps42
  go_wp2
  go_loopg [0, 4] n (fun m u v wr => OddR n w m u v wr)
  case atStart => exact ⟨rfl, ⟨0, rfl, by rw [Nat.pow_zero, Nat.one_mul], by omega⟩, h0, Below.refl _ _⟩
  case round =>
    obtain ⟨rfl, ⟨s, rfl, hs, hs2⟩, hm, hbel⟩ := hrel
    have hslt := pow_le_lim hs hm HN.out
    have hml : gk < Lim := Nat.lt_of_le_of_lt (by rw [hs]; exact Nat.le_mul_of_pos_left _ (Nat.pow_pos (by decide))) HN.out
    have HS := Lib.hid hs; clear hs
    have HML := Lib.hid hml; clear hml
    go_wp2_with fail
    refine (bit_yes (E gk) 0 _ (can_E' HML.out) (by omega)).mono ?_; rintro e wx ⟨rfl, rfl⟩
    rw [V_E]
    rcases Nat.mod_two_eq_zero_or_one gk with ho | ho
    · have hb : gk.testBit 0 = false := by rw [Nat.testBit_zero, ho]; rfl
      rw [hb]
      have HO := Lib.hid ho; clear ho
      have hd := divN_pos (a := gk) (b := 2) (by omega)
      have HD := Lib.hid hd; clear hd
      go_wp2_with fail
      refine (of_any 2 _ (by omega)).mono ?_
      rintro e w4 ⟨rfl, hb4⟩
      go_wp2_with fail
      refine (divMod_yes (E gk) (E 2) _ (can_E' HML.out) (can_E' two_lim)).mono ?_
      rintro e w5 ⟨rfl, hb5⟩
      rw [V_E, V_E, HD.out]
      have l1 := hbel.size
      have l4 := hb4.size
      have hbf : Below w.heap.size w w5 := (hbel.trans (hb4.mono (by omega))).trans (hb5.mono (by omega))
      have hrel2 : n = 2 ^ (s + 1) * (gk / 2) ∧ 0 < gk / 2 ∧ gk / 2 < gk := by
        have := HO.out
        refine ⟨?_, by omega, by omega⟩
        rw [HS.out, Nat.pow_succ, Nat.mul_assoc, show 2 * (gk / 2) = gk from by omega]
      have HR := Lib.hid hrel2; clear hrel2
      go_wp2
      go_roundg (gk / 2)
      case measure => exact HR.out.2.2
      case rel => exact ⟨rfl, ⟨s + 1, by rw [Int.natCast_add]; rfl, HR.out.1, by omega⟩, HR.out.2.1, hbf⟩
    · have hb : gk.testBit 0 = true := by rw [Nat.testBit_zero, ho]; rfl
      rw [hb]
      have HO := Lib.hid ho; clear ho
      go_wp2
      go_ret2
      exact ⟨s, gk, HS.out, HO.out, hs2, rfl, hbel⟩
end Go.Proofs.YtfokiokcofabcaaDoor


/-
  Contracts of package prime, the second part: strong.
-/
namespace Go.Proofs.YtfokiokcofabcaaDoor
open Go.RowKit
set_option linter.unusedVariables false

theorem pow_twice {A n d i : Nat} : (A ^ (2 ^ i * d) % n) * (A ^ (2 ^ i * d) % n) % n = A ^ (2 ^ (i + 1) * d) % n := by
  rw [← Nat.mul_mod, ← Nat.pow_add, Nat.pow_succ, Nat.mul_comm (2 ^ i) 2, Nat.mul_assoc, Nat.two_mul]
theorem not_pass {n A s d : Nat} (h : n - 1 = 2 ^ s * d) (ho : d % 2 = 1) (h0 : A % n ≠ 0) (h1 : A ^ d % n ≠ 1) (h2 : ∀ t, t < s → A ^ (2 ^ t * d) % n ≠ n - 1) : ¬ QR.PassN n A := by
  rw [QR.PassN_iff h ho]
  rintro (e | e | ⟨i, hi, e⟩)
  · exact h0 e
  · exact h1 e
  · exact h2 i hi e
theorem all_next {P : Nat → Prop} {j : Nat} (h : ∀ i, i < j → P i) (hj : P j) : ∀ i, i < j + 1 → P i := fun i hi => by
  by_cases e : i = j
  · rw [e]; exact hj
  · exact h i (by omega)
theorem keepB {w w' : World} {g j : Nat} {v : Value} (b : Below w.heap.size w w') (hg : g < w.heap.size) (h : w.cell? ⟨g, j, none⟩ = some v) : w'.cell? ⟨g, j, none⟩ = some v := (b.cell (p := ⟨g, j, none⟩) hg).trans h
/-- What strong reports. -/
def StrP (n k : Nat) (f : Nat → ByteArray) (b : Bool) : Prop := b = true ↔ n = 2 ∨ (n % 2 = 1 ∧ n ≠ 1 ∧ ∀ j, j < k → QR.PassN n (V (f j)))

set_option maxHeartbeats 1000000 in
set_option maxRecDepth 20000 in
theorem strong_any (n g k : Nat) (f : Nat → ByteArray) (w : World) (hn : n < Lim) (hk : k ≤ 100) (hg : g < w.heap.size)
    (hc : ∀ j, j < k → w.cell? ⟨g, j, none⟩ = some (.string (f j))) (hf : ∀ j, j < k → Can (f j)) :
    Calls Tryd.prog 29 #[.string (E n), .slice (some ⟨g, 0, none⟩) k k] w fun e w' => (∃ b : Bool, e = .returned (.bool b) ∧ StrP n k f b) ∧ Below w.heap.size w w' := by
  have CN := Lib.hid (can_E' hn)
  have HN := Lib.hid hn; clear hn
  have HC := Lib.hid hc; clear hc
  have HF := Lib.hid hf; clear hf
  have HG := Lib.hid hg; clear hg
  have hb0 := bit0 n
  by_cases h2 : n = 2
  · have hres : StrP n k f true := by unfold StrP; simp [h2]
    have HR := Lib.hid hres; clear hres hb0
    subst h2
    go_enter Tryd.func29, Tryd.ntmps29
    go_wp2
    apply wp_scope_straight
    go_wp2_with fail
    refine (of_any 1 _ (by omega)).mono ?_
    rintro e w1 ⟨rfl, b1⟩
    go_wp2_with fail
    refine (of_any 2 _ (by omega)).mono ?_
    rintro e w2 ⟨rfl, b2⟩
    go_wp2
    rw [Exit.noGoto_ret]
    go_ret
    exact ⟨⟨true, rfl, HR.out⟩, bnext b1 b2⟩
  have hbe2 := E_bne h2
  rcases Nat.mod_two_eq_zero_or_one n with ho | ho
  · have hres : StrP n k f false := by unfold StrP; simp; exact ⟨h2, fun q => absurd q (by omega)⟩
    have HR := Lib.hid hres; clear hres
    have hb : n.testBit 0 = false := by rw [hb0, decide_eq_false (by omega)]
    have HB := Lib.hid hb; clear hb hb0
    go_enter Tryd.func29, Tryd.ntmps29
    go_wp2
    apply wp_scope_straight
    go_wp2_with fail
    refine (of_any 1 _ (by omega)).mono ?_
    rintro e w1 ⟨rfl, b1⟩
    go_wp2_with fail
    refine (of_any 2 _ (by omega)).mono ?_
    rintro e w2 ⟨rfl, b2⟩
    go_wp2_with fail
    refine (bit_yes _ 0 _ CN.out (by omega)).mono ?_
    rintro e wx ⟨rfl, rfl⟩
    rw [V_E, HB.out]
    go_wp2
    rw [Exit.noGoto_ret]
    go_ret
    exact ⟨⟨false, rfl, HR.out⟩, bnext b1 b2⟩
  have hb : n.testBit 0 = true := by rw [hb0, decide_eq_true (by omega)]
  have HB := Lib.hid hb; clear hb hb0
  by_cases h1 : n = 1
  · have hres : StrP n k f false := by unfold StrP; simp; exact ⟨h2, fun _ q => absurd h1 q⟩
    have HR := Lib.hid hres; clear hres
    subst h1
    go_enter Tryd.func29, Tryd.ntmps29
    go_wp2
    apply wp_scope_straight
    go_wp2_with fail
    refine (of_any 1 _ (by omega)).mono ?_
    rintro e w1 ⟨rfl, b1⟩
    go_wp2_with fail
    refine (of_any 2 _ (by omega)).mono ?_
    rintro e w2 ⟨rfl, b2⟩
    go_wp2_with fail
    refine (bit_yes _ 0 _ CN.out (by omega)).mono ?_
    rintro e wx ⟨rfl, rfl⟩
    rw [V_E, HB.out]
    go_wp2
    rw [Exit.noGoto_ret]
    go_ret
    exact ⟨⟨false, rfl, HR.out⟩, bnext b1 b2⟩
  have hbe1 := E_bne h1
  have C1 := Lib.hid (can_E' (small_lim (n := 1) (by omega)))
  have hsub := subN_yes (a := n) (b := 1) (by omega)
  have HSUB := Lib.hid hsub; clear hsub
  have hn3 : 3 ≤ n := by omega
  have HN3 := Lib.hid hn3
  have hsz := Nat.pos_of_ne_zero (E_size_ne (n := n) (by omega))
  have HSZ := Lib.hid hsz; clear hsz
  have HO := Lib.hid ho; clear ho
  have HH1 := Lib.hid h1; clear h1
  have HH2 := Lib.hid h2; clear h2
  have hl1 : n - 1 < Lim := Nat.lt_of_le_of_lt (Nat.sub_le _ _) HN.out
  have HL1 := Lib.hid hl1; clear hl1
  clear hn3
  go_enter Tryd.func29, Tryd.ntmps29
  go_wp2
  apply wp_scope_straight
  go_wp2_with fail
  refine (of_any 1 _ (by omega)).mono ?_
  rintro e w1 ⟨rfl, b1⟩
  go_wp2_with fail
  refine (of_any 2 _ (by omega)).mono ?_
  rintro e w2 ⟨rfl, b2⟩
  have B2 := Lib.hid (bnext b1 b2); clear b1 b2
  go_wp2_with fail
  refine (bit_yes _ 0 _ CN.out (by omega)).mono ?_
  rintro e wx ⟨rfl, rfl⟩
  rw [V_E, HB.out]
  go_wp2_with fail
  refine (sub_yes _ _ _ CN.out C1.out).mono ?_
  rintro e w3 ⟨rfl, b3⟩
  rw [V_E, V_E, HSUB.out]
  have B3 := Lib.hid (bnext B2.out b3); clear b3
  go_wp2_with fail
  refine (oddPart_any (n - 1) _ HL1.out (by have := HN3.out; omega)).mono ?_
  rintro e w4 ⟨s, d, hsd, hdo, hs, rfl, b4⟩
  have B4 := Lib.hid (bnext B3.out b4); clear b4
  have HSD := Lib.hid hsd; clear hsd
  have HDO := Lib.hid hdo; clear hdo
  have hdl : d < Lim := Nat.lt_of_le_of_lt (by rw [HSD.out]; exact Nat.le_mul_of_pos_left _ (Nat.pow_pos (by decide))) HL1.out
  have CD := Lib.hid (can_E' hdl); clear hdl
  go_wp2
  apply wp_label
  go_wp2
  go_loopw [44] (fun vj wr => ∃ j : Nat, j ≤ k ∧ vj = .int .i64 j ∧ Hid (∀ i, i < j → QR.PassN n (V (f i))) ∧ Hid (Below w.heap.size w wr)) (fun vj _ => k - (intOf vj).toNat)
  case atStart => exact ⟨0, by omega, rfl, Lib.hid (fun i q => absurd q (by omega)), B4⟩
  case round =>
    obtain ⟨j, hj, rfl, HP, B⟩ := hrel
    by_cases hlt : j < k
    · have hcell := keepB B.out HG.out (HC.out j hlt)
      have CF := Lib.hid (HF.out j hlt)
      have hnx : QR.PassN n (V (f j)) → ∀ i, i < j + 1 → QR.PassN n (V (f i)) := fun q => all_next (P := fun i => QR.PassN n (V (f i))) HP.out q
      have hno : ¬ QR.PassN n (V (f j)) → StrP n k f false := fun q => by
        unfold StrP
        simp
        exact ⟨HH2.out, fun _ _ => ⟨j, hlt, q⟩⟩
      obtain ⟨b, hb⟩ : ∃ b, b = f j := ⟨_, rfl⟩
      rw [← hb] at hcell CF hnx hno
      clear hb
      have HNX := Lib.hid hnx; clear hnx
      have HNO := Lib.hid hno; clear hno
      have hd := divN_pos (a := V b) (b := n) (by have := HN3.out; omega)
      have HD := Lib.hid hd; clear hd
      go_wp2_with fail
      refine (divMod_yes _ _ _ CF.out CN.out).mono ?_
      rintro e w5 ⟨rfl, b5⟩
      rw [V_E, HD.out]
      have B5 := Lib.hid (bnext B.out b5); clear b5
      obtain ⟨r, hr⟩ : ∃ r, r = V b % n := ⟨_, rfl⟩
      rw [← hr]
      by_cases hr0 : r = 0
      · subst hr0
        have h00 : ((E 0).toList == ([] : List UInt8)) = true := by decide +kernel
        have hpass : QR.PassN n (V b) := (QR.PassN_iff HSD.out HDO.out).mpr (.inl hr.symm)
        have HPA := Lib.hid (HNX.out hpass); clear hpass
        clear hr
        go_wp2
        go_roundw
        case rel => exact ⟨j + 1, by omega, by go_num, HPA, B5⟩
        case measure => simp [intOf]; omega
      · have hne := not_empty_of (E_size_ne hr0)
        have HR0 := Lib.hid (show V b % n ≠ 0 by rw [← hr]; exact hr0); clear hr hr0
        go_wp2_with fail
        refine (mexp_ok _ _ _ _ CF.out CD.out CN.out HSZ.out).mono ?_
        rintro e w6 ⟨rfl, b6⟩
        rw [V_E, V_E]
        have B6 := Lib.hid (bnext B5.out b6); clear b6
        obtain ⟨A, hA⟩ : ∃ A, A = V b := ⟨_, rfl⟩
        rw [← hA] at HNX HNO HR0 ⊢
        clear hA
        obtain ⟨p, hp⟩ : ∃ p, p = A ^ d % n := ⟨_, rfl⟩
        rw [← hp]
        by_cases hp1 : p = 1
        · have hpass : QR.PassN n A := (QR.PassN_iff HSD.out HDO.out).mpr (.inr (.inl (by rw [← hp]; exact hp1)))
          have HPA := Lib.hid (HNX.out hpass); clear hpass hp
          subst hp1
          go_wp2
          go_roundw
          case rel => exact ⟨j + 1, by omega, by go_num, HPA, B6⟩
          case measure => simp [intOf]; omega
        · have hbp := E_bne hp1
          have HP1 := Lib.hid (show A ^ d % n ≠ 1 by rw [← hp]; exact hp1); clear hp1
          have HPP := Lib.hid hp; clear hp
          go_wp2
          go_loopw [16, 68] (fun vp vi wr => ∃ (i x : Nat), i ≤ s ∧ vp = .string (E x) ∧ vi = .int .i64 i ∧ Hid (x = A ^ (2 ^ i * d) % n) ∧ Hid (∀ t, t < i → A ^ (2 ^ t * d) % n ≠ n - 1) ∧ Hid (Below w.heap.size w wr)) (fun _ vi _ => s - (intOf vi).toNat)
          case atStart => exact ⟨0, p, by omega, rfl, rfl, Lib.hid (by rw [HPP.out, Nat.pow_zero, Nat.one_mul]), Lib.hid (fun t q => absurd q (by omega)), B6⟩
          case round =>
            obtain ⟨i, x, hi, rfl, rfl, HX, HT, B7⟩ := hrel
            by_cases hil : i < s
            · by_cases hxl : x = n - 1
              · have hpass : QR.PassN n A := (QR.PassN_iff HSD.out HDO.out).mpr (.inr (.inr ⟨i, hil, by rw [← HX.out]; exact hxl⟩))
                have HPA := Lib.hid (HNX.out hpass); clear hpass HX HT
                subst hxl
                go_wp2
                go_roundw
                case rel => exact ⟨j + 1, by omega, by go_num, HPA, B7⟩
                case measure => simp [intOf]; omega
              · have hbx := E_bne hxl
                have HT2 := Lib.hid (all_next (P := fun t => A ^ (2 ^ t * d) % n ≠ n - 1) HT.out (by rw [← HX.out]; exact hxl))
                have hxn : x < n := by rw [HX.out]; exact Nat.mod_lt _ (by have := HN3.out; omega)
                have CX := Lib.hid (can_E' (Nat.lt_trans hxn HN.out)); clear hxn
                have HX2 : Hid (x * x % n = A ^ (2 ^ (i + 1) * d) % n) := Lib.hid (by rw [HX.out]; exact pow_twice)
                clear HX HT hxl
                go_wp2_with fail
                refine (mmul_ok _ _ _ _ CX.out CX.out CN.out HSZ.out).mono ?_
                rintro e w8 ⟨rfl, b8⟩
                rw [V_E, V_E]
                have B8 := Lib.hid (bnext B7.out b8); clear b8
                obtain ⟨y, hy⟩ : ∃ y, y = x * x % n := ⟨_, rfl⟩
                rw [← hy] at HX2 ⊢
                clear hy
                go_wp2
                go_roundw
                case rel => exact ⟨i + 1, y, by omega, rfl, by go_num, HX2, HT2, B8⟩
                case measure => simp [intOf]; omega
            · obtain rfl : i = s := by omega
              have hres := HNO.out (not_pass HSD.out HDO.out HR0.out HP1.out HT.out)
              have HRES := Lib.hid hres; clear hres
              go_wp2
              rw [Exit.noGoto_ret]
              go_ret
              exact ⟨⟨false, rfl, HRES.out⟩, B7.out⟩
    · obtain rfl : j = k := by omega
      have hres : StrP n j f true := by unfold StrP; simp; exact .inr ⟨HO.out, HH1.out, HP.out⟩
      have HRES := Lib.hid hres; clear hres
      go_wp2
      rw [Exit.noGoto_ret]
      go_ret
      exact ⟨⟨true, rfl, HRES.out⟩, B.out⟩
end Go.Proofs.YtfokiokcofabcaaDoor


/-
  Contracts of package prime, the third part: Strong.
-/
namespace Go.Proofs.YtfokiokcofabcaaDoor
open Go.RowKit
set_option linter.unusedVariables false

theorem pstrong_no (s t : ByteArray) (w : World) (h : ¬ (Can s ∧ Can t)) :
    Calls Tryd.prog 16 #[.string s, .string t] w fun e w' => e = .returned (.tuple #[.bool false, .int .i64 3]) ∧ w = w' := by
  by_cases hc : Can s
  · have hd : ¬ Can t := fun q => h ⟨hc, q⟩
    have HC := Lib.hid hc; clear hc h
    have HD := Lib.hid hd; clear hd
    go_enter Tryd.func16, Tryd.ntmps16
    go_wp2_with fail
    refine (valid_yes s _ HC.out).mono ?_; rintro e w' ⟨rfl, rfl⟩
    go_wp2_with fail
    refine (valid_no t _ HD.out).mono ?_; rintro e w' ⟨rfl, rfl⟩
    go_wp2
    go_ret2
    exact ⟨rfl, rfl⟩
  · have HC := Lib.hid hc; clear hc h
    go_enter Tryd.func16, Tryd.ntmps16
    go_wp2_with fail
    refine (valid_no s _ HC.out).mono ?_; rintro e w' ⟨rfl, rfl⟩
    go_wp2
    go_ret2
    exact ⟨rfl, rfl⟩
theorem one_cell (w : World) (v : Value) (t : TypeId) : ∀ j, j < 1 → (w.alloc (.cells #[v] t)).cell? ⟨w.heap.size, j, none⟩ = some v := fun j hj => by
  have h : (w.alloc (.cells #[v] t)).rowIs w.heap.size t 1 (fun _ => v) := World.rowIs_alloc w #[v] t (fun _ => v) (fun i hi => by
    have : i = 0 := by simp at hi; omega
    subst this; rfl)
  exact h.cell hj
set_option maxHeartbeats 1000000 in
theorem pstrong_yes (n : Nat) (t : ByteArray) (w : World) (hn : n < Lim) (ht : Can t) :
    Calls Tryd.prog 16 #[.string (E n), .string t] w fun e w' => (∃ b : Bool, e = .returned (.tuple #[.bool b, .int .i64 0]) ∧ StrP n 1 (fun _ => t) b) ∧ Below w.heap.size w w' := by
  have CN := Lib.hid (can_E' hn)
  have HN := Lib.hid hn; clear hn
  have HT := Lib.hid ht; clear ht
  go_enter Tryd.func16, Tryd.ntmps16
  go_wp2_with fail
  refine (valid_yes _ _ CN.out).mono ?_; rintro e w' ⟨rfl, rfl⟩
  go_wp2_with fail
  refine (valid_yes t _ HT.out).mono ?_; rintro e w' ⟨rfl, rfl⟩
  go_wp2_with fail
  refine (strong_any n w.heap.size 1 (fun _ => t) _ HN.out (by omega) (by rw [World.size_alloc]; omega) (one_cell w (.string t) _) (fun _ _ => HT.out)).mono ?_
  rintro e w1 ⟨⟨b, rfl, hb⟩, b1⟩
  have HB := Lib.hid hb; clear hb
  have B1 := Lib.hid (show Below w.heap.size w w1 from ((Below.refl _ _).alloc (Nat.le_refl _) _).trans (b1.mono (by rw [World.size_alloc]; omega)))
  clear b1
  go_wp2
  go_ret2
  exact ⟨⟨b, rfl, HB.out⟩, B1.out⟩
end Go.Proofs.YtfokiokcofabcaaDoor


/-
  Contracts of package prime, the fourth part: firstPrimes, Is.
-/
namespace Go.Proofs.YtfokiokcofabcaaDoor
open Go.RowKit Go.Deep
set_option linter.unusedVariables false

/-- The twelve places, j of them filled. -/
def fpF (j i : Nat) : Value := if i < j then .string (E (QR.first12.getD i 0)) else .string ⟨#[]⟩
def fpC : Array Value := ((List.range 12).map fun i => Value.string (E (QR.first12.getD i 0))).toArray
theorem fpC_size : fpC.size = 12 := by simp [fpC]
theorem fpC_one : fpC.all (·.oneCell') = true := by simp [fpC, Value.oneCell']
theorem fpC_get (i : Nat) (h : i < 12) : fpC[i]? = some (.string (E (QR.first12.getD i 0))) := by simp [fpC, h]
theorem fp_step {w : World} {g t j : Nat} (h : w.rowIs g t 12 (fpF j)) (hj : j < 12) : (w.setCell ⟨g, j, none⟩ (.string (E (QR.first12.getD j 0)))).rowIs g t 12 (fpF (j + 1)) := by
  refine (h.set j _).congr fun i hi => ?_
  show (if i = j then _ else _) = _
  unfold fpF
  by_cases e : i = j
  · rw [if_pos e, if_pos (by omega), e]
  · rw [if_neg e]
    by_cases q : i < j
    · rw [if_pos q, if_pos (by omega)]
    · rw [if_neg q, if_neg (by omega)]
theorem fp_done {w : World} {g t : Nat} (h : w.rowIs g t 12 (fpF 12)) : w.heap[g]? = some (.cells fpC t (0, 0)) := by
  obtain ⟨c, h1, h2, h3⟩ := h
  have : c = fpC := by
    apply Array.ext_getElem?
    intro i
    rcases Nat.lt_or_ge i 12 with q | q
    · rw [h3 i q, fpC_get i q, fpF, if_pos q]
    · rw [Array.getElem?_eq_none (by omega), Array.getElem?_eq_none (by rw [fpC_size]; omega)]
  rw [h1, this]
theorem row_keep {w w' : World} {g t n : Nat} {f : Nat → Value} (h : w.rowIs g t n f) (b : Below w.heap.size w w') : w'.rowIs g t n f := h.of_block (b.block _ h.lt)
theorem heap_set_self {w : World} {g : Nat} {t : TypeId} {c c' : Array Value} {fr : Nat × Nat} (h : w.heap[g]? = some (.cells c t fr)) : (w.setRow g c').heap[g]? = some (.cells c' t fr) := setRow_heap w g c c' t fr h
theorem Tryd.und54p : Tryd.prog.underlying 54 = some (.array 12 22) := by kernel_rfl
theorem Tryd.siz54p : (Tryd.prog.info? 54).map (·.size) = some 12 := by kernel_rfl
theorem fpC_siz : (Tryd.prog.info? 54).map (·.size) = some fpC.size := by rw [fpC_size]; exact Tryd.siz54p
/-- What the loop of firstPrimes knows. -/
def FpR (w : World) (j : Nat) (wr : World) : Prop := wr.rowIs w.heap.size 54 12 (fpF 0) ∧ wr.rowIs (w.heap.size + 1) 54 12 (fpF j) ∧ Below w.heap.size w wr
theorem fp_at (w : World) : ∀ j : Nat, j < 12 → (Instr.index 67 (.agg #[.int .u64 2, .int .u64 3, .int .u64 5, .int .u64 7, .int .u64 11, .int .u64 13, .int .u64 17, .int .u64 19, .int .u64 23, .int .u64 29, .int .u64 31, .int .u64 37]) (.int .i64 (j : Int))).run Tryd.prog w = .ok (.int .u64 (QR.first12.getD j 0 : Nat)) w := by
  intro j hj
  have h : j = 0 ∨ j = 1 ∨ j = 2 ∨ j = 3 ∨ j = 4 ∨ j = 5 ∨ j = 6 ∨ j = 7 ∨ j = 8 ∨ j = 9 ∨ j = 10 ∨ j = 11 := by omega
  rcases h with rfl | rfl | rfl | rfl | rfl | rfl | rfl | rfl | rfl | rfl | rfl | rfl
  all_goals (show _ = _; kernel_rfl)
theorem fp_small : ∀ j, QR.first12.getD j 0 < 18446744073709551616 := by
  intro j
  rcases j with _ | _ | _ | _ | _ | _ | _ | _ | _ | _ | _ | _ | j
  all_goals first | decide | (show (0 : Nat) < _; decide)

theorem fp_start (w : World) (c : Array Value) (hs : c.size = 12) (hc : ∀ i, i < 12 → c[i]? = some (.string ⟨#[]⟩)) : FpR w 0 ((w.alloc (.cells c 54)).alloc (.cells c 54)) := by
  have hc' : ∀ i, i < c.size → c[i]? = some (fpF 0 i) := fun i hi => by rw [hc i (by omega), fpF, if_neg (by omega)]
  have h1 := World.rowIs_alloc w c 54 (fpF 0) hc'
  have h2 := World.rowIs_alloc (w.alloc (.cells c 54)) c 54 (fpF 0) hc'
  rw [World.size_alloc, hs] at h2
  rw [hs] at h1
  exact ⟨h1.alloc _, h2, ((Below.refl _ _).alloc (Nat.le_refl _) _).alloc (by simp) _⟩
theorem fp_empty (i : Nat) (h : i < 12) : ((List.replicate 12 (Value.string ⟨#[]⟩)).toArray)[i]? = some (.string ⟨#[]⟩) := by rw [List.getElem?_toArray, List.getElem?_replicate, if_pos h]
set_option maxHeartbeats 1000000 in
set_option maxRecDepth 20000 in
theorem firstPrimes_any (w : World) :
    Calls Tryd.prog 28 #[] w fun e w' => e = .returned (.agg fpC) ∧ Below w.heap.size w w' := by
  go_enter Tryd.func28, Tryd.ntmps28
  go_wp2
  go_loopw [5] (fun v wr => ∃ j : Nat, j ≤ 12 ∧ v = .int .i64 j ∧ Hid (FpR w j wr)) (fun v _ => 12 - (intOf v).toNat)
  case atStart => exact ⟨0, by omega, rfl, Lib.hid (fp_start w _ rfl fp_empty)⟩
  case round =>
    obtain ⟨j, hj, rfl, HR⟩ := hrel
    by_cases hlt : j < 12
    · have hat := fun w => fp_at w j hlt
      have hsm := fp_small j
      obtain ⟨p, hp⟩ : ∃ p, p = QR.first12.getD j 0 := ⟨_, rfl⟩
      rw [← hp] at hat hsm
      have HS := Lib.hid hsm; clear hsm
      have HP := Lib.hid hp; clear hp
      go_wp2_with fail
      refine (of_any p _ HS.out).mono ?_
      rintro e w2 ⟨rfl, b2⟩
      have h1 := row_keep HR.out.1 b2
      have h2 := row_keep HR.out.2.1 b2
      have HB := Lib.hid (bnext HR.out.2.2 b2); clear b2
      have hcell := h2.cell (i := j) hlt
      have hfr := h2.frozen j
      have H1 := Lib.hid h1; clear h1
      have H2 := Lib.hid h2; clear h2
      go_wp2
      go_roundw
      case rel => exact ⟨j + 1, by omega, by go_num, Lib.hid ⟨H1.out.setOther (by show w.heap.size ≠ w.heap.size + 1; omega) _, by rw [HP.out]; exact fp_step H2.out hlt, HB.out.setCell (by show w.heap.size ≤ w.heap.size + 1; omega) _⟩⟩
      case measure => simp [intOf]; omega
    · obtain rfl : j = 12 := by omega
      obtain ⟨c0, hc0, hs0, -⟩ := HR.out.1
      have HC0 := Lib.hid hc0; clear hc0
      have H1 := Lib.hid (fp_done HR.out.2.1)
      have HB := Lib.hid HR.out.2.2
      clear HR
      go_wp2_with (first | (refine wpList_load_row rfl 54 _ rfl (w.heap.size + 1) rfl 54 _ _ _ H1.out Tryd.und54p rfl fpC_siz ?_) | (refine wpList_store_row rfl 54 _ _ rfl w.heap.size fpC rfl rfl 54 _ HC0.out fpC_siz (by rw [fpC_size]; exact hs0) fpC_one ?_))
      exact bodyPost_ret (v := .agg fpC) (results_cell_row rfl _ _ w.heap.size 54 fpC (0, 0) _ rfl (heap_set_self HC0.out) Tryd.und54p rfl fpC_siz) rfl ⟨rfl, below_setRow HB.out (by omega) _⟩
end Go.Proofs.YtfokiokcofabcaaDoor


/-
  Contracts of package prime, the fifth part: Is, Safe.
-/
namespace Go.Proofs.YtfokiokcofabcaaDoor
open Go.RowKit Go.Deep
set_option linter.unusedVariables false

theorem store_new {P : Program} {ops : Array Oper} {rest : List Oper} {o : Oper} {a : Act} {w : World} {Q : Exit → Act → World → Prop} (hgd : o.guard = none) (ty : TypeId) (x y : Operand) (ho : o.op = .store ty x y)
    (cells : Array Value) (hx : a.eval x = .pointer (some ⟨w.heap.size, 0, none⟩)) (hy : a.eval y = .agg cells)
    (t : TypeId) (old : Array Value) (hi : (P.info? ty).map (·.size) = some cells.size)
    (hold : old.size = cells.size) (h1 : cells.all (·.oneCell') = true)
    (h : wpList P ops Q rest (a.put o.dst undef) (w.alloc (.cells cells t))) : wpList P ops Q (o :: rest) a (w.alloc (.cells old t)) :=
  wpList_store_row hgd ty x y ho w.heap.size cells hx hy t old (heap_alloc_last w _) hi hold h1 (by rw [World.setRow_alloc_new]; exact h)
theorem first12_at {P : Nat → Prop} : (∀ j, j < 12 → P (QR.first12.getD j 0)) ↔ ∀ a, a ∈ QR.first12 → P a := by
  constructor
  · intro h a ha
    obtain ⟨j, hj, e⟩ := List.getElem_of_mem ha
    have := h j hj
    rw [List.getD_eq_getElem?_getD, List.getElem?_eq_getElem hj, Option.getD_some, e] at this
    exact this
  · intro h j hj
    have hj' : j < QR.first12.length := hj
    rw [List.getD_eq_getElem?_getD, List.getElem?_eq_getElem hj', Option.getD_some]
    exact h _ (List.getElem_mem hj')
theorem strP_is {n : Nat} {b : Bool} (h : StrP n 12 (fun j => E (QR.first12.getD j 0)) b) : b = true ↔ QR.StrongOk n QR.first12 := by
  unfold StrP at h
  rw [h]
  unfold QR.StrongOk
  simp only [V_E]
  rw [first12_at (P := fun a => QR.PassN n a)]
theorem smallP {n : Nat} (h : n < 18446744073709551616) : SmallC (E n) := ⟨can_E' (small_lim h), E_size_le.2 h⟩
theorem fp_can (j : Nat) (h : j < 12) : Can (E (QR.first12.getD j 0)) := can_E' (small_lim (fp_small j))
theorem fp_cell (w : World) (t : TypeId) : ∀ j, j < 12 → (w.alloc (.cells fpC t)).cell? ⟨w.heap.size, j, none⟩ = some (.string (E (QR.first12.getD j 0))) := fun j hj => by
  have h := World.rowIs_alloc w fpC t (fun i => .string (E (QR.first12.getD i 0))) (fun i hi => fpC_get i (by rw [fpC_size] at hi; exact hi))
  exact h.cell (by rw [fpC_size]; exact hj)

theorem is_form (s : ByteArray) (w : World) (h : ¬ Can s) :
    Calls Tryd.prog 13 #[.string s] w fun e w' => e = .returned (.tuple #[.bool false, .int .i64 3]) ∧ w = w' := by
  have HC := Lib.hid h; clear h
  go_enter Tryd.func13, Tryd.ntmps13
  go_wp2_with fail
  refine (check_form s _ HC.out).mono ?_; rintro e w' ⟨rfl, rfl⟩
  go_wp2
  go_ret2
  exact ⟨rfl, rfl⟩
theorem is_long (s : ByteArray) (w : World) (h : Can s) (h8 : ¬ s.size ≤ 8) :
    Calls Tryd.prog 13 #[.string s] w fun e w' => e = .returned (.tuple #[.bool false, .int .i64 5]) ∧ w = w' := by
  have HC := Lib.hid h; clear h
  have H8 := Lib.hid h8; clear h8
  go_enter Tryd.func13, Tryd.ntmps13
  go_wp2_with fail
  refine (check_long s _ HC.out H8.out).mono ?_; rintro e w' ⟨rfl, rfl⟩
  go_wp2
  go_ret2
  exact ⟨rfl, rfl⟩
set_option maxHeartbeats 1000000 in
set_option maxRecDepth 20000 in
theorem is_yes (n : Nat) (w : World) (hn : n < 18446744073709551616) :
    Calls Tryd.prog 13 #[.string (E n)] w fun e w' => (∃ b : Bool, e = .returned (.tuple #[.bool b, .int .i64 0]) ∧ (b = true ↔ QR.StrongOk n QR.first12)) ∧ Below w.heap.size w w' := by
  have HS := Lib.hid (smallP hn)
  have HL := Lib.hid (small_lim hn); clear hn
  go_enter Tryd.func13, Tryd.ntmps13
  go_wp2_with fail
  refine (check_yes _ _ HS.out).mono ?_; rintro e w' ⟨rfl, rfl⟩
  go_wp2_with fail
  refine (firstPrimes_any _).mono ?_; rintro e w1 ⟨rfl, b1⟩
  go_wp2_with (first | (refine store_new rfl 54 _ _ rfl fpC rfl rfl 54 _ fpC_siz (by rw [fpC_size]; rfl) fpC_one ?_))
  refine (strong_any n w1.heap.size 12 (fun j => E (QR.first12.getD j 0)) _ HL.out (by omega) (by rw [World.size_alloc]; omega) (fp_cell w1 _) fp_can).mono ?_
  rintro e w2 ⟨⟨b, rfl, hb⟩, b2⟩
  have HB := Lib.hid (strP_is hb); clear hb
  have B2 := Lib.hid (show Below w.heap.size w w2 from (b1.alloc b1.size _).trans (b2.mono (by rw [World.size_alloc]; have := b1.size; omega)))
  clear b1 b2
  go_wp2
  go_ret2
  exact ⟨⟨b, rfl, HB.out⟩, B2.out⟩
end Go.Proofs.YtfokiokcofabcaaDoor


/-
  Contracts of package prime, the sixth part: Safe, Next.
-/
namespace Go.Proofs.YtfokiokcofabcaaDoor
open Go.RowKit Go.Deep
set_option linter.unusedVariables false

theorem safe_form (s : ByteArray) (w : World) (h : ¬ Can s) :
    Calls Tryd.prog 22 #[.string s] w fun e w' => e = .returned (.tuple #[.bool false, .int .i64 3]) ∧ w = w' := by
  have HC := Lib.hid h; clear h
  go_enter Tryd.func22, Tryd.ntmps22
  go_wp2_with fail
  refine (is_form s _ HC.out).mono ?_; rintro e w' ⟨rfl, rfl⟩
  go_wp2
  go_ret2
  exact ⟨rfl, rfl⟩
theorem safe_long (s : ByteArray) (w : World) (h : Can s) (h8 : ¬ s.size ≤ 8) :
    Calls Tryd.prog 22 #[.string s] w fun e w' => e = .returned (.tuple #[.bool false, .int .i64 5]) ∧ w = w' := by
  have HC := Lib.hid h; clear h
  have H8 := Lib.hid h8; clear h8
  go_enter Tryd.func22, Tryd.ntmps22
  go_wp2_with fail
  refine (is_long s _ HC.out H8.out).mono ?_; rintro e w' ⟨rfl, rfl⟩
  go_wp2
  go_ret2
  exact ⟨rfl, rfl⟩
set_option maxHeartbeats 1000000 in
theorem safe_yes (n : Nat) (w : World) (hn : n < 18446744073709551616) :
    Calls Tryd.prog 22 #[.string (E n)] w fun e w' => (∃ b : Bool, e = .returned (.tuple #[.bool b, .int .i64 0]) ∧ (b = true ↔ QR.StrongOk n QR.first12 ∧ QR.StrongOk (n / 2) QR.first12)) ∧ Below w.heap.size w w' := by
  have HN := Lib.hid hn
  have HL := Lib.hid (can_E' (small_lim hn))
  have C2 := Lib.hid (can_E' (small_lim (n := 2) (by omega)))
  have hh : n / 2 < 18446744073709551616 := by omega
  have HH := Lib.hid hh; clear hn hh
  have HD := Lib.hid (divN_pos (a := n) (b := 2) (by omega))
  go_enter Tryd.func22, Tryd.ntmps22
  go_wp2_with fail
  refine (is_yes n _ HN.out).mono ?_; rintro e w1 ⟨⟨b, rfl, hb⟩, b1⟩
  have B1 := Lib.hid b1; clear b1
  have HB := Lib.hid hb; clear hb
  cases b with
  | false =>
    have hres : false = true ↔ QR.StrongOk n QR.first12 ∧ QR.StrongOk (n / 2) QR.first12 := ⟨fun q => by simp at q, fun q => absurd (HB.out.mpr q.1) (by simp)⟩
    have HR := Lib.hid hres; clear hres
    go_wp2
    go_ret2
    exact ⟨⟨false, rfl, HR.out⟩, B1.out⟩
  | true =>
    go_wp2_with fail
    refine (of_any 2 _ (by omega)).mono ?_
    rintro e w2 ⟨rfl, b2⟩
    have B2 := Lib.hid (bnext B1.out b2); clear b2
    go_wp2_with fail
    refine (divMod_yes _ _ _ HL.out C2.out).mono ?_
    rintro e w3 ⟨rfl, b3⟩
    rw [V_E, V_E, HD.out]
    have B3 := Lib.hid (bnext B2.out b3); clear b3
    go_wp2_with fail
    refine (is_yes (n / 2) _ HH.out).mono ?_; rintro e w4 ⟨⟨c, rfl, hc⟩, b4⟩
    have B4 := Lib.hid (bnext B3.out b4); clear b4
    have hres : c = true ↔ QR.StrongOk n QR.first12 ∧ QR.StrongOk (n / 2) QR.first12 := by rw [hc]; exact ⟨fun q => ⟨HB.out.mp (by simp), q⟩, fun q => q.2⟩
    have HR := Lib.hid hres; clear hres hc
    go_wp2
    go_ret2
    exact ⟨⟨c, rfl, HR.out⟩, B4.out⟩

/-! ### Next -/
theorem next_form (s : ByteArray) (w : World) (h : ¬ Can s) :
    Calls Tryd.prog 19 #[.string s] w fun e w' => e = .returned (.tuple #[.string ⟨#[]⟩, .int .i64 3]) ∧ w = w' := by
  have HC := Lib.hid h; clear h
  go_enter Tryd.func19, Tryd.ntmps19
  go_wp2_with fail
  refine (check_form s _ HC.out).mono ?_; rintro e w' ⟨rfl, rfl⟩
  go_wp2
  go_ret2
  exact ⟨rfl, rfl⟩
theorem next_long (s : ByteArray) (w : World) (h : Can s) (h8 : ¬ s.size ≤ 8) :
    Calls Tryd.prog 19 #[.string s] w fun e w' => e = .returned (.tuple #[.string ⟨#[]⟩, .int .i64 5]) ∧ w = w' := by
  have HC := Lib.hid h; clear h
  have H8 := Lib.hid h8; clear h8
  go_enter Tryd.func19, Tryd.ntmps19
  go_wp2_with fail
  refine (check_long s _ HC.out H8.out).mono ?_; rintro e w' ⟨rfl, rfl⟩
  go_wp2
  go_ret2
  exact ⟨rfl, rfl⟩
/-- None from n + 1 to x - 1 passes. -/
def NoneIn (n x : Nat) : Prop := ∀ k, n < k → k < x → ¬ QR.StrongOk k QR.first12
/-- What Next answers. -/
def NextP (n : Nat) (v : Value) : Prop :=
  (∃ m, n < m ∧ m < 18446744073709551616 ∧ QR.StrongOk m QR.first12 ∧ NoneIn n m ∧ v = .tuple #[.string (E m), .int .i64 0]) ∨
  (NoneIn n 18446744073709551616 ∧ v = .tuple #[.string ⟨#[]⟩, .int .i64 5])
theorem NoneIn.step {n x : Nat} (h : NoneIn n x) (hx : ¬ QR.StrongOk x QR.first12) : NoneIn n (x + 1) := fun k h1 h2 => by
  by_cases e : k = x
  · rw [e]; exact hx
  · exact h k h1 (by omega)
def NextR (n : Nat) (w : World) (y : Nat) (v : Value) (wr : World) : Prop :=
  ∃ x : Nat, x + y = 18446744073709551616 ∧ n < x ∧ v = .int .u64 ((x % 18446744073709551616 : Nat) : Int) ∧ NoneIn n x ∧ Below w.heap.size w wr
theorem u64_wrap_succ (x : Nat) : IntKind.u64.wrap ((x : Int) + 1) = (((x + 1) % 18446744073709551616 : Nat) : Int) := by
  simp [IntKind.wrap, IntKind.bits, IntKind.signed]
set_option maxHeartbeats 1000000 in
theorem next_yes (n : Nat) (w : World) (hn : n < 18446744073709551616) :
    Calls Tryd.prog 19 #[.string (E n)] w fun e w' => (∃ v, e = .returned v ∧ NextP n v) ∧ Below w.heap.size w w' := by
  have HN := Lib.hid hn
  have HS := Lib.hid (smallP hn)
  have hw := u64_wrap_succ n
  go_enter Tryd.func19, Tryd.ntmps19
  go_wp2_with fail
  refine (check_yes _ _ HS.out).mono ?_; rintro e w' ⟨rfl, rfl⟩
  go_wp2_with fail
  refine (small_yes _ _ HS.out).mono ?_; rintro e w' ⟨rfl, rfl⟩
  rw [V_E]
  go_wp2
  go_loopg [7] (18446744073709551616 - (n + 1)) (fun y v wr => NextR n w y v wr)
  case atStart => exact ⟨n + 1, by omega, by omega, rfl, fun k h1 h2 => by omega, Below.refl _ _⟩
  case round =>
    obtain ⟨x, hxy, hnx, rfl, hno, hbel⟩ := hrel
    have HB := Lib.hid hbel; clear hbel
    by_cases hx : x = 18446744073709551616
    · subst hx
      have HR := Lib.hid (show NextP n (.tuple #[.string ⟨#[]⟩, .int .i64 5]) from .inr ⟨hno, rfl⟩)
      clear hno hw
      go_wp2
      go_ret2
      exact ⟨⟨_, rfl, HR.out⟩, HB.out⟩
    · have hx2 : x < 18446744073709551616 := by omega
      have HX := Lib.hid hx2
      rw [Nat.mod_eq_of_lt hx2]
      have HNO := Lib.hid hno; clear hno hw
      have hw2 := u64_wrap_succ x
      go_wp2_with fail
      refine (of_any x _ HX.out).mono ?_
      rintro e w2 ⟨rfl, b2⟩
      have B2 := Lib.hid (bnext HB.out b2); clear b2
      go_wp2_with fail
      refine (is_yes x _ HX.out).mono ?_; rintro e w4 ⟨⟨c, rfl, hc⟩, b4⟩
      have B4 := Lib.hid (bnext B2.out b4); clear b4
      cases c with
      | true =>
        have HR := Lib.hid (show NextP n (.tuple #[.string (E x), .int .i64 0]) from .inl ⟨x, hnx, hx2, hc.mp rfl, HNO.out, rfl⟩)
        clear hc
        go_wp2
        go_ret2
        exact ⟨⟨_, rfl, HR.out⟩, B4.out⟩
      | false =>
        have HNO2 := Lib.hid (HNO.out.step (fun q => by have := hc.mpr q; simp at this))
        clear hc
        go_wp2
        go_roundg (gk - 1)
        case measure => omega
        case rel => exact ⟨x + 1, by omega, by omega, rfl, HNO2.out, B4.out⟩
end Go.Proofs.YtfokiokcofabcaaDoor

