/-
  The reference of layer 13: Product.
-/
import Derived.Test.YtogmgfdihmacpaaGreatDoorRW2
import Derived.Test.YtogmgfdihmacpaaGreatDoorPW6
namespace Go.Proofs.YtogmgfdihmacpaaGreatDoor
open Go.RowKit
set_option linter.unusedVariables false

abbrev Cel5 (wr : World) (p0 p1 p2 p3 p4 : Addr) (c0 c1 c2 c3 c4 : Value) (W : World) : Prop := W.cell? p0 = some c0 ∧ W.cell? p1 = some c1 ∧ W.cell? p2 = some c2 ∧ W.cell? p3 = some c3 ∧ W.cell? p4 = some c4 ∧ Below wr.heap.size wr W
theorem Cel5.of {wr W : World} {p0 p1 p2 p3 p4 : Addr} {c0 c1 c2 c3 c4 : Value} (h : Cel5 wr p0 p1 p2 p3 p4 c0 c1 c2 c3 c4 wr) (b : Below wr.heap.size wr W) : Cel5 wr p0 p1 p2 p3 p4 c0 c1 c2 c3 c4 W :=
  ⟨(b.cell (cell_ltP h.1)).trans h.1, (b.cell (cell_ltP h.2.1)).trans h.2.1, (b.cell (cell_ltP h.2.2.1)).trans h.2.2.1, (b.cell (cell_ltP h.2.2.2.1)).trans h.2.2.2.1, (b.cell (cell_ltP h.2.2.2.2.1)).trans h.2.2.2.2.1, b⟩
theorem Cel5.bel {wr W : World} {p0 p1 p2 p3 p4 : Addr} {c0 c1 c2 c3 c4 : Value} (h : Cel5 wr p0 p1 p2 p3 p4 c0 c1 c2 c3 c4 W) : Below wr.heap.size wr W := h.2.2.2.2.2
theorem prodG_form {M Q : ByteArray} {k1 : Nat} {f : Nat → ByteArray} {k2 : Nat} {ng : Nat → Bool} {s : Nat → ByteArray} (h : ¬ (CanL k1 f ∧ ValL k2 ng s)) : prodG M Q k1 f k2 ng s = (⟨#[]⟩, 3) := by
  unfold prodG
  by_cases hv : ValL k2 ng s
  · rw [if_neg (fun q => q hv), chkNs_form (fun q => h ⟨q, hv⟩), if_pos (by omega)]
  · rw [if_pos hv]
theorem prodG_err {M Q : ByteArray} {k1 : Nat} {f : Nat → ByteArray} {k2 : Nat} {ng : Nat → Bool} {s : Nat → ByteArray} (h1 : CanL k1 f) (hv : ValL k2 ng s) (h : chkG M Q ≠ 0) : prodG M Q k1 f k2 ng s = (⟨#[]⟩, chkG M Q) := by
  unfold prodG
  rw [if_neg (fun q => q hv), chkNs_ok h1, if_pos h]
theorem prodG_len {M Q : ByteArray} {k1 : Nat} {f : Nat → ByteArray} {k2 : Nat} {ng : Nat → Bool} {s : Nat → ByteArray} (h1 : CanL k1 f) (hv : ValL k2 ng s) (h : chkG M Q = 0) (hk : k1 ≠ k2) : prodG M Q k1 f k2 ng s = (⟨#[]⟩, 6) := by
  unfold prodG
  rw [if_neg (fun q => q hv), chkNs_ok h1, if_neg (fun q => q h), if_pos hk]
theorem prodG_no {M Q : ByteArray} {k : Nat} {f : Nat → ByteArray} {ng : Nat → Bool} {s : Nat → ByteArray} (h1 : CanL k f) (hv : ValL k ng s) (h : chkG M Q = 0) (he : ¬ ∀ j, j < k → EltG M Q (f j)) : prodG M Q k f k ng s = (⟨#[]⟩, 13) := by
  unfold prodG
  rw [if_neg (fun q => q hv), chkNs_ok h1, if_neg (fun q => q h), if_neg (fun q => q rfl), if_neg he]
theorem prodG_yes {M Q : ByteArray} {k : Nat} {f : Nat → ByteArray} {ng : Nat → Bool} {s : Nat → ByteArray} (hv : ValL k ng s) (h : chkG M Q = 0) (he : ∀ j, j < k → EltG M Q (f j)) :
    prodG M Q k f k ng s = (E (prZ (V M) (fun j => V (f j)) (fun j => IZ (ng j) (s j)) k), 0) := by
  unfold prodG
  rw [if_neg (fun q => q hv), chkNs_ok (fun j hj => (he j hj).1), if_neg (fun q => q h), if_neg (fun q => q rfl), if_pos he]
theorem pair_eq {S : ByteArray} {c : Int} {p : ByteArray × Int} {S' : ByteArray} {c' : Int} (h : (S, c) = p) (h2 : p = (S', c')) : S = S' ∧ c = c' := by
  rw [h2] at h
  exact ⟨congrArg Prod.fst h, congrArg Prod.snd h⟩
set_option maxHeartbeats 8000000 in
set_option maxRecDepth 100000 in
theorem r13prod_any (M Q : ByteArray) (v1 v2 : Value) (k1 k2 : Nat) (f : Nat → ByteArray) (ng : Nat → Bool) (s : Nat → ByteArray) (w : World) (hs : M.size ≤ 60) (h1 : SV w v1 k1 f) (h2 : IVs w v2 k2 ng s) (hk1 : k1 ≤ 1000000) (hk2 : k2 ≤ 1000000) :
    Calls Tryz.prog 23 #[.agg #[.string M, .string Q], v1, v2] w fun e w' => e = .returned (.tuple #[.string (prodG M Q k1 f k2 ng s).1, .int .i64 (prodG M Q k1 f k2 ng s).2]) ∧ Below w.heap.size w w' := by
  have H1 := Lib.hid h1
  have H2 := Lib.hid h2
  obtain ⟨p1, cap1, rfl, -⟩ := h1
  obtain ⟨p2, cap2, rfl, -⟩ := h2
  have HS := Lib.hid hs
  have G := Lib.hid (Two.new w (.string M) (.string Q) 24 _ rfl)
  have K := Lib.hid (belA w (.cells #[.string M, .string Q] 24))
  obtain ⟨⟨S, c⟩, hSc⟩ : ∃ Sc, Sc = prodG M Q k1 f k2 ng s := ⟨_, rfl⟩
  rw [← hSc]
  have HR := Lib.hid hSc
  clear hSc hs
  go_enter Tryz.func23, Tryz.ntmps23
  go_wp2
  generalize World.alloc w _ = W at *
  go_loop [8] (fun i => ∃ i' : Nat, i' ≤ k1 ∧ i = .int .i64 i' ∧ Hid (∀ j, j < i' → Can (f j))) (fun i => k1 - (intOf i).toNat)
  case atStart => exact ⟨0, by omega, rfl, fun j hj => absurd hj (by omega)⟩
  case round =>
    obtain ⟨i1, hi1, rfl, HI1⟩ := hrel
    by_cases hlt1 : i1 < k1
    · have hlti : (i1 : Int) < (k1 : Int) := by omega
      obtain ⟨a1, rfl, hc1⟩ := svAt H1.out K.out hlt1
      by_cases hcan : Can (f i1)
      · have HN := Lib.hid (canL_up (k := k1) HI1.out hcan)
        have HCN := Lib.hid hcan; clear hcan
        go_wp2_with fail
        refine (rvalid_yes (f i1) _ HCN.out).mono ?_; rintro e wx ⟨rfl, rfl⟩
        go_wp2
        go_round
        case rel => exact ⟨i1 + 1, by omega, by go_num, HN.out⟩
        case measure => simp [intOf]; omega
      · obtain ⟨rfl, rfl⟩ := pair_eq HR.out (prodG_form (fun q => hcan (q.1 i1 hlt1)))
        have HCN := Lib.hid hcan; clear hcan
        go_wp2_with fail
        refine (rvalid_no (f i1) _ HCN.out).mono ?_; rintro e wx ⟨rfl, rfl⟩
        go_wp2
        go_ret2
        exact ⟨rfl, K.out⟩
    · obtain rfl : i1 = k1 := by omega
      have HCL := Lib.hid (show CanL i1 f from HI1.out)
      clear HI1
      go_wp2
      go_loopw [9] (fun i wr => ∃ i' : Nat, i' ≤ k2 ∧ i = .int .i64 i' ∧ Hid (∀ j, j < i' → IVal (ng j) (s j)) ∧ Hid (Below w.heap.size w wr) ∧ Hid (Two wr w.heap.size (.string M) (.string Q))) (fun i _ => k2 - (intOf i).toNat)
      case atStart => exact ⟨0, by omega, rfl, (fun j hj => absurd hj (by omega)), K, G⟩
      case round =>
        obtain ⟨i2, hi2, rfl, HI2, K, G⟩ := hrel
        by_cases hlt2 : i2 < k2
        · have hlti : (i2 : Int) < (k2 : Int) := by omega
          obtain ⟨a2, rfl, hc0, hc1⟩ := ivAt H2.out K.out hlt2
          by_cases hv : IVal (ng i2) (s i2)
          · have HN := Lib.hid (valL_up (k := k2) HI2.out hv)
            have HV := Lib.hid hv; clear hv
            go_wp2_with fail
            refine (rivalid_t (ng i2) (s i2) _ HV.out).mono ?_; rintro e w2 ⟨rfl, b2⟩
            have K2 := Lib.hid (belP K.out b2)
            have G2 := Lib.hid (G.out.below b2 rfl)
            clear b2 hc0 hc1
            go_wp2
            go_roundw
            case rel => exact ⟨i2 + 1, by omega, by go_num, HN, K2, G2⟩
            case measure => simp [intOf]; omega
          · obtain ⟨rfl, rfl⟩ := pair_eq HR.out (prodG_form (fun q => hv (q.2 i2 hlt2)))
            have HV := Lib.hid hv
            clear hv
            go_wp2_with fail
            refine (rivalid_f (ng i2) (s i2) _ HV.out).mono ?_; rintro e w2 ⟨rfl, b2⟩
            have K2 := Lib.hid (belP K.out b2)
            clear b2 hc0 hc1
            go_wp2
            go_ret2
            exact ⟨rfl, K2.out⟩
        · obtain rfl : i2 = k2 := by omega
          have HVL := Lib.hid (show ValL i2 ng s from HI2.out)
          clear HI2
          obtain ⟨q1, q2, q3, q4, q5⟩ := G.out
          by_cases hg : chkG M Q = 0
          · obtain ⟨hM, hQ, hw⟩ := chkG_zero hg
            have CC := Lib.hid (fun W => (show Calls Tryz.prog 14 #[.agg #[.string M, .string Q]] W fun e w' => e = .returned (.int .i64 0) ∧ Below W.heap.size W w' by rw [← hg]; exact r13chk_any M Q W))
            by_cases hk : i1 = i2
            · subst hk
              have HG := Lib.hid hg
              have HM := Lib.hid hM
              have HW := Lib.hid hw
              clear hg hM hQ hw
              go_wp2_with fail
              refine (CC.out _).mono ?_; rintro e w2 ⟨rfl, b2⟩
              have K2 := Lib.hid (belP K.out b2)
              have G2 := Lib.hid (G.out.below b2 rfl)
              clear b2 q1 q2 q3 q4 q5 K G
              go_wp2
              go_loopw [11] (fun i wr => ∃ i' : Nat, i' ≤ i1 ∧ i = .int .i64 i' ∧ Hid (∀ j, j < i' → EltG M Q (f j)) ∧ Hid (Below w.heap.size w wr) ∧ Hid (Two wr w.heap.size (.string M) (.string Q))) (fun i _ => i1 - (intOf i).toNat)
              case atStart => exact ⟨0, by omega, rfl, (fun j hj => absurd hj (by omega)), K2, G2⟩
              case round =>
                obtain ⟨j, hj, rfl, HEL, K, G⟩ := hrel
                by_cases hlt3 : j < i1
                · have hltj : (j : Int) < (i1 : Int) := by omega
                  have hj0 : (0 : Int) ≤ (j : Int) := by omega
                  obtain ⟨a1, rfl, hc1⟩ := svAt H1.out K.out hlt3
                  have S0 := Lib.hid (show Cel4 wr ⟨w.heap.size, 0, none⟩ ⟨w.heap.size, 1, none⟩ (a1.add j) (a1.add j) (.string M) (.string Q) (.string (f j)) (.string (f j)) wr from ⟨G.out.1, G.out.2.1, hc1, hc1, Below.refl _ _⟩)
                  clear hc1
                  by_cases he : EltG M Q (f j)
                  · have CE := Lib.hid (fun W => r13elt_t M Q (f j) W HS.out HG.out he)
                    have HEN := Lib.hid (show ∀ l, l < j + 1 → EltG M Q (f l) from fun l hl => by
                      by_cases e : l = j
                      · rw [e]; exact he
                      · exact HEL.out l (by omega))
                    clear he
                    go_wp2_with fail
                    go_region_held3 (fun W => W.cell? ⟨w.heap.size, 0, none⟩ = some (.string M) ∧ W.cell? ⟨w.heap.size, 1, none⟩ = some (.string Q) ∧ W.cell? (a1.add j) = some (.string (f j)) ∧ W.cell? (a1.add j) = some (.string (f j)) ∧ Below wr.heap.size wr W) (first | assumption | exact Cel4.of S0.out (Below.refl _ _).drew | exact Cel4.of S0.out (belP (Cel4.bel (by assumption)) b99))
                      (first
                      | (go_at_call 43; ((with_reducible refine (CE.out _).mono ?_); rintro e w99 ⟨rfl, b99⟩)))
                    have b4 : Below wr.heap.size wr w99 := Cel4.bel (by assumption)
                    have K4 := Lib.hid (belP K.out b4)
                    have G4 := Lib.hid (G.out.below b4 rfl)
                    clear b4 S0
                    go_wp2
                    go_roundw
                    case rel => exact ⟨j + 1, by omega, by go_num, HEN, K4, G4⟩
                    case measure => simp [intOf]; omega
                  · have CE := Lib.hid (fun W => r13elt_f M Q (f j) W HS.out HG.out (HCL.out j hlt3) he)
                    obtain ⟨rfl, rfl⟩ := pair_eq HR.out (prodG_no HCL.out HVL.out HG.out (fun q => he (q j hlt3)))
                    clear he
                    go_wp2_with fail
                    go_region_held3 (fun W => W.cell? ⟨w.heap.size, 0, none⟩ = some (.string M) ∧ W.cell? ⟨w.heap.size, 1, none⟩ = some (.string Q) ∧ W.cell? (a1.add j) = some (.string (f j)) ∧ W.cell? (a1.add j) = some (.string (f j)) ∧ Below wr.heap.size wr W) (first | assumption | exact Cel4.of S0.out (Below.refl _ _).drew | exact Cel4.of S0.out (belP (Cel4.bel (by assumption)) b99))
                      (first
                      | (go_at_call 43; ((with_reducible refine (CE.out _).mono ?_); rintro e w99 ⟨rfl, b99⟩)))
                    have b4 : Below wr.heap.size wr w99 := Cel4.bel (by assumption)
                    have K4 := Lib.hid (belP K.out b4)
                    clear b4 S0
                    go_wp2
                    go_ret2
                    exact ⟨rfl, K4.out⟩
                · obtain rfl : j = i1 := by omega
                  obtain ⟨m, hm⟩ : ∃ m, m = V M := ⟨_, rfl⟩
                  obtain ⟨X, hX⟩ : ∃ X : Nat → Nat, X = fun l => V (f l) := ⟨_, rfl⟩
                  obtain ⟨Z', hZ⟩ : ∃ Z' : Nat → Int, Z' = fun l => IZ (ng l) (s l) := ⟨_, rfl⟩
                  have hres := pair_eq HR.out (prodG_yes HVL.out HG.out HEL.out)
                  rw [← hm, ← hX, ← hZ] at hres
                  have HRS := Lib.hid hres.1
                  have hm1 : 1 < m := by rw [hm]; exact wfG_pos HW.out
                  have HPL := Lib.hid (fun n => prZ_lt (m := m) (by omega) X Z' n)
                  have hl0 : (⟨#[1]⟩ : ByteArray) = E (prZ m X Z' 0) := by
                    show _ = E (1 % m)
                    rw [Nat.mod_eq_of_lt hm1, l_1]
                  have HL0 := Lib.hid hl0
                  have HML := Lib.hid (show m < Lim by rw [hm]; exact V_lim HM.out)
                  have HMM := Lib.hid hm
                  have HX := Lib.hid hX
                  have HZ := Lib.hid hZ
                  obtain ⟨-, rfl⟩ := hres
                  clear hm hX hZ hm1 hl0 K2 G2
                  go_wp2
                  go_loopw [12, 13] (fun x i wr => ∃ i' : Nat, i' ≤ j ∧ i = .int .i64 i' ∧ x = .string (E (prZ m X Z' i')) ∧ Hid (Below w.heap.size w wr) ∧ Hid (Two wr w.heap.size (.string M) (.string Q))) (fun _ i _ => j - (intOf i).toNat)
                  case atStart => exact ⟨0, by omega, rfl, by rw [HL0.out], K, G⟩
                  case round =>
                    obtain ⟨l, hl, rfl, rfl, K, G⟩ := hrel
                    by_cases hlt4 : l < j
                    · have hltl : (l : Int) < (j : Int) := by omega
                      have hl00 : (0 : Int) ≤ (l : Int) := by omega
                      obtain ⟨a1, rfl, hc1⟩ := svAt H1.out K.out hlt4
                      obtain ⟨a2, rfl, hd0, hd1⟩ := ivAt H2.out K.out hlt4
                      have S0 := Lib.hid (show Cel5 wr ⟨w.heap.size, 0, none⟩ ⟨w.heap.size, 1, none⟩ (a1.add l) (a2.add (l * 2)) ⟨(a2.add (l * 2)).block, (a2.add (l * 2)).off + 1, none⟩ (.string M) (.string Q) (.string (f l)) (.bool (ng l)) (.string (s l)) wr from ⟨G.out.1, G.out.2.1, hc1, hd0, hd1, Below.refl _ _⟩)
                      obtain ⟨y, hy⟩ : ∃ y, y = pwN (V M) (V (f l)) (IZ (ng l) (s l)) := ⟨_, rfl⟩
                      have CR := Lib.hid (fun W => r13raw_yes M Q (f l) (ng l) (s l) W HS.out HG.out (HEL.out l hlt4) (HVL.out l hlt4))
                      rw [← hy] at CR
                      have hyl : y < V M := by rw [hy]; exact pwN_lt (by have := wfG_pos HW.out; omega)
                      have hml := V_lim HM.out
                      have CM := Lib.hid (fun W => rmul_m (E (prZ m X Z' l)) (E y) M W (can_E' (Nat.lt_trans (HPL.out l) HML.out)) (can_E' (Nat.lt_trans hyl hml)) HM.out (wfG_size HM.out HW.out) (by have := HS.out; omega))
                      rw [V_E, V_E, show prZ m X Z' l * y % V M = prZ m X Z' (l + 1) by show _ = prZ m X Z' l * pwN m (X l) (Z' l) % m; rw [hy, ← HMM.out, HX.out, HZ.out]] at CM
                      clear hc1 hd0 hd1 hy hyl hml
                      go_wp2_with fail
                      go_region_held3 (fun W => W.cell? ⟨w.heap.size, 0, none⟩ = some (.string M) ∧ W.cell? ⟨w.heap.size, 1, none⟩ = some (.string Q) ∧ W.cell? (a1.add l) = some (.string (f l)) ∧ W.cell? (a2.add (l * 2)) = some (.bool (ng l)) ∧ W.cell? ⟨(a2.add (l * 2)).block, (a2.add (l * 2)).off + 1, none⟩ = some (.string (s l)) ∧ Below wr.heap.size wr W) (first | assumption | exact Cel5.of S0.out (Below.refl _ _).drew | exact Cel5.of S0.out (belP (Cel5.bel (by assumption)) b99))
                        (first
                        | (go_at_call 50; ((with_reducible refine (CR.out _).mono ?_); rintro e w99 ⟨rfl, b99⟩))
                        | (go_at_call 46; ((with_reducible refine (CM.out _).mono ?_); rintro e w99 ⟨rfl, b99⟩)))
                      have b4 : Below wr.heap.size wr w99 := Cel5.bel (by assumption)
                      have K4 := Lib.hid (belP K.out b4)
                      have G4 := Lib.hid (G.out.below b4 rfl)
                      clear b4 S0
                      go_wp2
                      go_roundw
                      case rel => exact ⟨l + 1, by omega, by go_num, rfl, K4, G4⟩
                      case measure => simp [intOf]; omega
                    · obtain rfl : l = j := by omega
                      go_wp2
                      go_ret2
                      exact ⟨by rw [HRS.out]; rfl, K.out⟩
            · obtain ⟨rfl, rfl⟩ := pair_eq HR.out (prodG_len HCL.out HVL.out hg hk)
              have hne1 : ((i1 : Int) != (i2 : Int)) = true := by rw [bne_iff_ne]; omega
              have hne2 : (i1 != i2) = true := by rw [bne_iff_ne]; omega
              clear hg hM hQ hw
              go_wp2_with fail
              refine (CC.out _).mono ?_; rintro e w2 ⟨rfl, b2⟩
              have K2 := Lib.hid (belP K.out b2)
              clear b2 q1 q2 q3 q4 q5
              go_wp2
              go_ret2
              exact ⟨rfl, K2.out⟩
          · have hres := pair_eq HR.out (prodG_err HCL.out HVL.out hg)
            have CC := Lib.hid (fun W => (show Calls Tryz.prog 14 #[.agg #[.string M, .string Q]] W fun e w' => e = .returned (.int .i64 c) ∧ Below W.heap.size W w' by rw [hres.2]; exact r13chk_any M Q W))
            have hc0 : (c != 0) = true := by rw [hres.2]; simpa using hg
            obtain ⟨rfl, -⟩ := hres
            clear hg
            go_wp2_with fail
            refine (CC.out _).mono ?_; rintro e w2 ⟨rfl, b2⟩
            have K2 := Lib.hid (belP K.out b2)
            clear b2 q1 q2 q3 q4 q5
            go_wp2
            go_ret2
            exact ⟨rfl, K2.out⟩
end Go.Proofs.YtogmgfdihmacpaaGreatDoor
