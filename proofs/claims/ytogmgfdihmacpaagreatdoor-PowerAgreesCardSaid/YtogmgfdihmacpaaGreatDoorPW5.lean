/-
  Package power: product and its closure.
-/
import Derived.Test.YtogmgfdihmacpaaGreatDoorPW4
namespace Go.Proofs.YtogmgfdihmacpaaGreatDoor
open Go.RowKit
set_option linter.unusedVariables false

/-- One cell of a variable. -/
def OneC (w : World) (g : Nat) (c : Value) : Prop := w.cell? ⟨g, 0, none⟩ = some c ∧ w.frozen? ⟨g, 0, none⟩ = false ∧ g < w.heap.size
theorem OneC.new (w : World) (c : Value) (t : TypeId) (g : Nat) (hg : g = w.heap.size) : OneC (w.alloc (.cells #[c] t)) g c := by
  subst hg
  refine ⟨?_, ?_, ?_⟩
  · rw [World.cell?_alloc_new]; rfl
  · simp
  · simp
theorem OneC.below {w w' : World} {g : Nat} {c : Value} (h : OneC w g c) (b : Below w.heap.size w w') : OneC w' g c := by
  obtain ⟨h0, h1, h2⟩ := h
  exact ⟨(b.cell (p := ⟨g, 0, none⟩) h2).trans h0, (b.frozen (p := ⟨g, 0, none⟩) h2).trans h1, Nat.lt_of_lt_of_le h2 b.size⟩
theorem OneC.set_ {w : World} {g : Nat} {c : Value} (h : OneC w g c) (u : Value) : OneC (w.setCell ⟨g, 0, none⟩ u) g u := by
  obtain ⟨h0, h1, h2⟩ := h
  refine ⟨?_, ?_, ?_⟩ <;> simp [go_sem, h0, h1, h2]
theorem OneC.far {w : World} {g b : Nat} {c : Value} (h : OneC w g c) (hne : b ≠ g) (u : Value) : OneC (w.setCell ⟨b, 0, none⟩ u) g c := by
  obtain ⟨h0, h1, h2⟩ := h
  refine ⟨?_, ?_, ?_⟩
  · rw [World.cell?_setCell_far _ _ _ _ (fun e => hne e)]; exact h0
  · simp [go_sem, h1]
  · rw [World.size_setCell]; exact h2
/-- The cells of a list that lay there, behind what only adds. -/
theorem svAt {w wr : World} {p : Option Addr} {k cap : Nat} {f : Nat → ByteArray} (h : SV w (.slice p k cap) k f) (b : Below w.heap.size w wr) {i : Nat} (hi : i < k) : ∃ a, p = some a ∧ wr.cell? (a.add i) = some (.string (f i)) := by
  obtain ⟨q, c, e, hc⟩ := h.below b
  obtain ⟨rfl, rfl⟩ : p = q ∧ cap = c := by cases e; exact ⟨rfl, rfl⟩
  obtain ⟨a, e1, -, e3⟩ := hc i hi
  exact ⟨a, e1, e3⟩
/-- The state of product: the modulus lies in Mo, the result in R. -/
def PrS (w : World) (Mo R : Nat) (M : ByteArray) (n : Nat) (W : World) : Prop := Below w.heap.size w W ∧ OneC W Mo (.string M) ∧ OneC W R (.string (E n)) ∧ R ≠ Mo ∧ w.heap.size ≤ R
set_option maxHeartbeats 1000000 in
set_option maxRecDepth 20000 in
theorem pmulc_any (w : World) (Mo R n : Nat) (M x : ByteArray) (W : World) (h : PrS w Mo R M n W) (hn : Can (E n)) (hx : Can x) (hM : Can M) (h0 : 0 < M.size) :
    Calls Tryz.prog 87 #[.string x, .pointer (some ⟨R, 0, none⟩), .pointer (some ⟨Mo, 0, none⟩)] W fun e w' => e = .returned (.tuple #[]) ∧ PrS w Mo R M (n * V x % V M) w' := by
  have CM := Lib.hid (fun W => mmul_ok (E n) x M W hn hx hM h0)
  rw [V_E] at CM
  obtain ⟨hB, hO, hR, hne, hle⟩ := h
  have K := Lib.hid hB
  have HO := Lib.hid hO
  have HR := Lib.hid hR
  have HN := Lib.hid hne
  have HL := Lib.hid hle
  obtain ⟨q1, q2, q3⟩ := hO
  obtain ⟨r1, r2, r3⟩ := hR
  obtain ⟨m, hm⟩ : ∃ m, m = n * V x % V M := ⟨_, rfl⟩
  rw [← hm] at CM ⊢
  clear hn hx hM h0 hne hle hm hB
  go_enter Tryz.func87, Tryz.ntmps87
  go_wp2_with fail
  refine (CM.out _).mono ?_; rintro e w1 ⟨rfl, b1⟩
  have K := Lib.hid (belP K.out b1)
  have HO := Lib.hid (HO.out.below b1)
  have HR := Lib.hid (HR.out.below b1)
  clear b1 q1 q2 q3 r1 r2 r3
  obtain ⟨r1, r2, r3⟩ := HR.out
  have HF := Lib.hid (show PrS w Mo R M m (w1.setCell ⟨R, 0, none⟩ (.string (E m))) from ⟨K.out.setCell (p := ⟨R, 0, none⟩) HL.out _, HO.out.far HN.out _, HR.out.set_ _, HN.out, HL.out⟩)
  go_wp2
  go_end0
  exact ⟨rfl, HF.out⟩

/-- The numbers of a product: bases, exponents, all canonical, below 2^1100. -/
def CanE (k : Nat) (f : Nat → ByteArray) : Prop := CanL k f
theorem nbits_cap {s : ByteArray} (h : Can s) : nbits (V s) ≤ 1100 := nbits_lim h
set_option maxHeartbeats 4000000 in
set_option maxRecDepth 100000 in
theorem pprod_any (M : ByteArray) (v1 v2 : Value) (k : Nat) (f g : Nat → ByteArray) (w : World) (h1 : SV w v1 k f) (h2 : SV w v2 k g) (hk : k ≤ 1000000) (hf : CanL k f) (hg : CanL k g) (hM : Can M) (hM1 : 1 < V M) :
    Calls Tryz.prog 51 #[.string M, v1, v2] w fun e w' => e = .returned (.string (E (prN (V M) (fun j => V (f j)) (fun j => V (g j)) k))) ∧ Below w.heap.size w w' := by
  have H1 := Lib.hid h1
  have H2 := Lib.hid h2
  obtain ⟨p1, cap1, rfl, -⟩ := h1
  obtain ⟨p2, cap2, rfl, -⟩ := h2
  have HF := Lib.hid hf
  have HG := Lib.hid hg
  have HM := Lib.hid hM
  have HM1 := Lib.hid hM1
  have HM0 := Lib.hid (show 0 < M.size by have := size_posV hM; omega)
  have hml := V_lim hM
  have HE := Lib.hid (fun n (h : n < V M) => can_E' (Nat.lt_trans h hml))
  have KM := Lib.hid (belA w (.cells #[.string M] 22))
  have OM := Lib.hid (OneC.new w (.string M) 22 w.heap.size rfl)
  obtain ⟨m, hm⟩ : ∃ m, m = V M := ⟨_, rfl⟩
  obtain ⟨X, hX⟩ : ∃ X : Nat → Nat, X = fun j => V (f j) := ⟨_, rfl⟩
  obtain ⟨Y, hY⟩ : ∃ Y : Nat → Nat, Y = fun j => V (g j) := ⟨_, rfl⟩
  obtain ⟨nr, hnr⟩ : ∃ nr, nr = prN m X Y k := ⟨_, rfl⟩
  rw [← hX, ← hY, ← hm, ← hnr]
  have HPL := Lib.hid (fun e n => prN_lt (m := m) (by omega) X e n)
  have HX := Lib.hid hX
  have HY := Lib.hid hY
  have HMM := Lib.hid hm
  have HNR := Lib.hid hnr
  have CMU := Lib.hid (fun W R n x (h : PrS w w.heap.size R M n W) (hn : Can (E n)) (hx : Can x) => pmulc_any w w.heap.size R n M x W h hn hx hM HM0.out)
  clear hf hg hM hM1 hml hm hX hY hnr
  go_enter Tryz.func51, Tryz.ntmps51
  go_wp2_with fail
  refine (of_any 1 _ (by omega)).mono ?_; rintro e w1 ⟨rfl, b1⟩
  have K1 := Lib.hid (belP KM.out b1)
  have O1 := Lib.hid (OM.out.below b1)
  have HS1 := Lib.hid (show PrS w w.heap.size w1.heap.size M 1 (w1.alloc (.cells #[.string (E 1)] 22)) from
    ⟨belP K1.out (belA _ _), O1.out.below (belA _ _), OneC.new _ _ _ _ rfl, by have := O1.out.2.2; omega, by have := O1.out.2.2; omega⟩)
  have HR1 := Lib.hid (show w.heap.size < w1.heap.size from O1.out.2.2)
  clear b1 KM OM K1 O1
  go_wp2
  generalize w1.alloc _ = W at *
  obtain ⟨R, hR⟩ : ∃ R, R = w1.heap.size := ⟨_, rfl⟩
  rw [← hR] at HS1 HR1 ⊢
  clear hR
  have HB1 := Lib.hid HS1.out.1
  go_loop [9, 19] (fun d i => ∃ (k' D : Nat), k' ≤ k ∧ i = .int .i64 k' ∧ D ≤ 1100 ∧ d = .int .i64 D ∧ Hid (∀ j, j < k' → V (g j) < 2 ^ D)) (fun _ i => k - (intOf i).toNat)
  case atStart => exact ⟨0, 0, by omega, rfl, by omega, rfl, fun j hj => absurd hj (by omega)⟩
  case round =>
    obtain ⟨k', D, hk', rfl, hD, rfl, HI⟩ := hrel
    by_cases hlt : k' < k
    · obtain ⟨a2, rfl, hcell⟩ := svAt H2.out HB1.out hlt
      have hlti : (k' : Int) < (k : Int) := by omega
      have hcan := HG.out k' hlt
      have hnl := nbits_cap hcan
      obtain ⟨N, hN⟩ : ∃ N, N = nbits (V (g k')) := ⟨_, rfl⟩
      have hlb := lt_nbits' (V (g k'))
      rw [← hN] at hnl hlb
      have CB := Lib.hid (fun W => (show Calls Tryz.prog 52 #[.string (g k')] W fun e w' => e = .returned (.int .i64 N) ∧ W = w' by rw [hN]; exact bits_yes (g k') W hcan))
      have HN := Lib.hid (show ∀ j, j < k' + 1 → V (g j) < 2 ^ (max D N) from fun j hj => by
        by_cases e : j = k'
        · subst e; exact Nat.lt_of_lt_of_le hlb (Nat.pow_le_pow_right (by omega) (Nat.le_max_right _ _))
        · exact Nat.lt_of_lt_of_le (HI.out j (by omega)) (Nat.pow_le_pow_right (by omega) (Nat.le_max_left _ _)))
      clear hcan hN hlb
      go_wp2_with fail
      refine (CB.out _).mono ?_; rintro e wx ⟨rfl, rfl⟩
      go_wp2
      go_round
      case rel => exact ⟨k' + 1, max D N, by omega, by go_num, by omega, by congr 1; omega, HN.out⟩
      case measure => simp [intOf]; omega
    · obtain rfl : k' = k := by omega
      have HTOP := Lib.hid (show PrS w w.heap.size R M (prN m X (fun l => Y l / 2 ^ (D - 0)) k') W by
        rw [Nat.sub_zero, prN_top X Y D k' (by rw [HY.out]; exact HI.out), Nat.mod_eq_of_lt (by rw [HMM.out]; exact HM1.out)]
        exact HS1.out)
      have hDi : (D : Int) ≤ 1100 := by omega
      clear HS1 HB1 HI
      go_wp2
      go_loopw [29] (fun i wr => ∃ i' : Nat, i' ≤ D ∧ i = .int .i64 i' ∧ Hid (PrS w w.heap.size R M (prN m X (fun l => Y l / 2 ^ (D - i')) k') wr)) (fun i _ => D - (intOf i).toNat)
      case atStart => exact ⟨0, by omega, rfl, HTOP⟩
      case round =>
        obtain ⟨i', hi', rfl, HP⟩ := hrel
        obtain ⟨wo, rfl⟩ : ∃ wo : World, wo = wr := ⟨_, rfl⟩
        by_cases hlt2 : i' < D
        · have hlti2 : (i' : Int) < (D : Int) := by omega
          obtain ⟨d, hd⟩ : ∃ d, d + 1 = D - i' := ⟨D - i' - 1, by omega⟩
          obtain ⟨n0, hn0⟩ : ∃ n0, n0 = prN m X (fun l => Y l / 2 ^ (D - i')) k' := ⟨_, rfl⟩
          rw [← hn0] at HP
          have HC0 := Lib.hid (show Can (E n0) from HE.out n0 (by rw [hn0, ← HMM.out]; exact HPL.out _ _))
          have hmid : n0 * V (E n0) % V M = prN m X (midE Y d 0) k' := by rw [V_E, hn0, ← hd, ← HMM.out, midE_zero]
          have C1 := Lib.hid (hmid ▸ CMU.out wo R n0 (E n0) HP.out HC0.out HC0.out)
          obtain ⟨r1, r2, r3⟩ := HP.out.2.2.1
          have HD := Lib.hid hd
          clear hmid hn0 hd
          go_wp2_with fail
          refine C1.out.mono ?_; rintro e w2 ⟨rfl, hp2⟩
          have HP2 := Lib.hid hp2
          clear hp2 C1 HP r1 r2 r3
          go_wp2
          go_loopw [37] (fun j wr => ∃ j' : Nat, j' ≤ k' ∧ j = .int .i64 j' ∧ Hid (PrS w w.heap.size R M (prN m X (midE Y d j') k') wr)) (fun j _ => k' - (intOf j).toNat)
          case atStart => exact ⟨0, by omega, rfl, HP2⟩
          case round =>
            obtain ⟨j', hj', rfl, HQ⟩ := hrel
            by_cases hlt3 : j' < k'
            · have hltj : (j' : Int) < (k' : Int) := by omega
              obtain ⟨a2, rfl, hcell2⟩ := svAt H2.out HQ.out.1 hlt3
              obtain ⟨a1, rfl, hcell1⟩ := svAt H1.out HQ.out.1 hlt3
              have hd := HD.out
              obtain ⟨n1, hn1⟩ : ∃ n1, n1 = prN m X (midE Y d j') k' := ⟨_, rfl⟩
              have CBT := Lib.hid (fun W (z : Int) (hz : z = (d : Int)) => (show Calls Tryz.prog 63 #[.string (g j'), .int .i64 z] W fun e w' => e = .returned (.bool ((V (g j')).testBit d)) ∧ W = w' by subst hz; exact bit_yes (g j') d W (HG.out j' hlt3) (by omega)))
              have hYj : Y j' = V (g j') := by rw [HY.out]
              have hXj : X j' = V (f j') := by rw [HX.out]
              have hzd : (D : Int) - 1 - (i' : Int) = (d : Int) := by omega
              have HZD := Lib.hid hzd
              rcases hb : (V (g j')).testBit d with _ | _
              · rw [hb] at CBT
                have hno := midE_no (m := m) (x := X) (e := Y) (d := d) (j := j') (k := k') (by rw [hYj]; exact hb)
                rw [hno] at HQ
                clear hb hn1 hYj hXj hno hd hzd
                go_wp2_with fail
                refine (CBT.out _ _ (by first | exact HZD.out | omega)).mono ?_; rintro e wx ⟨rfl, rfl⟩
                go_wp2
                go_roundw
                case rel => exact ⟨j' + 1, by omega, by go_num, HQ⟩
                case measure => simp [intOf]; omega
              · rw [hb] at CBT
                have hyes := midE_yes (m := m) (x := X) (e := Y) (d := d) (j := j') (k := k') hlt3 (by rw [hYj]; exact hb)
                rw [← hn1] at HQ hyes
                have HC1 := Lib.hid (show Can (E n1) from HE.out n1 (by rw [hn1, ← HMM.out]; exact HPL.out _ _))
                have C1 := Lib.hid (CMU.out wr R n1 (f j') HQ.out HC1.out (HF.out j' hlt3))
                rw [← HMM.out, ← hXj, hyes] at C1
                clear hb hn1 hYj hXj hyes hd hzd
                go_wp2_with fail
                refine (CBT.out _ _ (by first | exact HZD.out | omega)).mono ?_; rintro e wx ⟨rfl, rfl⟩
                go_wp2_with fail
                refine C1.out.mono ?_; rintro e w3 ⟨rfl, hp3⟩
                have HP3 := Lib.hid hp3
                clear hp3 C1 HQ hcell1 hcell2
                go_wp2
                go_roundw
                case rel => exact ⟨j' + 1, by omega, by go_num, HP3⟩
                case measure => simp [intOf]; omega
            · obtain rfl : j' = k' := by omega
              have HQ2 := Lib.hid (show PrS w w.heap.size R M (prN m X (fun l => Y l / 2 ^ (D - (i' + 1))) j') wr by
                have h := HQ.out
                rw [midE_end] at h
                rwa [show D - (i' + 1) = d by have := HD.out; omega])
              clear HQ HD
              go_wp2
              go_roundw
              case rel => exact ⟨i' + 1, by omega, by go_num, HQ2⟩
              case measure => simp [intOf]; omega
        · obtain rfl : i' = D := by omega
          have hfin : prN m X (fun l => Y l / 2 ^ (i' - i')) k' = nr := by
            rw [HNR.out, Nat.sub_self]
            exact prN_congr fun j _ => ⟨rfl, by simp⟩
          rw [hfin] at HP
          obtain ⟨r1, r2, r3⟩ := HP.out.2.2.1
          clear hfin
          go_wp2
          go_ret
          exact ⟨rfl, HP.out.1⟩
end Go.Proofs.YtogmgfdihmacpaaGreatDoor
