/-
  Contracts of the reference of layer 5, the fourth part: Sum.
-/
import Derived.Test.YtchjllnlhhoflaaRH3
namespace Go.Proofs.Ytchjllnlhhoflaa
open Go.RowKit Go.Deep
set_option linter.unusedVariables false

theorem rpadded_to (s B : ByteArray) (w : World) (hn : s.size ≤ 1099511627776) (h : (⟨(pad s.data.toList).toArray⟩ : ByteArray) = B) :
    Calls Try.prog 21 #[.string s] w fun e w' => e = .returned (.string B) ∧ Below w.heap.size w w' := by
  rw [← h]; exact rpadded_any s w hn
/-- What the loop over the blocks knows. -/
def RSumR (P : ByteArray) (m : Nat) (w : World) (v i : Value) (wr : World) : Prop :=
  ∃ k j g cap N : Nat, k ≤ m ∧ j = 64 * k ∧ i = .int .i64 j ∧ v = .slice (some ⟨g, 0, none⟩) 8 cap ∧ RowW wr g N 8 (stF (absb k st0 P.data.toList)) ∧ w.heap.size ≤ wr.heap.size ∧ Below w.heap.size w wr
theorem rsum_start (P : ByteArray) (m : Nat) (w w1 : World) (h : Below (w.alloc (.cells (stC st0) 32)).heap.size (w.alloc (.cells (stC st0) 32)) w1) : RSumR P m w (.slice (some ⟨w.heap.size, 0, none⟩) 8 8) (.int .i64 0) w1 := by
  have h0 : Below w.heap.size w (w.alloc (.cells (stC st0) 32)) := (Below.refl _ _).alloc (Nat.le_refl _) _
  exact ⟨0, 0, w.heap.size, 8, 8, by omega, rfl, rfl, rfl, (new_rowW w st0).below h, (bnext' h0 h).size, bnext' h0 h⟩
theorem rsum_step {P : ByteArray} {k i j : Nat} (hi : i = 64 * k) (hs : (P.extract i j).data.toList = (P.data.toList.drop i).take 64) : absb (k + 1) st0 P.data.toList = comp (absb k st0 P.data.toList) (P.extract i j).data.toList := by
  rw [absb, hs, hi]
/-- What the loop over the words knows. -/
def RSumQ (T : St) (g N base : Nat) (w : World) (v i : Value) (wr : World) : Prop :=
  ∃ k : Nat, k ≤ 8 ∧ i = .int .i64 k ∧ wr.ownsRow base 5 1 v (4 * k) (bvals (outK T k)) ∧ RowW wr g N 8 (stF T) ∧ base ≤ wr.heap.size ∧ Below w.heap.size w wr

set_option maxHeartbeats 1000000 in
set_option maxRecDepth 100000 in
theorem rsum_any (s : ByteArray) (w : World) (hn : s.size ≤ 1099511627776) :
    Calls Try.prog 11 #[.string s] w fun e w' => e = .returned (.string ⟨(shaL s.data.toList).toArray⟩) ∧ Below w.heap.size w w' := by
  obtain ⟨P, hP⟩ : ∃ P : ByteArray, (⟨(pad s.data.toList).toArray⟩ : ByteArray) = P := ⟨_, rfl⟩
  have hPl : P.data.toList = pad s.data.toList := by rw [← hP]
  have hPs : P.size = s.size + 9 + padz s.size := by rw [← hsize_eq, hPl, pad_length, hsize_eq]
  have hz := padz_lt s.size
  have hpm := pad_mod s.size
  obtain ⟨m, hm⟩ : ∃ m, P.size = 64 * m := ⟨P.size / 64, by omega⟩
  have hfin : outS (absb m st0 P.data.toList) = shaL s.data.toList := by
    rw [shaL, ← hPl, hsize_eq, hm, show 64 * m / 64 = m by omega]
  have l1 : P.size ≤ 1099511627900 := by omega
  have HP := Lib.hid hP
  have HM := Lib.hid hm
  have HF := Lib.hid hfin
  clear hP hPl hPs hz hpm hm hfin
  go_enter Try.func11, Try.ntmps11
  go_wp2_with fail
  refine (rpadded_to s P _ hn HP.out).mono ?_; rintro e w1 ⟨rfl, b1⟩
  have hs0 := rsum_start P m w w1 b1
  have HS0 := Lib.hid hs0
  clear hs0 b1
  go_wp2
  go_loopw [3, 5] (fun v i wr => RSumR P m w v i wr) (fun _ i _ => P.size - (intOf i).toNat)
  case atStart => exact HS0.out
  case round =>
    clear HS0
    obtain ⟨k, i, g, cap, N, hk, hi, rfl, rfl, hrow, hsz, hbel⟩ := hrel
    by_cases hlt : k < m
    · obtain ⟨j, hj⟩ : ∃ j, i + 64 = j := ⟨_, rfl⟩
      have hib0 : i + 64 ≤ P.size := by rw [HM.out]; omega
      have hslice := slice_of P i hib0
      have hsl := slice_size P i hib0
      rw [hj] at hslice hsl hib0
      have hib2 : i < P.size := by omega
      have hji : (i : Int) + 64 = (j : Int) := by omega
      have i1 : (i : Int) ≤ (j : Int) := by omega
      have i3 : (j : Int) ≤ (P.size : Int) := by omega
      have HSL := Lib.hid hslice
      have HSZ := Lib.hid hsl
      have HI := Lib.hid hi
      have HJ := Lib.hid hj
      have HR := Lib.hid hrow
      clear hslice hsl hi hj hrow
      go_wp2_with fail
      refine (rcompress_any (absb k st0 P.data.toList) g N cap (P.extract i j) _ HSZ.out HR.out).mono ?_
      rintro e w3 ⟨g3, cap3, N3, rfl, hr3, hg3, b3⟩
      have b4 := bnext' hbel b3
      have HR3 := Lib.hid hr3
      clear hr3 b3
      go_wp2
      go_roundw
      case rel =>
        exact ⟨k + 1, j, g3, cap3, N3, by omega, by rw [← HJ.out, HI.out]; omega, rfl, rfl, by rw [rsum_step HI.out HSL.out]; exact HR3.out, b4.size, b4⟩
      case measure => simp [intOf]; omega
    · obtain rfl : k = m := by omega
      have hib : P.size ≤ i := by rw [HM.out, hi]; exact Nat.le_refl _
      have hib2 : ¬ i < P.size := by omega
      obtain ⟨T, hT⟩ : ∃ T, T = absb k st0 P.data.toList := ⟨_, rfl⟩
      rw [← hT] at hrow
      obtain ⟨i0, hii, hz0, hz1, hz2⟩ := info_parts Try.hinfo5
      have hg := hrow.lt
      have hQ0 : RSumQ T g N wr.heap.size w (.slice none 0 0) (.int .i64 0) wr := ⟨0, by omega, rfl, World.ownsRow_nil _ _ _ _, hrow, Nat.le_refl _, hbel⟩
      have HQ := Lib.hid hQ0
      have HT := Lib.hid hT
      have HG := Lib.hid hg
      obtain ⟨B, hB⟩ : ∃ B, B = wr.heap.size := ⟨_, rfl⟩
      rw [← hB] at HQ HG
      have hBw : w.heap.size ≤ B := by rw [hB]; exact hsz
      clear hQ0 hT hg hrow hbel hB hsz hlt hk hi
      go_wp2
      go_loopw [6, 7] (fun v i wr => RSumQ T g N B w v i wr) (fun _ i _ => 8 - (intOf i).toNat)
      case atStart => exact HQ.out
      case round =>
        clear HQ
        obtain ⟨k, hk, rfl, hown, hrow, hbs, hbel⟩ := hrel
        by_cases hlt : k < 8
        · have hcell := hrow.cell (j := k) hlt
          obtain ⟨x, hx⟩ : ∃ x, x = stF T k := ⟨_, rfl⟩
          rw [← hx] at hcell
          have HX := Lib.hid hx
          have HR := Lib.hid hrow
          clear hx hrow
          go_wp2_with (at_builtin; refine wpList_append_own _ rfl _ _ 27 rfl B 5 i0 (.int .u8 0) 1 1 Try.hund27 hii hz0 hz1 hz2 rfl (by decide) _ _ _ rfl (hown.alloc _) ⟨wr.heap.size, 0, none⟩ 4 4 (bvals (w4 x)) rfl rfl ?c1 ?c2 ?c3 ?c4 ?c5 ?_)
          case c1 => rw [w4_vals]; exact new_cells _ _ _
          case c2 => exact bvals_one _
          case c3 => unfold maxLen; omega
          case c4 => omega
          case c5 => simp; omega
          intro v' w5 hown5 hgrow _
          have hb5 : Below w.heap.size w w5 := (hbel.alloc (Nat.le_trans hBw hbs) _).grown hgrow (by simp; omega) (fun z hz => Nat.le_trans hBw (hown_ge hown _ hz))
          have hr5 := (HR.out.below ((Below.refl wr.heap.size wr).alloc (Nat.le_refl _) (.cells #[Value.int IntKind.u8 ((x : Int) / 16777216 % 256), Value.int IntKind.u8 ((x : Int) / 65536 % 256), Value.int IntKind.u8 ((x : Int) / 256 % 256), Value.int IntKind.u8 ((x : Int) % 256)] 5))).grown hgrow (by
            intro e
            have := hown_ge hown g e.symm
            have := HG.out
            omega)
          rw [← bvals_append, HX.out, show outK T k ++ w4 (stF T k) = outK T (k + 1) from rfl, show 4 * k + 4 = 4 * (k + 1) by omega] at hown5
          have HO := Lib.hid hown5
          have HR5 := Lib.hid hr5
          have hs5 := Nat.le_trans hbs (Nat.le_trans (by simp : wr.heap.size ≤ _) hgrow.size)
          clear hown5 hgrow hown hcell hr5
          go_wp2
          go_roundw
          case rel => exact ⟨k + 1, by omega, by go_num, HO.out, HR5.out, hs5, hb5⟩
          case measure => simp [intOf]; omega
        · obtain rfl : k = 8 := by omega
          have hcv := own_string hown
          rw [outK_all] at hcv
          clear hown hrow
          go_wp2
          go_ret
          exact ⟨hret_str (by rw [HT.out, HF.out]), hbel⟩
end Go.Proofs.Ytchjllnlhhoflaa
