/-
  Contracts of the reference of layer 1: Times, Mul.
-/
import Derived.Test.YtogmgfdihmacpaaGreatDoorRMath
namespace Go.Proofs.YtogmgfdihmacpaaGreatDoor
open Go.RowKit
set_option linter.unusedVariables false

theorem Tryz.info3 : (Tryz.prog.info? 3).map (fun i => (i.zero, i.size, i.bytes)) = some (some (.int .i64 0), 1, 8) := by kernel_rfl
theorem run_make_ints1 (n : Nat) (hn : n ≤ 999999) (w : World) :
    (Instr.makeSlice 159 (.int .i64 ((n : Int) + 1)) (.int .i64 ((n : Int) + 1))).run Tryz.prog w = .ok (.slice (some ⟨w.heap.size, 0, none⟩) (n + 1) (n + 1)) (w.alloc (.cells (madeCells #[.int .i64 0] (n + 1)) 3)) := by
  obtain ⟨i0, hi, hz0, hz1, hz2⟩ := info_parts Tryz.info3
  exact run_make_row 159 3 i0 _ Tryz.underlying159 hi hz0 hz1 rfl .i64 .i64 (n + 1) (by rw [hz2]; omega) (by omega) w
theorem ints_zero (w : World) (len : Nat) (t : TypeId) (a b m : Nat) : (w.alloc (.cells (madeCells #[.int .i64 0] len) t)).rowIs w.heap.size t len (fun j => .int .i64 (acc a b m 0 0 j : Nat)) :=
  (World.rowIs_made w (.int .i64 0) len t).congr (fun j _ => by rw [acc_start]; rfl)
theorem nat_mul_cast (a b : Nat) : ((a : Int) * (b : Int)) = ((a * b : Nat) : Int) := by simp

set_option maxHeartbeats 6000000 in
set_option maxRecDepth 20000 in
theorem rtimes_any (s t : ByteArray) (w : World) (h1 : s.size ≤ 300) (h2 : t.size ≤ 300) :
    Calls Tryz.prog 125 #[.string s, .string t] w fun e w' => e = .returned (.string (E (V s * V t))) ∧ Below w.heap.size w w' := by
  by_cases h8 : s.size + t.size ≤ 8
  · have hp := prod_small h8
    obtain ⟨x, hx⟩ : ∃ x, x = V s := ⟨_, rfl⟩
    obtain ⟨y, hy⟩ : ∃ y, y = V t := ⟨_, rfl⟩
    rw [← hx, ← hy] at hp ⊢
    have HX := Lib.hid hx; clear hx
    have HY := Lib.hid hy; clear hy
    obtain ⟨p, hpe⟩ : ∃ p, p = x * y := ⟨_, rfl⟩
    rw [← hpe] at hp ⊢
    have hpi : (x : Int) * (y : Int) = (p : Int) := by rw [hpe]; simp
    clear hpe
    go_enter Tryz.func125, Tryz.ntmps125
    go_wp2_with fail
    refine (u64_any s _ (by omega)).mono ?_; rintro e w' ⟨rfl, rfl⟩
    rw [← HX.out]
    go_wp2_with fail
    refine (u64_any t _ (by omega)).mono ?_; rintro e w' ⟨rfl, rfl⟩
    rw [← HY.out]
    go_wp2_with fail
    refine (rof_any p _ hp).mono ?_; rintro e w' ⟨rfl, b1⟩
    go_wp2
    go_ret
    exact ⟨rfl, b1⟩
  · have HPL := Lib.hid (prod_lt s t)
    have HW := Lib.hid (weigh_prod s t)
    obtain ⟨n, hn⟩ : ∃ n, n = s.size + t.size := ⟨_, rfl⟩
    have hni : (s.size : Int) + (t.size : Int) = (n : Int) := by omega
    have hn9 : ¬ n ≤ 8 := by omega
    have hn6 : n ≤ 600 := by omega
    rw [← hn] at HPL HW
    have hmk := run_make_ints1 n (by omega)
    have hmk2 := run_make_bytes n (by omega)
    have HN := Lib.hid hn; clear hn h8
    go_enter Tryz.func125, Tryz.ntmps125
    go_wp2
    go_loopw [7] (fun v wr => ∃ i : Nat, i ≤ s.size ∧ v = .int .i64 i ∧ wr.rowIs w.heap.size 3 (n + 1) (fun j => .int .i64 (acc (V s) (V t) t.size i 0 j : Nat)) ∧ Below w.heap.size w wr) (fun v _ => s.size - (intOf v).toNat)
    case atStart => exact ⟨0, by omega, rfl, ints_zero w _ _ _ _ _, (Below.refl _ _).alloc (Nat.le_refl _) _⟩
    case round =>
      obtain ⟨i, hi, rfl, hrow, hbel⟩ := hrel
      have HR := Lib.hid hrow; clear hrow
      by_cases hlt : i < s.size
      · go_wp2
        go_loopw [8] (fun v wr => ∃ k : Nat, k ≤ t.size ∧ v = .int .i64 k ∧ wr.rowIs w.heap.size 3 (n + 1) (fun j => .int .i64 (acc (V s) (V t) t.size i k j : Nat)) ∧ Below w.heap.size w wr) (fun v _ => t.size - (intOf v).toNat)
        case atStart => exact ⟨0, by omega, rfl, HR.out, hbel⟩
        case round =>
          clear HR hbel
          obtain ⟨k, hk, rfl, hrow, hbel⟩ := hrel
          by_cases hlt2 : k < t.size
          · obtain ⟨p, hp⟩ : ∃ p, p = i + k := ⟨_, rfl⟩
            have i2 : p < n := by have := HN.out; omega
            have i3 : (p : Int) < (n : Int) + 1 := by omega
            have hcell := hrow.cell (i := p) (by omega)
            have hfr := hrow.frozen p
            have hle := acc_le (V s) (V t) t.size i k p
            have hdd := dd_le (V s) i (V t) k
            have HA := Lib.hid (acc_at (V s) (V t) t.size i k)
            rw [← hp] at HA
            obtain ⟨c, hc⟩ : ∃ c, c = acc (V s) (V t) t.size i k p := ⟨_, rfl⟩
            rw [← hc] at hcell hle HA
            have hle : c ≤ 20000000 := by omega
            obtain ⟨x, hx⟩ : ∃ x, x = dig (V s) i := ⟨_, rfl⟩
            obtain ⟨y, hy⟩ : ∃ y, y = dig (V t) k := ⟨_, rfl⟩
            rw [← hx, ← hy] at hdd HA
            obtain ⟨m, hm⟩ : ∃ m, m = x * y := ⟨_, rfl⟩
            rw [← hm] at hdd HA
            have q1 : IntKind.i64.wrap ((i : Int) + (k : Int)) = (p : Int) := by rw [IntWalk.i64_in _ (by omega)]; omega
            have q2 : IntKind.i64.wrap ((x : Int) * (y : Int)) = (m : Int) := by rw [nat_mul_cast, ← hm, IntWalk.i64_in _ (by omega)]
            have q3 : IntKind.i64.wrap ((c : Int) + (m : Int)) = ((c + m : Nat) : Int) := by rw [IntWalk.i64_in _ (by omega)]; simp
            have HP := Lib.hid hp
            have HX := Lib.hid hx
            have HY := Lib.hid hy
            have HR := Lib.hid hrow; clear hrow hc hp hx hy hm
            go_wp2
            refine wp_region_still_tail 15 (by kernel_rfl) (by kernel_rfl) ?_
            simp only [List.take_succ_cons, List.take_zero, List.drop_succ_cons, List.drop_zero]
            iterate 8 still_step
            still_call (flip_w (at_any s i _ (by omega) (by omega) (by omega)))
            rw [Int.toNat_natCast, ← HX.out]
            iterate 2 still_step
            still_call (flip_w (at_any t k _ (by omega) (by omega) (by omega)))
            rw [Int.toNat_natCast, ← HY.out]
            iterate 3 still_step
            refine wpStill_nil ?_
            change wpList _ _ _ _ _ wr.drew
            have hfr2 : wr.drew.frozen? ⟨w.heap.size, p, none⟩ = false := hfr
            clear hcell hfr
            have HB2 : Below w.heap.size w wr.drew := hbel.drew
            have HR2 : wr.drew.rowIs w.heap.size 3 (n + 1) (fun j => .int .i64 (acc (V s) (V t) t.size i k j : Nat)) := HR.out
            have hcell2 := HR2.cell (i := p) (by omega)
            have HR2 := Lib.hid HR2
            generalize wr.drew = w2 at *
            go_wp2
            go_roundw
            case rel =>
              exact ⟨k + 1, by omega, by go_num, set_row (h := fun j => acc (V s) (V t) t.size i (k + 1) j) HR2.out (by rw [HA.out]; simp) (fun j hj => acc_other _ _ _ _ _ _ (by rw [← HP.out]; exact hj)), HB2.setCell (Nat.le_refl _) _⟩
            case measure => simp [intOf]; omega
          · obtain rfl : k = t.size := by omega
            have HR := Lib.hid hrow; clear hrow
            go_wp2
            go_roundw
            case rel => exact ⟨i + 1, by omega, by go_num, HR.out.congr (fun j _ => by rw [acc_end]), hbel⟩
            case measure => simp [intOf]; omega
      · obtain rfl : i = s.size := by omega
        have hrow : wr.rowIs w.heap.size 3 (n + 1) (fun j => .int .i64 (rows (V s) (V t) t.size s.size j : Nat)) := HR.out.congr (fun j _ => by rw [acc_row])
        clear HR
        have hM : ∀ j, rows (V s) (V t) t.size s.size j ≤ 19507500 := fun j => Nat.le_trans (rows_le _ _ _ _ _) (by omega)
        have HM := Lib.hid hM; clear hM
        obtain ⟨f, hf⟩ : ∃ f, f = rows (V s) (V t) t.size s.size := ⟨_, rfl⟩
        rw [← hf] at hrow HM HW
        clear hf
        have hgw : w.heap.size < wr.heap.size := hrow.lt
        have hrow2 : (wr.alloc (.cells (madeCells #[.int .u8 0] n) 5)).rowIs w.heap.size 3 (n + 1) (fun j => .int .i64 (f j : Nat)) := hrow.alloc _
        have hbel2 := hbel.alloc (Nat.le_of_lt hgw) (.cells (madeCells #[.int .u8 0] n) 5)
        have hpz := part_zero wr (V s * V t) n 5
        have HR2 := Lib.hid hrow2
        have HB2 := Lib.hid hbel2
        have HPZ := Lib.hid hpz
        have HG := Lib.hid hgw
        clear hrow hrow2 hbel hbel2 hpz hgw
        go_wp2
        go_loopw [10, 11] (fun c v wr2 => ∃ k : Nat, k ≤ n ∧ v = .int .i64 k ∧ c = .int .i64 (carryW f k : Nat) ∧ wr2.rowIs wr.heap.size 5 n (fun j => .int .u8 (partB (V s * V t) n k j : Nat)) ∧ wr2.rowIs w.heap.size 3 (n + 1) (fun j => .int .i64 (f j : Nat)) ∧ Below w.heap.size w wr2) (fun _ v _ => n - (intOf v).toNat)
        case atStart => exact ⟨0, by omega, rfl, by rw [carryW_zero]; rfl, HPZ.out, HR2.out, HB2.out⟩
        case round =>
          clear HPZ HR2 HB2
          obtain ⟨k, hk, rfl, rfl, hrow, hsum, hbel⟩ := hrel
          by_cases hlt : k < n
          · have hcell := hrow.cell (i := n - 1 - k) (by omega)
            have hfr := hrow.frozen (n - 1 - k)
            have hcell2 := hsum.cell (i := k) (by omega)
            have hc := carryW_le HM.out k
            have hfk := HM.out k
            have HC1 := Lib.hid (carryW_div f k)
            have HC2 := Lib.hid (carryW_mod f hlt)
            obtain ⟨c, hce⟩ : ∃ c, c = carryW f k := ⟨_, rfl⟩
            obtain ⟨x, hxe⟩ : ∃ x, x = f k := ⟨_, rfl⟩
            rw [← hce] at hc HC1 HC2 ⊢
            rw [← hxe] at hfk hcell2 HC1 HC2
            clear hce hxe
            have HR := Lib.hid hrow; clear hrow
            have HS := Lib.hid hsum; clear hsum
            go_wp2
            go_roundw
            case rel =>
              refine ⟨k + 1, by omega, by go_num, int_eq ?_, part_step HR.out hlt ?_, HS.out.setOther ?_ _, hbel.setCell (Nat.le_of_lt HG.out) _⟩
              · rw [← HC1.out]; omega
              · rw [← HW.out, ← HC2.out]; rfl
              · exact Nat.ne_of_lt HG.out
            case measure => simp [intOf]; omega
          · obtain rfl : k = n := by omega
            have hb := part_done hrow
            have hE := E_beN HPL.out
            have HB := Lib.hid hb; clear hb
            have HE := Lib.hid hE; clear hE hrow hsum
            go_wp2_with fail
            refine (rtrim_any _ 0 k k (beN k (V s * V t)) _ (beN_length _ _) (by omega) (by omega) (by omega) HB.out).mono ?_
            rintro e w' ⟨rfl, rfl⟩
            rw [HE.out]
            go_wp2
            go_ret
            exact ⟨rfl, hbel⟩

set_option maxHeartbeats 400000 in
theorem rmul_no (s t : ByteArray) (w : World) (h : ¬ (Can s ∧ Can t)) :
    Calls Tryz.prog 103 #[.string s, .string t] w fun e w' => e = .returned (.tuple #[.string (E 0), .int .i64 3]) ∧ w = w' := by
  by_cases hc : Can s
  · have hd : ¬ Can t := fun q => h ⟨hc, q⟩
    have HC := Lib.hid hc; clear hc h
    have HD := Lib.hid hd; clear hd
    go_enter Tryz.func103, Tryz.ntmps103
    go_wp2_with fail
    refine (rvalid_yes s _ HC.out).mono ?_; rintro e w' ⟨rfl, rfl⟩
    go_wp2_with fail
    refine (rvalid_no t _ HD.out).mono ?_; rintro e w' ⟨rfl, rfl⟩
    go_wp2
    go_ret2
    exact ⟨rfl, rfl⟩
  · have HC := Lib.hid hc; clear hc h
    go_enter Tryz.func103, Tryz.ntmps103
    go_wp2_with fail
    refine (rvalid_no s _ HC.out).mono ?_; rintro e w' ⟨rfl, rfl⟩
    go_wp2
    go_ret2
    exact ⟨rfl, rfl⟩
set_option maxHeartbeats 400000 in
theorem rmul_yes (s t : ByteArray) (w : World) (hs : Can s) (ht : Can t) :
    Calls Tryz.prog 103 #[.string s, .string t] w fun e w' => e = .returned (okN (V s * V t)) ∧ Below w.heap.size w w' := by
  have h1 := hs.1
  have h2 := ht.1
  have HS := Lib.hid hs; clear hs
  have HT := Lib.hid ht; clear ht
  obtain ⟨b, v, hp⟩ := okN_pair (V s * V t)
  have HP := Lib.hid hp; clear hp
  go_enter Tryz.func103, Tryz.ntmps103
  go_wp2_with fail
  refine (rvalid_yes s _ HS.out).mono ?_; rintro e w' ⟨rfl, rfl⟩
  go_wp2_with fail
  refine (rvalid_yes t _ HT.out).mono ?_; rintro e w' ⟨rfl, rfl⟩
  go_wp2_with fail
  refine (rtimes_any s t _ (by omega) (by omega)).mono ?_; rintro e w' ⟨rfl, b1⟩
  go_wp2_with fail
  refine (rfit_any _ _).mono ?_; rintro e w' ⟨rfl, rfl⟩
  rw [HP.out]
  go_wp2
  go_ret2
  exact ⟨by rw [HP.out]; rfl, b1⟩
end Go.Proofs.YtogmgfdihmacpaaGreatDoor
