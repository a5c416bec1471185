/-
  The statements' own helpers of layer 2: long; Extended's error.
-/
import Derived.Test.YtamgklgjhjociaaInt15
import Derived.Test.YtamgklgjhjociaaInt12
namespace Go.Proofs.Ytamgklgjhjociaa
open Go.RowKit
set_option linter.unusedVariables false

/-- The magnitudes of a row of integers. -/
def Ints (w : World) (g n : Nat) (f : Nat → ByteArray) : Prop := ∀ j, j < n → w.cell? ⟨g, j * 2 + 1, none⟩ = some (.string (f j))

set_option maxHeartbeats 400000 in
theorem long_no (g n : Nat) (f : Nat → ByteArray) (w : World) (hn : n ≤ 100) (hc : Ints w g n f) (h : ∀ j, j < n → (f j).size ≤ 140) :
    Calls Try.prog 12 #[.slice (some ⟨g, 0, none⟩) n n] w fun e w' => e = .returned (.bool false) ∧ w = w' := by
  have HC := Lib.hid hc; clear hc
  go_enter Try.func12, Try.ntmps12
  go_wp2
  go_loop [3] (fun v => ∃ k : Nat, k ≤ n ∧ v = .int .i64 k) (fun v => n - (intOf v).toNat)
  case atStart => exact ⟨0, by omega, rfl⟩
  case round =>
    obtain ⟨k, hk, rfl⟩ := hrel
    by_cases hlt : k < n
    · have hcell := HC.out k hlt
      have hsz := h k hlt
      obtain ⟨b, hb⟩ : ∃ b, b = f k := ⟨_, rfl⟩
      rw [← hb] at hcell hsz
      clear hb
      go_wp2
      go_round
      case rel => exact ⟨k + 1, by omega, by go_num⟩
      case measure => simp [intOf]; omega
    · obtain rfl : k = n := by omega
      go_wp2
      go_ret
      exact ⟨rfl, rfl⟩
set_option maxHeartbeats 400000 in
theorem long_yes (g n : Nat) (f : Nat → ByteArray) (w : World) (hn : n ≤ 100) (hc : Ints w g n f) (hm : ∀ j, j < n → (f j).size ≤ 9223372036854775807) (h : ¬ ∀ j, j < n → (f j).size ≤ 140) :
    Calls Try.prog 12 #[.slice (some ⟨g, 0, none⟩) n n] w fun e w' => e = .returned (.bool true) ∧ w = w' := by
  have HC := Lib.hid hc; clear hc
  have HM := Lib.hid hm; clear hm
  have HH := Lib.hid h; clear h
  go_enter Try.func12, Try.ntmps12
  go_wp2
  go_loop [3] (fun v => ∃ k : Nat, k ≤ n ∧ v = .int .i64 k ∧ ∀ j, j < k → (f j).size ≤ 140) (fun v => n - (intOf v).toNat)
  case atStart => exact ⟨0, by omega, rfl, fun j q => absurd q (by omega)⟩
  case round =>
    obtain ⟨k, hk, rfl, hall⟩ := hrel
    have HA := Lib.hid hall; clear hall
    by_cases hlt : k < n
    · have hcell := HC.out k hlt
      have hsm := HM.out k hlt
      by_cases hsz : (f k).size ≤ 140
      · have hnx : ∀ j, j < k + 1 → (f j).size ≤ 140 := fun j q => by
          by_cases e : j = k
          · rw [e]; exact hsz
          · exact HA.out j (by omega)
        have HNX := Lib.hid hnx; clear hnx
        obtain ⟨b, hb⟩ : ∃ b, b = f k := ⟨_, rfl⟩
        rw [← hb] at hcell hsz hsm
        clear hb
        go_wp2
        go_round
        case rel => exact ⟨k + 1, by omega, by go_num, HNX.out⟩
        case measure => simp [intOf]; omega
      · obtain ⟨b, hb⟩ : ∃ b, b = f k := ⟨_, rfl⟩
        rw [← hb] at hcell hsz hsm
        clear hb
        go_wp2
        go_ret
        exact ⟨rfl, rfl⟩
    · obtain rfl : k = n := by omega
      exact absurd HA.out HH.out

theorem keepc {w w' : World} {a : Addr} {v : Value} (b : Below w.heap.size w w') (h : w.cell? a = some v) : w'.cell? a = some v := by
  rw [b.cell (World.block_lt_of_cell? w a h), h]
theorem of_z (n : Int) (w : World) (G : Bool) (S : ByteArray) (h1 : -9223372036854775808 ≤ n) (h2 : n ≤ 9223372036854775807) (hz : Z n = .agg #[.bool G, .string S]) :
    Calls Try.prog 16 #[.int .i64 n] w fun e w' => e = .returned (.agg #[.bool G, .string S]) ∧ Below w.heap.size w w' := by
  rw [← hz]; exact iof_any n w h1 h2
theorem z_m7 : Z (-7) = .agg #[.bool true, .string ⟨#[7]⟩] := by kernel_rfl
theorem of_m7 (w : World) : Calls Try.prog 16 #[.int .i64 (-7)] w fun e w' => e = .returned (.agg #[.bool true, .string ⟨#[7]⟩]) ∧ Below w.heap.size w w' :=
  of_z _ _ _ _ (by omega) (by omega) z_m7
theorem iv_m7 : IVal true ⟨#[7]⟩ ∧ IZ true ⟨#[7]⟩ = -7 := by
  have h := ival_Z (-7) (by have := small_lim (n := 7) (by omega); show 7 < Lim; exact this)
  have h2 := IZ_Z (-7)
  have hz := z_m7
  unfold Z at hz
  have e1 : ZG (-7) = true := by rfl
  have e2 : ZS (-7) = ⟨#[7]⟩ := by kernel_rfl
  rw [e1, e2] at h h2
  exact ⟨h, h2⟩
theorem z_p2 : Z (2) = .agg #[.bool false, .string ⟨#[2]⟩] := by kernel_rfl
theorem of_p2 (w : World) : Calls Try.prog 16 #[.int .i64 (2)] w fun e w' => e = .returned (.agg #[.bool false, .string ⟨#[2]⟩]) ∧ Below w.heap.size w w' :=
  of_z _ _ _ _ (by omega) (by omega) z_p2
theorem iv_p2 : IVal false ⟨#[2]⟩ ∧ IZ false ⟨#[2]⟩ = 2 := by
  have h := ival_Z (2) (by have := small_lim (n := 2) (by omega); show 2 < Lim; exact this)
  have h2 := IZ_Z (2)
  have hz := z_p2
  unfold Z at hz
  have e1 : ZG (2) = false := by rfl
  have e2 : ZS (2) = ⟨#[2]⟩ := by kernel_rfl
  rw [e1, e2] at h h2
  exact ⟨h, h2⟩
theorem z_p7 : Z (7) = .agg #[.bool false, .string ⟨#[7]⟩] := by kernel_rfl
theorem of_p7 (w : World) : Calls Try.prog 16 #[.int .i64 (7)] w fun e w' => e = .returned (.agg #[.bool false, .string ⟨#[7]⟩]) ∧ Below w.heap.size w w' :=
  of_z _ _ _ _ (by omega) (by omega) z_p7
theorem iv_p7 : IVal false ⟨#[7]⟩ ∧ IZ false ⟨#[7]⟩ = 7 := by
  have h := ival_Z (7) (by have := small_lim (n := 7) (by omega); show 7 < Lim; exact this)
  have h2 := IZ_Z (7)
  have hz := z_p7
  unfold Z at hz
  have e1 : ZG (7) = false := by rfl
  have e2 : ZS (7) = ⟨#[7]⟩ := by kernel_rfl
  rw [e1, e2] at h h2
  exact ⟨h, h2⟩
theorem z_m2 : Z (-2) = .agg #[.bool true, .string ⟨#[2]⟩] := by kernel_rfl
theorem of_m2 (w : World) : Calls Try.prog 16 #[.int .i64 (-2)] w fun e w' => e = .returned (.agg #[.bool true, .string ⟨#[2]⟩]) ∧ Below w.heap.size w w' :=
  of_z _ _ _ _ (by omega) (by omega) z_m2
theorem iv_m2 : IVal true ⟨#[2]⟩ ∧ IZ true ⟨#[2]⟩ = -2 := by
  have h := ival_Z (-2) (by have := small_lim (n := 2) (by omega); show 2 < Lim; exact this)
  have h2 := IZ_Z (-2)
  have hz := z_m2
  unfold Z at hz
  have e1 : ZG (-2) = true := by rfl
  have e2 : ZS (-2) = ⟨#[2]⟩ := by kernel_rfl
  rw [e1, e2] at h h2
  exact ⟨h, h2⟩
theorem z_m4 : Z (-4) = .agg #[.bool true, .string ⟨#[4]⟩] := by kernel_rfl
theorem of_m4 (w : World) : Calls Try.prog 16 #[.int .i64 (-4)] w fun e w' => e = .returned (.agg #[.bool true, .string ⟨#[4]⟩]) ∧ Below w.heap.size w w' :=
  of_z _ _ _ _ (by omega) (by omega) z_m4
theorem iv_m4 : IVal true ⟨#[4]⟩ ∧ IZ true ⟨#[4]⟩ = -4 := by
  have h := ival_Z (-4) (by have := small_lim (n := 4) (by omega); show 4 < Lim; exact this)
  have h2 := IZ_Z (-4)
  have hz := z_m4
  unfold Z at hz
  have e1 : ZG (-4) = true := by rfl
  have e2 : ZS (-4) = ⟨#[4]⟩ := by kernel_rfl
  rw [e1, e2] at h h2
  exact ⟨h, h2⟩
theorem z_m3 : Z (-3) = .agg #[.bool true, .string ⟨#[3]⟩] := by kernel_rfl
theorem of_m3 (w : World) : Calls Try.prog 16 #[.int .i64 (-3)] w fun e w' => e = .returned (.agg #[.bool true, .string ⟨#[3]⟩]) ∧ Below w.heap.size w w' :=
  of_z _ _ _ _ (by omega) (by omega) z_m3
theorem iv_m3 : IVal true ⟨#[3]⟩ ∧ IZ true ⟨#[3]⟩ = -3 := by
  have h := ival_Z (-3) (by have := small_lim (n := 3) (by omega); show 3 < Lim; exact this)
  have h2 := IZ_Z (-3)
  have hz := z_m3
  unfold Z at hz
  have e1 : ZG (-3) = true := by rfl
  have e2 : ZS (-3) = ⟨#[3]⟩ := by kernel_rfl
  rw [e1, e2] at h h2
  exact ⟨h, h2⟩
theorem z_m1 : Z (-1) = .agg #[.bool true, .string ⟨#[1]⟩] := by kernel_rfl
theorem of_m1 (w : World) : Calls Try.prog 16 #[.int .i64 (-1)] w fun e w' => e = .returned (.agg #[.bool true, .string ⟨#[1]⟩]) ∧ Below w.heap.size w w' :=
  of_z _ _ _ _ (by omega) (by omega) z_m1
theorem iv_m1 : IVal true ⟨#[1]⟩ ∧ IZ true ⟨#[1]⟩ = -1 := by
  have h := ival_Z (-1) (by have := small_lim (n := 1) (by omega); show 1 < Lim; exact this)
  have h2 := IZ_Z (-1)
  have hz := z_m1
  unfold Z at hz
  have e1 : ZG (-1) = true := by rfl
  have e2 : ZS (-1) = ⟨#[1]⟩ := by kernel_rfl
  rw [e1, e2] at h h2
  exact ⟨h, h2⟩
theorem z_m12 : Z (-12) = .agg #[.bool true, .string ⟨#[12]⟩] := by kernel_rfl
theorem of_m12 (w : World) : Calls Try.prog 16 #[.int .i64 (-12)] w fun e w' => e = .returned (.agg #[.bool true, .string ⟨#[12]⟩]) ∧ Below w.heap.size w w' :=
  of_z _ _ _ _ (by omega) (by omega) z_m12
theorem iv_m12 : IVal true ⟨#[12]⟩ ∧ IZ true ⟨#[12]⟩ = -12 := by
  have h := ival_Z (-12) (by have := small_lim (n := 12) (by omega); show 12 < Lim; exact this)
  have h2 := IZ_Z (-12)
  have hz := z_m12
  unfold Z at hz
  have e1 : ZG (-12) = true := by rfl
  have e2 : ZS (-12) = ⟨#[12]⟩ := by kernel_rfl
  rw [e1, e2] at h h2
  exact ⟨h, h2⟩
theorem z_p12 : Z (12) = .agg #[.bool false, .string ⟨#[12]⟩] := by kernel_rfl
theorem of_p12 (w : World) : Calls Try.prog 16 #[.int .i64 (12)] w fun e w' => e = .returned (.agg #[.bool false, .string ⟨#[12]⟩]) ∧ Below w.heap.size w w' :=
  of_z _ _ _ _ (by omega) (by omega) z_p12
theorem iv_p12 : IVal false ⟨#[12]⟩ ∧ IZ false ⟨#[12]⟩ = 12 := by
  have h := ival_Z (12) (by have := small_lim (n := 12) (by omega); show 12 < Lim; exact this)
  have h2 := IZ_Z (12)
  have hz := z_p12
  unfold Z at hz
  have e1 : ZG (12) = false := by rfl
  have e2 : ZS (12) = ⟨#[12]⟩ := by kernel_rfl
  rw [e1, e2] at h h2
  exact ⟨h, h2⟩

theorem l_18 : E 18 = ⟨#[18]⟩ := by kernel_rfl
theorem ex_div1 (w : World) : Calls Try.prog 32 #[.agg #[.bool true, .string ⟨#[7]⟩], .agg #[.bool false, .string ⟨#[2]⟩]] w fun e w' => e = .returned (.tuple #[.agg #[.bool true, .string ⟨#[4]⟩], .string ⟨#[1]⟩, .int .i64 0]) ∧ Below w.heap.size w w' := by
  have := idiv_yes true false ⟨#[7]⟩ ⟨#[2]⟩ w iv_m7.1 iv_p2.1
  rw [iv_m7.2, iv_p2.2] at this
  rwa [show zdivN (-7) 2 = .tuple #[.agg #[.bool true, .string ⟨#[4]⟩], .string ⟨#[1]⟩, .int .i64 0] by unfold zdivN; rw [if_neg (by omega), show (-7 : Int) / 2 = -4 by decide, z_m4, show ((-7 : Int) % 2).toNat = 1 by decide, l_1]] at this
theorem ex_div2 (w : World) : Calls Try.prog 32 #[.agg #[.bool false, .string ⟨#[7]⟩], .agg #[.bool true, .string ⟨#[2]⟩]] w fun e w' => e = .returned (.tuple #[.agg #[.bool true, .string ⟨#[3]⟩], .string ⟨#[1]⟩, .int .i64 0]) ∧ Below w.heap.size w w' := by
  have := idiv_yes false true ⟨#[7]⟩ ⟨#[2]⟩ w iv_p7.1 iv_m2.1
  rw [iv_p7.2, iv_m2.2] at this
  rwa [show zdivN 7 (-2) = .tuple #[.agg #[.bool true, .string ⟨#[3]⟩], .string ⟨#[1]⟩, .int .i64 0] by unfold zdivN; rw [if_neg (by omega), show (7 : Int) / (-2) = -3 by decide, z_m3, show ((7 : Int) % (-2)).toNat = 1 by decide, l_1]] at this
theorem ex_div3 (w : World) : Calls Try.prog 32 #[.agg #[.bool false, .string ⟨#[7]⟩], .agg #[.bool false, .string ⟨#[2]⟩]] w fun e w' => e = .returned (.tuple #[.agg #[.bool (ZG 3), .string (ZS 3)], .string ⟨#[1]⟩, .int .i64 0]) ∧ Below w.heap.size w w' := by
  have := idiv_yes false false ⟨#[7]⟩ ⟨#[2]⟩ w iv_p7.1 iv_p2.1
  rw [iv_p7.2, iv_p2.2] at this
  rwa [show zdivN 7 2 = .tuple #[.agg #[.bool (ZG 3), .string (ZS 3)], .string ⟨#[1]⟩, .int .i64 0] by unfold zdivN; rw [if_neg (by omega), show (7 : Int) / 2 = 3 by decide, show ((7 : Int) % 2).toNat = 1 by decide, l_1]; rfl] at this
theorem ex_divide (w : World) : Calls Try.prog 36 #[.agg #[.bool false, .string ⟨#[7]⟩], .agg #[.bool false, .string ⟨#[2]⟩]] w fun e w' => e = .returned (.tuple #[.agg #[.bool false, .string ⟨#[]⟩], .int .i64 1]) ∧ Below w.heap.size w w' :=
  idivide_rest false false _ ⟨#[7]⟩ ⟨#[2]⟩ _ ⟨#[1]⟩ 0 w rfl (not_empty_of (by decide)) ex_div3
theorem ext_unique {g : Nat} {x y : Int} (h : ExtP 12 18 g x y) : g = 6 ∧ x = 2 ∧ y = -1 := by
  obtain ⟨h1, h2, h3, h4, h5, h6⟩ := h
  have e : Nat.gcd 12 18 = 6 := by decide
  rw [e] at h1
  subst h1
  have h4 := h4 (by decide)
  have e2 : (18 / 6 : Nat) = 3 := by decide
  rw [e2] at h4
  refine ⟨rfl, ?_, ?_⟩ <;> omega
theorem ex_ext (w : World) : Calls Try.prog 38 #[.string ⟨#[12]⟩, .string ⟨#[18]⟩] w fun e w' => e = .returned (.tuple #[.string ⟨#[6]⟩, .agg #[.bool false, .string ⟨#[2]⟩], .agg #[.bool true, .string ⟨#[1]⟩], .int .i64 0]) ∧ Below w.heap.size w w' := by
  have c1 := E_can (n := 12) ⟨#[12]⟩ (by omega) l_12
  have c2 := E_can (n := 18) ⟨#[18]⟩ (by omega) l_18
  refine iext_yes _ _ w c1.1 c2.1 _ (fun g x y w' hx hb => ?_)
  rw [c1.2, c2.2] at hx
  obtain ⟨rfl, rfl, rfl⟩ := ext_unique hx
  rw [l_6, z_p2, z_m1]
  exact ⟨rfl, hb⟩
theorem ex_parse (w : World) : Calls Try.prog 42 #[.string ⟨#[45, 49, 50]⟩] w fun e w' => e = .returned (.tuple #[.agg #[.bool true, .string ⟨#[12]⟩], .int .i64 0]) ∧ Below w.heap.size w w' := by
  have hm : Minus ⟨#[45, 49, 50]⟩ := ⟨by decide, by decide⟩
  have := iparse_minus ⟨#[45, 49, 50]⟩ w hm (by decide)
  have e : (ByteArray.mk #[45, 49, 50]).extract 1 (ByteArray.mk #[45, 49, 50]).size = T 12 := by kernel_rfl
  rw [e, ipN_ok (T_dec 12) (by rw [T_pv]; exact small_lim (by omega)) (by rw [T_pv]; omega), T_pv] at this
  rwa [show Z (sg true 12) = .agg #[.bool true, .string ⟨#[12]⟩] from z_m12] at this
end Go.Proofs.Ytamgklgjhjociaa
