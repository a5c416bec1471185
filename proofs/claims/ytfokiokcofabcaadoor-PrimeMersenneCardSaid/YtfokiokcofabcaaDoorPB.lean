/-
  Several parts in one text (PB).
-/
import Derived.Test.YtfokiokcofabcaaDoorPA
import Derived.Laws.BytesArg
import Derived.Deep.QuietTactic
import Derived.BigQuiet
/-
  The reference of layer 4, the first part: AddMod, MulMod, ExpMod.
-/
namespace Go.Proofs.YtfokiokcofabcaaDoor
open Go.RowKit Go.Deep
set_option linter.unusedVariables false

theorem addmod_any (a b m : Nat) (w : World) (ha : a < m) (hb : b < m) (hm : m < 18446744073709551616) :
    Calls Tryd.prog 47 #[.int .u64 a, .int .u64 b, .int .u64 m] w fun e w' => e = .returned (.int .u64 ((a + b) % m : Nat)) ∧ w = w' := by
  by_cases h : m - b ≤ a
  · have hr : (a + b) % m = a - (m - b) := by
      rw [show a + b = (a - (m - b)) + m from by omega, Nat.add_mod_right, Nat.mod_eq_of_lt (by omega)]
    have hi : (((a + b) % m : Nat) : Int) = (a : Int) - ((m : Int) - (b : Int)) := by rw [hr]; omega
    have hge : (m : Int) - (b : Int) ≤ (a : Int) := by omega
    rw [hi]
    clear hi hr
    go_enter Tryd.func47, Tryd.ntmps47
    go_wp2
    go_ret
    exact ⟨rfl, rfl⟩
  · have hr : (a + b) % m = a + b := Nat.mod_eq_of_lt (by omega)
    have hlt : ¬ (m : Int) - (b : Int) ≤ (a : Int) := by omega
    rw [hr, Int.natCast_add]
    clear hr
    go_enter Tryd.func47, Tryd.ntmps47
    go_wp2
    go_ret
    exact ⟨rfl, rfl⟩

theorem mul_half {o a b m R : Nat} (h : (o + a * b) % m = R) : ((if b % 2 = 1 then (o + a) % m else o) + (a + a) % m * (b / 2)) % m = R := by
  rw [← h]
  have e : a * b = (a + a) * (b / 2) + a * (b % 2) := by
    rw [Nat.add_mul, ← Nat.mul_add, ← Nat.mul_add]
    congr 1; omega
  rw [e]
  split
  · rename_i h1
    rw [h1, Nat.mul_one, Nat.add_mod, Nat.mod_mod, Nat.mod_mul_mod, ← Nat.add_mod]
    congr 1; omega
  · rename_i h1
    rw [show b % 2 = 0 from by omega, Nat.mul_zero, Nat.add_zero, Nat.add_mod, Nat.mod_mul_mod, ← Nat.add_mod]
def MulR (m R : Nat) (w : World) (b : Nat) (va vb vo : Value) (wr : World) : Prop :=
  ∃ a o : Nat, va = .int .u64 a ∧ vb = .int .u64 b ∧ vo = .int .u64 o ∧ a < m ∧ o < m ∧ b < 18446744073709551616 ∧ (o + a * b) % m = R ∧ w = wr
set_option maxHeartbeats 1000000 in
set_option maxRecDepth 20000 in
theorem mulmod_any (a b m : Nat) (w : World) (ha : a < m) (hb : b < m) (hm : m < 18446744073709551616) :
    Calls Tryd.prog 46 #[.int .u64 a, .int .u64 b, .int .u64 m] w fun e w' => e = .returned (.int .u64 (a * b % m : Nat)) ∧ w = w' := by
  by_cases h : m < 4294967296
  · have h1 : a * b ≤ 4294967295 * 4294967295 := Nat.mul_le_mul (by omega) (by omega)
    obtain ⟨p, hp⟩ : ∃ p, p = a * b := ⟨_, rfl⟩
    have hpi : (a : Int) * (b : Int) = (p : Int) := by rw [hp]; simp
    rw [← hp] at h1 ⊢
    have hm0 : 0 < m := by omega
    have hi : (m : Int) < 4294967296 := by omega
    have hp2 : (p : Int) ≤ 18446744065119617025 := by omega
    have hm1 : (0 : Int) < (m : Int) := by omega
    rw [Int.natCast_emod]
    clear hp h h1 ha hb hm hm0
    go_enter Tryd.func46, Tryd.ntmps46
    go_wp2
    go_ret
    exact ⟨rfl, rfl⟩
  · have HA := Lib.hid ha; clear ha
    have HB := Lib.hid hb
    have HM := Lib.hid hm
    have hi : ¬ (m : Int) < 4294967296 := by omega
    have HH := Lib.hid h
    clear h hb hm
    go_enter Tryd.func46, Tryd.ntmps46
    go_wp2
    go_loopg [0, 1, 7] b (fun y va vb vo wr => MulR m (a * b % m) w y va vb vo wr)
    case atStart => have hb := HB.out; have hm := HM.out; exact ⟨a, 0, rfl, rfl, rfl, HA.out, by omega, by omega, by rw [Nat.zero_add], rfl⟩
    case round =>
      obtain ⟨x, o, rfl, rfl, rfl, hx, ho, hy, hR, rfl⟩ := hrel
      have hm := HM.out
      by_cases h0 : gk = 0
      · subst h0
        rw [Nat.mul_zero, Nat.add_zero, Nat.mod_eq_of_lt ho] at hR
        subst hR
        go_wp2
        go_ret
        exact ⟨rfl, rfl⟩
      · have HR := Lib.hid (mul_half hR); clear hR
        have HX := Lib.hid hx; clear hx
        have HO := Lib.hid ho; clear ho
        rcases Nat.mod_two_eq_zero_or_one gk with he | he
        · have hei : (gk : Int) % 2 = 0 := by omega
          have hr := HR.out
          rw [if_neg (by omega)] at hr
          have HR2 := Lib.hid hr; clear hr HR
          go_wp2_with fail
          refine (addmod_any x x m _ HX.out HX.out HM.out).mono ?_; rintro e w' ⟨rfl, rfl⟩
          go_wp2
          go_roundg (gk / 2)
          case measure => omega
          case rel => exact ⟨(x + x) % m, o, rfl, by rw [Int.natCast_ediv]; rfl, rfl, Nat.mod_lt _ (by omega), HO.out, by omega, HR2.out, rfl⟩
        · have hei : (gk : Int) % 2 = 1 := by omega
          have hr := HR.out
          rw [if_pos he] at hr
          have HR2 := Lib.hid hr; clear hr HR
          go_wp2_with fail
          refine (addmod_any o x m _ HO.out HX.out HM.out).mono ?_; rintro e w' ⟨rfl, rfl⟩
          go_wp2_with fail
          refine (addmod_any x x m _ HX.out HX.out HM.out).mono ?_; rintro e w' ⟨rfl, rfl⟩
          go_wp2
          go_roundg (gk / 2)
          case measure => omega
          case rel => exact ⟨(x + x) % m, (o + x) % m, rfl, by rw [Int.natCast_ediv]; rfl, rfl, Nat.mod_lt _ (by omega), Nat.mod_lt _ (by omega), by omega, HR2.out, rfl⟩
end Go.Proofs.YtfokiokcofabcaaDoor


/-
  The reference of layer 4, the second part: ExpMod, StrongU.
-/
namespace Go.Proofs.YtfokiokcofabcaaDoor
open Go.RowKit Go.Deep
set_option linter.unusedVariables false

theorem exp_half {o a e m R : Nat} (h : o * a ^ e % m = R) : (if e % 2 = 1 then o * a % m else o) * (a * a % m) ^ (e / 2) % m = R := by
  rw [← h]
  have e1 : a ^ e = (a * a) ^ (e / 2) * a ^ (e % 2) := by
    rw [← Nat.pow_two, ← Nat.pow_mul, ← Nat.pow_add]; congr 1; omega
  rw [e1]
  split
  · rename_i h1
    rw [h1, Nat.pow_one, Nat.mul_mod, Nat.mod_mod, ← Nat.pow_mod, ← Nat.mul_mod]
    congr 1
    rw [Nat.mul_assoc, Nat.mul_comm a]
  · rename_i h1
    rw [show e % 2 = 0 from by omega, Nat.pow_zero, Nat.mul_one, Nat.mul_mod, ← Nat.pow_mod, ← Nat.mul_mod]
def ExpR (m R : Nat) (w : World) (b : Nat) (va vb vo : Value) (wr : World) : Prop :=
  ∃ a o : Nat, va = .int .u64 a ∧ vb = .int .u64 b ∧ vo = .int .u64 o ∧ a < m ∧ o < m ∧ b < 18446744073709551616 ∧ o * a ^ b % m = R ∧ w = wr
set_option maxHeartbeats 1000000 in
set_option maxRecDepth 20000 in
theorem expmod_any (a b m : Nat) (w : World) (ha : a < m) (hb : b < 18446744073709551616) (hm : m < 18446744073709551616) :
    Calls Tryd.prog 45 #[.int .u64 a, .int .u64 b, .int .u64 m] w fun e w' => e = .returned (.int .u64 (a ^ b % m : Nat)) ∧ w = w' := by
  have hm0 : (1 : Int) ≤ (m : Int) := by omega
  have h1m : (1 : Int) % (m : Int) = ((1 % m : Nat) : Int) := by simp
  have hlt : 1 % m < m := Nat.mod_lt _ (by omega)
  have HLT := Lib.hid hlt; clear hlt
  have HA := Lib.hid ha; clear ha
  have HB := Lib.hid hb; clear hb
  have HM := Lib.hid hm; clear hm
  go_enter Tryd.func45, Tryd.ntmps45
  go_wp2
  go_loopg [0, 1, 7] b (fun y va vb vo wr => ExpR m (a ^ b % m) w y va vb vo wr)
  case atStart => exact ⟨a, 1 % m, rfl, rfl, by first | rfl | rw [← h1m], HA.out, HLT.out, HB.out, by rw [Nat.mod_mul_mod, Nat.one_mul], rfl⟩
  case round =>
    obtain ⟨x, o, rfl, rfl, rfl, hx, ho, hy, hR, rfl⟩ := hrel
    have hm := HM.out
    clear h1m hm0
    have hmp : 0 < m := Nat.lt_of_le_of_lt (Nat.zero_le _) hx
    by_cases h0 : gk = 0
    · subst h0
      rw [Nat.pow_zero, Nat.mul_one, Nat.mod_eq_of_lt ho] at hR
      subst hR
      go_wp2
      go_ret
      exact ⟨rfl, rfl⟩
    · have HR := Lib.hid (exp_half hR); clear hR
      have HX := Lib.hid hx; clear hx
      have HO := Lib.hid ho; clear ho
      rcases Nat.mod_two_eq_zero_or_one gk with he | he
      · have hei : (gk : Int) % 2 = 0 := by omega
        have hr := HR.out
        rw [if_neg (by omega)] at hr
        have HR2 := Lib.hid hr; clear hr HR
        go_wp2_with fail
        refine (mulmod_any x x m _ HX.out HX.out HM.out).mono ?_; rintro e w' ⟨rfl, rfl⟩
        go_wp2
        go_roundg (gk / 2)
        case measure => omega
        case rel => exact ⟨x * x % m, o, rfl, by rw [Int.natCast_ediv]; rfl, rfl, Nat.mod_lt _ hmp, HO.out, by omega, HR2.out, rfl⟩
      · have hei : (gk : Int) % 2 = 1 := by omega
        have hr := HR.out
        rw [if_pos he] at hr
        have HR2 := Lib.hid hr; clear hr HR
        go_wp2_with fail
        refine (mulmod_any o x m _ HO.out HX.out HM.out).mono ?_; rintro e w' ⟨rfl, rfl⟩
        go_wp2_with fail
        refine (mulmod_any x x m _ HX.out HX.out HM.out).mono ?_; rintro e w' ⟨rfl, rfl⟩
        go_wp2
        go_roundg (gk / 2)
        case measure => omega
        case rel => exact ⟨x * x % m, o * x % m, rfl, by rw [Int.natCast_ediv]; rfl, rfl, Nat.mod_lt _ hmp, Nat.mod_lt _ hmp, by omega, HR2.out, rfl⟩
end Go.Proofs.YtfokiokcofabcaaDoor


/-
  The reference of layer 4, the third part: StrongU.
-/
namespace Go.Proofs.YtfokiokcofabcaaDoor
open Go.RowKit Go.Deep
set_option linter.unusedVariables false

def StrU (n a : Nat) (b : Bool) : Prop := b = true ↔ n = 2 ∨ (n % 2 = 1 ∧ n ≠ 1 ∧ QR.PassN n a)
def OddU (n : Nat) (w : World) (d : Nat) (u v : Value) (wr : World) : Prop :=
  ∃ s : Nat, u = .int .u64 d ∧ v = .int .i64 s ∧ n = 2 ^ s * d ∧ 0 < d ∧ d < 18446744073709551616 ∧ s < 64 ∧ w = wr
theorem odd_lt {n s d : Nat} (h : n = 2 ^ s * d) (hd : 0 < d) (hn : n < 18446744073709551616) : s < 64 := by
  have h1 : 2 ^ s ≤ n := by rw [h]; exact Nat.le_mul_of_pos_right _ hd
  exact (Nat.pow_lt_pow_iff_right (a := 2) (n := s) (m := 64) (by decide)).mp (Nat.lt_of_le_of_lt h1 hn)
theorem odd_half {n s d : Nat} (h : n = 2 ^ s * d) (he : d % 2 = 0) : n = 2 ^ (s + 1) * (d / 2) := by
  rw [h, Nat.pow_succ, Nat.mul_assoc, show 2 * (d / 2) = d from by omega]
def StrR (n d A : Nat) (s : Nat) (w : World) (y : Nat) (vx vi : Value) (wr : World) : Prop :=
  ∃ x i : Nat, i + y = s ∧ vx = .int .u64 x ∧ vi = .int .i64 i ∧ x < n ∧ x = A ^ (2 ^ i * d) % n ∧ (∀ t, t < i → A ^ (2 ^ t * d) % n ≠ n - 1) ∧ w = wr
set_option maxHeartbeats 1000000 in
set_option maxRecDepth 20000 in
theorem strongU_any (n a : Nat) (w : World) (ha : a < n) (hn : n < 18446744073709551616) :
    Calls Tryd.prog 32 #[.int .u64 n, .int .u64 a] w fun e w' => (∃ b : Bool, e = .returned (.bool b) ∧ StrU n a b) ∧ w = w' := by
  by_cases h2 : n = 2
  · have HR := Lib.hid (show StrU n a true by unfold StrU; simp [h2])
    subst h2
    clear ha hn
    go_enter Tryd.func32, Tryd.ntmps32
    go_wp2
    go_ret
    first | exact ⟨⟨true, rfl, HR.out⟩, rfl⟩ | exact ⟨.inr ⟨rfl, HR.out⟩, rfl⟩
  by_cases h1 : n = 1
  · have HR := Lib.hid (show StrU n a false by unfold StrU; simp [h1])
    subst h1
    clear ha hn h2
    go_enter Tryd.func32, Tryd.ntmps32
    go_wp2
    go_ret
    first | exact ⟨⟨false, rfl, HR.out⟩, rfl⟩ | exact ⟨.inl ⟨rfl, HR.out⟩, rfl⟩
  rcases Nat.mod_two_eq_zero_or_one n with he | he
  · have HR := Lib.hid (show StrU n a false by unfold StrU; simp; exact ⟨h2, fun q => absurd q (by omega)⟩)
    have h3 : ¬ (n : Int) < 3 := by omega
    have hei : (n : Int) % 2 = 0 := by omega
    have hne : ¬ (n : Int) = 2 := by omega
    have hnb : ((n : Int) == 2) = false := by rw [beq_eq_false_iff_ne]; exact hne
    clear ha hn h2 h1 he
    go_enter Tryd.func32, Tryd.ntmps32
    go_wp2
    go_ret
    first | exact ⟨⟨false, rfl, HR.out⟩, rfl⟩ | exact ⟨.inl ⟨rfl, HR.out⟩, rfl⟩
  have h3 : ¬ (n : Int) < 3 := by omega
  have hei : (n : Int) % 2 = 1 := by omega
  have HN3 := Lib.hid (show 3 ≤ n by omega)
  have HO := Lib.hid he; clear he
  have HA := Lib.hid ha; clear ha
  have HN := Lib.hid hn
  have hmk : QR.PassN n a → StrU n a true := fun q => by unfold StrU; simp; exact .inr ⟨HO.out, h1, q⟩
  have hmn : ¬ QR.PassN n a → StrU n a false := fun q => by unfold StrU; simp; exact ⟨h2, fun _ _ => q⟩
  have HY := Lib.hid hmk; clear hmk
  have HNO := Lib.hid hmn; clear hmn h1 h2
  by_cases h0 : a = 0
  · obtain ⟨s, d, hsd, hdo⟩ := QR.odd_part (n - 1) (by have := HN3.out; omega)
    have hpass : QR.PassN n a := (QR.PassN_iff hsd hdo).mpr (.inl (by rw [h0, Nat.zero_mod]))
    have HR := Lib.hid (HY.out hpass)
    subst h0
    clear hsd hdo hpass hn
    go_enter Tryd.func32, Tryd.ntmps32
    go_wp2
    go_ret
    first | exact ⟨⟨true, rfl, HR.out⟩, rfl⟩ | exact ⟨.inr ⟨rfl, HR.out⟩, rfl⟩
  have HA0 := Lib.hid (show a % n ≠ 0 by rw [Nat.mod_eq_of_lt HA.out]; exact h0)
  have hai : ¬ (a : Int) = 0 := by omega
  have hn1 : ((n - 1 : Nat) : Int) = (n : Int) - 1 := by have := HN3.out; omega
  have hsub : IntKind.u64.wrap ((n : Int) - 1) = ((n - 1 : Nat) : Int) := by rw [hn1]; exact IntWalk.u64_in _ (by have := HN3.out; omega)
  have HW := Lib.hid hsub
  clear h0 hn hn1
  go_enter Tryd.func32, Tryd.ntmps32
  go_wp2
  go_loopg [5, 6] (n - 1) (fun y u v wr => OddU (n - 1) w y u v wr)
  case atStart => exact ⟨0, by first | rfl | rw [HW.out], rfl, by rw [Nat.pow_zero, Nat.one_mul], by have := HN3.out; omega, by have := HN.out; omega, by omega, rfl⟩
  case round =>
    obtain ⟨s, rfl, rfl, hsd, hd0, hdl, hs, rfl⟩ := hrel
    rcases Nat.mod_two_eq_zero_or_one gk with ho | ho
    · have hoi : (gk : Int) % 2 = 0 := by omega
      have HSD := Lib.hid (odd_half hsd ho)
      have hsl := odd_lt HSD.out (by omega) (by have := HN.out; omega)
      clear hsd
      go_wp2
      go_roundg (gk / 2)
      case measure => omega
      case rel => exact ⟨s + 1, by rw [Int.natCast_ediv]; rfl, by go_num, HSD.out, by omega, by omega, hsl, rfl⟩
    · have hoi : (gk : Int) % 2 = 1 := by omega
      have HSD := Lib.hid hsd; clear hsd
      have HD := Lib.hid ho; clear ho
      have HDL := Lib.hid hdl; clear hdl
      go_wp2_with fail
      refine (expmod_any a gk n _ HA.out HDL.out HN.out).mono ?_; rintro e w' ⟨rfl, rfl⟩
      obtain ⟨p, hp⟩ : ∃ p, p = a ^ gk % n := ⟨_, rfl⟩
      rw [← hp]
      have hpn : p < n := by rw [hp]; exact Nat.mod_lt _ (by have := HN3.out; omega)
      by_cases hp1 : p = 1
      · have HR := Lib.hid (HY.out ((QR.PassN_iff HSD.out HD.out).mpr (.inr (.inl (by rw [← hp]; exact hp1)))))
        subst hp1
        clear hp hpn
        go_wp2
        go_ret
        first | exact ⟨⟨true, rfl, HR.out⟩, rfl⟩ | exact ⟨.inr ⟨rfl, HR.out⟩, rfl⟩
      · have hp1i : ¬ (p : Int) = 1 := by omega
        have hpb : ((p : Int) == 1) = false := by rw [beq_eq_false_iff_ne]; exact hp1i
        have HP1 := Lib.hid (show a ^ gk % n ≠ 1 by rw [← hp]; exact hp1)
        have HPP := Lib.hid hp
        have HPN := Lib.hid hpn
        clear hp hpn hp1
        obtain ⟨d, hd⟩ : ∃ d, d = gk := ⟨_, rfl⟩
        rw [← hd] at HSD HD HPP HP1
        go_wp2
        go_loopg [7, 8] s (fun y vx vi wr => StrR n d a s w y vx vi wr)
        case atStart => exact ⟨p, 0, by omega, rfl, rfl, HPN.out, by rw [HPP.out, Nat.pow_zero, Nat.one_mul], fun t q => absurd q (by omega), rfl⟩
        case round =>
          obtain ⟨x, i, hi, rfl, rfl, hxn, hx, ht, rfl⟩ := hrel
          have HX := Lib.hid hx; clear hx
          have HT := Lib.hid ht; clear ht
          have HXN := Lib.hid hxn
          by_cases hil : i < s
          · by_cases hxl : x = n - 1
            · have HR := Lib.hid (HY.out ((QR.PassN_iff HSD.out HD.out).mpr (.inr (.inr ⟨i, hil, by rw [← HX.out]; exact hxl⟩))))
              have hxi : (x : Int) = ((n - 1 : Nat) : Int) := by omega
              go_wp2
              go_ret
              first | exact ⟨⟨true, rfl, HR.out⟩, rfl⟩ | exact ⟨.inr ⟨rfl, HR.out⟩, rfl⟩
            · have hxi : ¬ (x : Int) = ((n - 1 : Nat) : Int) := by omega
              have HT2 := Lib.hid (all_next (P := fun t => a ^ (2 ^ t * d) % n ≠ n - 1) HT.out (by rw [← HX.out]; exact hxl))
              have HX2 : Hid (x * x % n = a ^ (2 ^ (i + 1) * d) % n) := Lib.hid (by rw [HX.out]; exact pow_twice)
              go_wp2_with fail
              refine (mulmod_any x x n _ HXN.out HXN.out HN.out).mono ?_; rintro e w' ⟨rfl, rfl⟩
              obtain ⟨y, hy⟩ : ∃ y, y = x * x % n := ⟨_, rfl⟩
              rw [← hy]
              have HYN := Lib.hid (show y < n by rw [hy]; exact Nat.mod_lt _ (by have := HN3.out; omega))
              have HX3 := Lib.hid (show y = a ^ (2 ^ (i + 1) * d) % n by rw [hy]; exact HX2.out)
              clear hy HX2
              go_wp2
              go_roundg (s - (i + 1))
              case measure => omega
              case rel => exact ⟨y, i + 1, by omega, rfl, by go_num, HYN.out, HX3.out, HT2.out, rfl⟩
          · obtain rfl : i = s := by omega
            have HR := Lib.hid (HNO.out (not_pass HSD.out HD.out HA0.out HP1.out HT.out))
            go_wp2
            go_ret
            first | exact ⟨⟨false, rfl, HR.out⟩, rfl⟩ | exact ⟨.inl ⟨rfl, HR.out⟩, rfl⟩
end Go.Proofs.YtfokiokcofabcaaDoor


/-
  The reference of layer 4, the fourth part: Formed, U, Of, Mod.
-/
namespace Go.Proofs.YtfokiokcofabcaaDoor
open Go.RowKit Go.Deep
set_option linter.unusedVariables false

set_option maxHeartbeats 400000 in
theorem formed4_yes (s : ByteArray) (w : World) (h : Can s) :
    Calls Tryd.prog 18 #[.string s] w fun e w' => e = .returned (.bool true) ∧ w = w' := by
  obtain ⟨h1, h2⟩ := h
  by_cases h0 : s.size = 0
  · have hE := empty_of h0
    go_enter Tryd.func18, Tryd.ntmps18
    go_wp2
    go_ret
    exact ⟨rfl, rfl⟩
  · have hE := not_empty_of h0
    have h0' : 0 < s.size := by omega
    have hh := can_head h2 h0'
    have hb : ((s.size : Int) == 0) = false := by rw [beq_eq_false_iff_ne]; omega
    clear h2
    go_enter Tryd.func18, Tryd.ntmps18
    go_wp2
    go_ret
    exact ⟨rfl, rfl⟩

set_option maxHeartbeats 400000 in
theorem formed4_no (s : ByteArray) (w : World) (h : ¬ Can s) :
    Calls Tryd.prog 18 #[.string s] w fun e w' => e = .returned (.bool false) ∧ w = w' := by
  by_cases h1 : s.size ≤ 128
  · have h2 : ¬ can s.data.toList := fun q => h ⟨h1, q⟩
    obtain ⟨h0, hz⟩ := not_can_head h2
    have hE := not_empty_of (s := s) (by omega)
    have hh : (((s[0]'h0).toNat : Int) != 0) = false := by rw [hz]; rfl
    have hb : ((s.size : Int) == 0) = false := by rw [beq_eq_false_iff_ne]; omega
    have hs0 : ¬ s.size = 0 := by omega
    clear h h2 hz
    go_enter Tryd.func18, Tryd.ntmps18
    go_wp2
    go_ret
    exact ⟨rfl, rfl⟩
  · clear h
    go_enter Tryd.func18, Tryd.ntmps18
    go_wp2
    go_ret
    exact ⟨rfl, rfl⟩

set_option maxHeartbeats 400000 in
theorem ru4_yes (s : ByteArray) (w : World) (h8 : s.size ≤ 8) :
    Calls Tryd.prog 21 #[.string s] w fun e w' => e = .returned (.tuple #[.int .u64 (V s), .bool true]) ∧ w = w' := by
  have h8' : (s.size : Int) ≤ 8 := by omega
  go_enter Tryd.func21, Tryd.ntmps21
  go_wp2
  go_loop [4, 5] (fun n v => ∃ k : Nat, k ≤ s.size ∧ v = .int .i64 k ∧ n = .int .u64 (pre s k : Nat)) (fun _ v => s.size - (intOf v).toNat)
  case atStart => exact ⟨0, by omega, rfl, by rw [pre_zero]; rfl⟩
  case round =>
    obtain ⟨k, hk, rfl, rfl⟩ := hrel
    by_cases hlt : k < s.size
    · have hb := (s[k]'hlt).toNat_lt
      have hp := pre_lt s k
      have hp2 : pre s k < 72057594037927936 := Nat.lt_of_lt_of_le hp (Nat.le_trans (Nat.pow_le_pow_right (by omega) (show k ≤ 7 by omega)) (by decide))
      have hs := pre_succ s k hlt
      have HS := Lib.hid hs; clear hs hp
      go_wp2
      go_round
      case rel => exact ⟨k + 1, by omega, by go_num, int_eq (by rw [HS.out]; simp)⟩
      case measure => simp [intOf]; omega
    · obtain rfl : k = s.size := by omega
      go_wp2
      go_ret2
      exact ⟨by rw [pre_all]; rfl, rfl⟩
set_option maxHeartbeats 400000 in
theorem ru4_long (s : ByteArray) (w : World) (h8 : ¬ s.size ≤ 8) (hs : s.size ≤ 128) :
    Calls Tryd.prog 21 #[.string s] w fun e w' => (∃ x : Int, e = .returned (.tuple #[.int .u64 x, .bool false])) ∧ w = w' := by
  have h8' : ¬ (s.size : Int) ≤ 8 := by omega
  have hd8 : decide ((s.size : Int) ≤ 8) = false := decide_eq_false h8'
  go_enter Tryd.func21, Tryd.ntmps21
  go_wp2
  go_loop [4, 5] (fun n v => ∃ k : Nat, k ≤ s.size ∧ v = .int .i64 k ∧ ∃ x : Int, n = .int .u64 x) (fun _ v => s.size - (intOf v).toNat)
  case atStart => exact ⟨0, by omega, rfl, 0, rfl⟩
  case round =>
    obtain ⟨k, hk, rfl, x, rfl⟩ := hrel
    by_cases hlt : k < s.size
    · go_wp2
      go_round
      case rel => exact ⟨k + 1, by omega, by go_num, _, rfl⟩
      case measure => simp [intOf]; omega
    · go_wp2
      go_ret2
      exact ⟨⟨_, rfl⟩, rfl⟩

theorem encF_enc {f n : Nat} (h : n ≤ f) : encF f n = enc n := can_inj (can_encF f n h) (can_enc n) (by rw [bval_encF f n h, bval_enc])
theorem enc_step {n : Nat} (h : n ≠ 0) : enc n = enc (n / 256) ++ [UInt8.ofNat (n % 256)] := by
  show encF n n = _
  cases n with
  | zero => exact absurd rfl h
  | succ m =>
    show (if m + 1 = 0 then [] else encF m ((m + 1) / 256) ++ [UInt8.ofNat ((m + 1) % 256)]) = _
    rw [if_neg h, encF_enc (by omega)]
/-- What the loop of Of knows. -/
def OfR (n : Nat) (w : World) (m : Nat) (u v : Value) (wr : World) : Prop :=
  ∃ s : ByteArray, m < 18446744073709551616 ∧ u = .int .u64 m ∧ v = .string s ∧ enc n = enc m ++ s.data.toList ∧ Below w.heap.size w wr
theorem of_size {n m : Nat} {s : ByteArray} (h : enc n = enc m ++ s.data.toList) (hn : n < 18446744073709551616) : s.size ≤ 8 := by
  have h1 : (enc n).length ≤ 8 := enc_length_le.2 hn
  rw [h, List.length_append] at h1
  rw [size_eq]; omega
theorem of_fin {n : Nat} {s : ByteArray} (h : enc n = enc 0 ++ s.data.toList) : s = E n := by
  apply ByteArray.ext
  apply Array.ext'
  rw [E_data, h, enc_zero, List.nil_append]
theorem of_step {n m : Nat} {s : ByteArray} (h : enc n = enc m ++ s.data.toList) (h0 : m ≠ 0) (b : UInt8) (hb : b = UInt8.ofNat (m % 256)) : enc n = enc (m / 256) ++ ((⟨#[b]⟩ : ByteArray) ++ s).data.toList := by
  rw [h, enc_step h0, hb, List.append_assoc]
  simp

theorem Tryd.hund38r : Tryd.prog.underlying 38 = some (.slice 5) := by kernel_rfl
theorem Tryd.hund5r : Tryd.prog.underlying 5 = some (.int .u8) := by kernel_rfl
theorem Tryd.hund9r : Tryd.prog.underlying 9 = some .string := by kernel_rfl
theorem one_byte (W : World) (x : Nat) : (convert 38 9 (.slice (some ⟨W.heap.size, 0, none⟩) 1 1)).run Tryd.prog (W.alloc (.cells #[.int .u8 (x : Int)] 5)) = .ok (.string ⟨#[UInt8.ofNat x]⟩) (W.alloc (.cells #[.int .u8 (x : Int)] 5)) := by
  have := run_convert_bytes_arg (P := Tryd.prog) (W.alloc (.cells #[.int .u8 (x : Int)] 5)) 38 5 Tryd.hund38r Tryd.hund5r W.heap.size 0 1 1 [(x : Int)] rfl (fun i hi => by
    obtain rfl : i = 0 := by omega
    rw [Nat.zero_add]
    exact World.cell?_alloc_new W _ _ _) 9 Tryd.hund9r
  rw [this]
  unfold strOfNums
  simp
set_option maxHeartbeats 1000000 in
set_option maxRecDepth 20000 in
theorem rof4_any (n : Nat) (w : World) (hn : n < 18446744073709551616) :
    Calls Tryd.prog 15 #[.int .u64 n] w fun e w' => e = .returned (.string (E n)) ∧ Below w.heap.size w w' := by
  have HN := Lib.hid hn
  go_enter Tryd.func15, Tryd.ntmps15
  go_wp2
  go_loopg [0, 3] n (fun y u v wr => OfR n w y u v wr)
  case atStart => exact ⟨⟨#[]⟩, HN.out, rfl, rfl, by simp, Below.refl _ _⟩
  case round =>
    obtain ⟨s, hgl, rfl, rfl, hs, hbel⟩ := hrel
    have hsz := of_size hs HN.out
    by_cases h0 : gk = 0
    · subst h0
      have HE := Lib.hid (of_fin hs); clear hs
      go_wp2
      go_ret
      exact ⟨by rw [HE.out]; rfl, hbel⟩
    · obtain ⟨r, hr⟩ : ∃ r, r = gk % 256 := ⟨_, rfl⟩
      have hri : (gk : Int) % 256 = (r : Int) := by omega
      have hr2 : r < 256 := by omega
      have HSTEP := Lib.hid (of_step hs h0 (UInt8.ofNat r) (by rw [hr])); clear hs hr
      have hcv := one_byte wr r
      have HB := Lib.hid hbel; clear hbel
      go_wp2
      go_roundg (gk / 256)
      case measure => omega
      case rel => exact ⟨_, by omega, by rw [Int.natCast_ediv]; rfl, rfl, HSTEP.out, HB.out.alloc HB.out.size _⟩
end Go.Proofs.YtfokiokcofabcaaDoor


/-
  The reference of layer 4, the fifth part: Mod, Strong, IsU.
-/
namespace Go.Proofs.YtfokiokcofabcaaDoor
open Go.RowKit Go.Deep
set_option linter.unusedVariables false

theorem quiet4 {P : Program} {f : FuncId} {args : Array Value} {w : World} {n : Nat} {v : Value}
    (h : Calls P f args (w.drewN n) fun e w' => e = .returned v ∧ w.drewN n = w') : Calls P f args (w.drewN n) fun e w'' => e = .returned v ∧ ∃ m, w'' = w.drewN m :=
  h.mono fun _ _ ⟨he, hm⟩ => ⟨he, n, hm.symm⟩
theorem below_d4 {B : Nat} {a w : World} (h : Below B a w) (q : Nat) : Below B a (w.drewN q) := ⟨h.os, h.tape, h.output, h.size, h.block⟩
theorem mod_next {a b c m : Nat} : (a % m * (256 % m) % m + b % m) % m = (a * 256 + b) % m := by
  rw [← Nat.mul_mod, ← Nat.add_mod]
/-- What the loop of Mod knows. -/
def ModR (s : ByteArray) (m : Nat) (w : World) (k : Nat) (u v : Value) (wr : World) : Prop := ∃ x : Nat, u = .int .u64 x ∧ x < m ∧ x = pre s k % m ∧ v = .int .i64 k ∧ Below w.heap.size w wr
set_option maxHeartbeats 1000000 in
set_option maxRecDepth 20000 in
theorem rmod4_any (s : ByteArray) (m : Nat) (w : World) (hs : s.size ≤ 200) (hm0 : 0 < m) (hm : m < 18446744073709551616) :
    Calls Tryd.prog 33 #[.string s, .int .u64 m] w fun e w' => e = .returned (.int .u64 (V s % m : Nat)) ∧ Below w.heap.size w w' := by
  have HM := Lib.hid hm; clear hm
  have hm1 : (1 : Int) ≤ (m : Int) := by omega
  obtain ⟨c, hc⟩ : ∃ c, c = 256 % m := ⟨_, rfl⟩
  have hci : (256 : Int) % (m : Int) = (c : Int) := by rw [hc, Int.natCast_emod]; rfl
  have hcm : c < m := by rw [hc]; exact Nat.mod_lt _ hm0
  have HC := Lib.hid hc; clear hc
  have HCM := Lib.hid hcm; clear hcm
  have H0 := Lib.hid hm0; clear hm0
  go_enter Tryd.func33, Tryd.ntmps33
  go_wp2
  go_loopw [5, 6] (fun u v wr => ∃ k : Nat, k ≤ s.size ∧ ModR s m w k u v wr) (fun _ v _ => s.size - (intOf v).toNat)
  case atStart => exact ⟨0, by omega, 0, rfl, H0.out, by rw [pre_zero, Nat.zero_mod], rfl, Below.refl _ _⟩
  case round =>
    obtain ⟨k, hk, x, rfl, hxm, hx, rfl, hbel⟩ := hrel
    have HB := Lib.hid hbel; clear hbel
    by_cases hlt : k < s.size
    · obtain ⟨b, hb⟩ : ∃ b, b = (s[k]'hlt).toNat := ⟨_, rfl⟩
      have hbi : ((s[k]'hlt).toNat : Int) = (b : Int) := by rw [hb]
      obtain ⟨d, hd⟩ : ∃ d, d = b % m := ⟨_, rfl⟩
      have hdi : (b : Int) % (m : Int) = (d : Int) := by rw [hd, Int.natCast_emod]
      have hdm : d < m := by rw [hd]; exact Nat.mod_lt _ H0.out
      have hb256 : b < 256 := by rw [hb]; exact (s[k]'hlt).toNat_lt
      have HX := Lib.hid (show (x * c % m + d) % m = pre s (k + 1) % m by rw [hx, HC.out, hd, pre_succ s k hlt, ← hb]; exact mod_next (c := 0))
      have HXM := Lib.hid hxm; clear hxm hx
      have HDM := Lib.hid hdm; clear hdm hd
      clear hb
      go_wp2
      go_quiet (first | ((go_at_call 46; exact quiet4 (mulmod_any x c m _ HXM.out HCM.out HM.out))) | ((go_at_call 47; exact quiet4 (addmod_any _ _ m _ (Nat.mod_lt _ H0.out) HDM.out HM.out))))
      go_wp2
      go_roundw
      case rel => exact ⟨k + 1, by omega, _, rfl, Nat.mod_lt _ H0.out, HX.out, by go_num, below_d4 HB.out _⟩
      case measure => simp [intOf]; omega
    · obtain rfl : k = s.size := by omega
      have HX := Lib.hid (show x = V s % m by rw [hx, pre_all]); clear hx
      go_wp2
      go_ret
      exact ⟨by rw [HX.out]; rfl, HB.out⟩

/-! ### IsU -/
def F12 (j : Nat) : Nat := QR.first12.getD j 0
def Row12 (w : World) (g : Nat) : Prop := ∀ j, j < 12 → w.cell? ⟨g, j, none⟩ = some (.int .u64 (F12 j : Nat))
theorem row12_new (w : World) (t : TypeId) : Row12 (w.alloc (.cells #[.int .u64 2, .int .u64 3, .int .u64 5, .int .u64 7, .int .u64 11, .int .u64 13, .int .u64 17, .int .u64 19, .int .u64 23, .int .u64 29, .int .u64 31, .int .u64 37] t)) w.heap.size := fun j hj => by
  have h := World.rowIs_alloc w #[.int .u64 2, .int .u64 3, .int .u64 5, .int .u64 7, .int .u64 11, .int .u64 13, .int .u64 17, .int .u64 19, .int .u64 23, .int .u64 29, .int .u64 31, .int .u64 37] t (fun i => .int .u64 (F12 i : Nat)) (fun i hi => by
    have h : i = 0 ∨ i = 1 ∨ i = 2 ∨ i = 3 ∨ i = 4 ∨ i = 5 ∨ i = 6 ∨ i = 7 ∨ i = 8 ∨ i = 9 ∨ i = 10 ∨ i = 11 := by simp at hi; omega
    rcases h with rfl | rfl | rfl | rfl | rfl | rfl | rfl | rfl | rfl | rfl | rfl | rfl
    all_goals rfl)
  exact h.cell hj
theorem F12_mem {j : Nat} (h : j < 12) : F12 j ∈ QR.first12 := by
  have h' : j < QR.first12.length := h
  unfold F12
  rw [List.getD_eq_getElem?_getD, List.getElem?_eq_getElem h', Option.getD_some]
  exact List.getElem_mem h'
theorem F12_all {P : Nat → Prop} (h : ∀ j, j < 12 → P (F12 j)) : ∀ a, a ∈ QR.first12 → P a := first12_at.mp h
theorem F12_two {j : Nat} (h : j < 12) : 2 ≤ F12 j := (QR.first12_prime (F12_mem h)).1
theorem F12_le {j : Nat} (h : j < 12) : F12 j ≤ 37 := by
  have : ∀ j, j < 12 → F12 j ≤ 37 := by decide
  exact this j h
theorem big37 {n : Nat} (h2 : 2 ≤ n) (h : ∀ j, j < 12 → n % F12 j ≠ 0) : 38 ≤ n := by
  rcases Nat.lt_or_ge n 38 with q | q
  · exfalso
    have : ∀ n, n < 38 → 2 ≤ n → ∃ j, j < 12 ∧ n % F12 j = 0 := by decide
    obtain ⟨j, hj, hz⟩ := this n q h2
    exact h j hj hz
  · exact q
theorem not_divides {n j : Nat} (hj : j < 12) (h2 : 2 ≤ n) (hne : n ≠ F12 j) (hz : n % F12 j = 0) : ¬ QR.StrongOk n QR.first12 := by
  have hd := Nat.dvd_of_mod_eq_zero hz
  have hle := Nat.le_of_dvd (by omega) hd
  have h3 := F12_two hj
  exact QR.divisor_not h3 hd (by omega) (F12_mem hj) (by omega)
theorem strong_one {n a : Nat} {b : Bool} (h : StrU n a b) : b = true ↔ QR.StrongOk n [a] := by
  unfold StrU at h
  rw [h, QR.StrongOk_one]
theorem strong_sub {n a : Nat} (h : QR.StrongOk n QR.first12) (ha : a ∈ QR.first12) : QR.StrongOk n [a] := by
  rw [QR.StrongOk_one]
  rcases h with h | ⟨h1, h2, h3⟩
  · exact .inl h
  · exact .inr ⟨h1, h2, h3 a ha⟩
def IsR1 (n k : Nat) : Prop := ∀ j, j < k → n ≠ F12 j ∧ n % F12 j ≠ 0
def IsR2 (n k : Nat) : Prop := ∀ j, j < k → QR.StrongOk n [F12 j]
theorem isR_done {n : Nat} (h2 : 2 ≤ n) (h : IsR1 n 12) (h' : IsR2 n 12) : QR.StrongOk n QR.first12 :=
  (QR.is_iff n).mp ⟨h2, .inr ⟨F12_all fun j hj => (h j hj).2, F12_all fun j hj => h' j hj⟩⟩
def IsP (n : Nat) (b : Bool) : Prop := b = true ↔ QR.StrongOk n QR.first12
theorem isP_true {n : Nat} (h : QR.StrongOk n QR.first12) : IsP n true := ⟨fun _ => h, fun _ => rfl⟩
theorem isP_false {n : Nat} (h : ¬ QR.StrongOk n QR.first12) : IsP n false := ⟨fun q => by simp at q, fun q => absurd q h⟩
theorem not_strong0 {L : List Nat} : ¬ QR.StrongOk 0 L := by
  rintro (h | ⟨h, _⟩) <;> omega
theorem not_strong1 {L : List Nat} : ¬ QR.StrongOk 1 L := by
  rintro (h | ⟨_, h, _⟩)
  · omega
  · exact h rfl
set_option maxHeartbeats 1000000 in
set_option maxRecDepth 20000 in
theorem risU_any (n : Nat) (w : World) (hn : n < 18446744073709551616) :
    Calls Tryd.prog 30 #[.int .u64 n] w fun e w' => (∃ b : Bool, e = .returned (.bool b) ∧ IsP n b) ∧ Below w.heap.size w w' := by
  by_cases h2 : n < 2
  · have HR := Lib.hid (isP_false (n := n) (by
      have : n = 0 ∨ n = 1 := by omega
      rcases this with rfl | rfl
      · exact not_strong0
      · exact not_strong1))
    have hi : (n : Int) < 2 := by omega
    clear hn
    go_enter Tryd.func30, Tryd.ntmps30
    go_wp2
    go_ret
    first | exact ⟨⟨false, rfl, HR.out⟩, Below.refl _ _⟩ | exact ⟨.inl ⟨rfl, HR.out⟩, Below.refl _ _⟩
  · have HN := Lib.hid hn
    have H2 := Lib.hid (show 2 ≤ n by omega)
    have hi : ¬ (n : Int) < 2 := by omega
    have hrow := row12_new w 31
    have hbel : Below w.heap.size w (w.alloc (.cells #[.int .u64 2, .int .u64 3, .int .u64 5, .int .u64 7, .int .u64 11, .int .u64 13, .int .u64 17, .int .u64 19, .int .u64 23, .int .u64 29, .int .u64 31, .int .u64 37] 31)) := (Below.refl _ _).alloc (Nat.le_refl _) _
    clear hn h2
    go_enter Tryd.func30, Tryd.ntmps30
    go_wp2
    generalize World.alloc w _ = W0 at *
    have HROW := Lib.hid hrow; clear hrow
    have HBEL := Lib.hid hbel; clear hbel
    go_loop [4] (fun v => ∃ k : Nat, k ≤ 12 ∧ v = .int .i64 k ∧ Hid (IsR1 n k)) (fun v => 12 - (intOf v).toNat)
    case atStart => exact ⟨0, by omega, rfl, fun j hj => absurd hj (by omega)⟩
    case round =>
      obtain ⟨k, hk, rfl, HI⟩ := hrel
      by_cases hlt : k < 12
      · have hcell := HROW.out k hlt
        have hf2 := F12_two hlt
        have HF2 := Lib.hid hf2
        obtain ⟨p, hp⟩ : ∃ p, p = F12 k := ⟨_, rfl⟩
        rw [← hp] at hcell hf2
        have HP := Lib.hid hp; clear hp
        have hpi : (1 : Int) ≤ (p : Int) := by omega
        have hki : (k : Int) < 12 := by omega
        by_cases he : n = p
        · have HR := Lib.hid (isP_true ((QR.is_iff n).mp ⟨H2.out, .inl (by rw [he, HP.out]; exact F12_mem hlt)⟩))
          subst he
          go_wp2
          go_ret
          first | exact ⟨⟨true, rfl, HR.out⟩, HBEL.out⟩ | exact ⟨.inr ⟨rfl, HR.out⟩, HBEL.out⟩
        · have hei : ((n : Int) == (p : Int)) = false := by rw [beq_eq_false_iff_ne]; omega
          have hei2 : ¬ (n : Int) = (p : Int) := by omega
          by_cases hz : n % p = 0
          · have HR := Lib.hid (isP_false (not_divides hlt H2.out (by rw [← HP.out]; exact he) (by rw [← HP.out]; exact hz)))
            have hzi : (n : Int) % (p : Int) = 0 := by rw [← Int.natCast_emod, hz]; rfl
            clear hz he
            go_wp2
            go_ret
            first | exact ⟨⟨false, rfl, HR.out⟩, HBEL.out⟩ | exact ⟨.inl ⟨rfl, HR.out⟩, HBEL.out⟩
          · have HI2 := Lib.hid (show IsR1 n (k + 1) from all_next HI.out (by rw [← HP.out]; exact ⟨he, hz⟩))
            obtain ⟨r, hr⟩ : ∃ r, r = n % p := ⟨_, rfl⟩
            have hri : (n : Int) % (p : Int) = (r : Int) := by rw [hr, Int.natCast_emod]
            have hr0 : ((r : Int) == 0) = false := by rw [beq_eq_false_iff_ne]; omega
            have hr1 : ¬ (r : Int) = 0 := by omega
            clear hz he hr
            go_wp2
            go_round
            case rel => exact ⟨k + 1, by omega, by go_num, HI2.out⟩
            case measure => simp [intOf]; omega
      · obtain rfl : k = 12 := by omega
        have HB := Lib.hid (big37 H2.out fun j hj => (HI.out j hj).2)
        go_wp2
        go_loop [5] (fun v => ∃ k : Nat, k ≤ 12 ∧ v = .int .i64 k ∧ Hid (IsR2 n k)) (fun v => 12 - (intOf v).toNat)
        case atStart => exact ⟨0, by omega, rfl, fun j hj => absurd hj (by omega)⟩
        case round =>
          obtain ⟨k, hk, rfl, HI'⟩ := hrel
          by_cases hlt : k < 12
          · have hcell := HROW.out k hlt
            have hle := F12_le hlt
            obtain ⟨p, hp⟩ : ∃ p, p = F12 k := ⟨_, rfl⟩
            rw [← hp] at hcell hle
            have HP := Lib.hid hp; clear hp
            have hki : (k : Int) < 12 := by omega
            have HL := Lib.hid (show p < n by have := HB.out; omega); clear hle
            go_wp2_with fail
            refine (strongU_any n p _ HL.out HN.out).mono ?_; rintro e w' ⟨⟨b, rfl, hb⟩, rfl⟩
            have HS := Lib.hid (strong_one hb); clear hb
            cases b with
            | true =>
              have HI2 := Lib.hid (show IsR2 n (k + 1) from all_next HI'.out (by rw [← HP.out]; exact HS.out.mp rfl))
              go_wp2
              go_round
              case rel => exact ⟨k + 1, by omega, by go_num, HI2.out⟩
              case measure => simp [intOf]; omega
            | false =>
              have HR := Lib.hid (isP_false (n := n) (fun q => by
                have := HS.out.mpr (strong_sub q (by rw [HP.out]; exact F12_mem hlt))
                simp at this))
              go_wp2
              go_ret
              first | exact ⟨⟨false, rfl, HR.out⟩, HBEL.out⟩ | exact ⟨.inl ⟨rfl, HR.out⟩, HBEL.out⟩
          · obtain rfl : k = 12 := by omega
            have HR := Lib.hid (isP_true (isR_done H2.out HI.out HI'.out))
            go_wp2
            go_ret
            first | exact ⟨⟨true, rfl, HR.out⟩, HBEL.out⟩ | exact ⟨.inr ⟨rfl, HR.out⟩, HBEL.out⟩

/-! ### Strong -/
theorem rstrong_no (s t : ByteArray) (w : World) (h : ¬ (Can s ∧ Can t)) :
    Calls Tryd.prog 17 #[.string s, .string t] w fun e w' => e = .returned (.tuple #[.bool false, .int .i64 3]) ∧ w = w' := by
  by_cases hc : Can s
  · have hd : ¬ Can t := fun q => h ⟨hc, q⟩
    have HC := Lib.hid hc; clear hc h
    have HD := Lib.hid hd; clear hd
    go_enter Tryd.func17, Tryd.ntmps17
    go_wp2_with fail
    refine (formed4_yes s _ HC.out).mono ?_; rintro e w' ⟨rfl, rfl⟩
    go_wp2_with fail
    refine (formed4_no t _ HD.out).mono ?_; rintro e w' ⟨rfl, rfl⟩
    go_wp2
    go_ret2
    exact ⟨rfl, rfl⟩
  · have HC := Lib.hid hc; clear hc h
    go_enter Tryd.func17, Tryd.ntmps17
    go_wp2_with fail
    refine (formed4_no s _ HC.out).mono ?_; rintro e w' ⟨rfl, rfl⟩
    go_wp2
    go_ret2
    exact ⟨rfl, rfl⟩
theorem strU_mod {n a : Nat} {b : Bool} (h : StrU n (a % n) b) : StrU n a b := by
  unfold StrU at h ⊢
  rw [h, QR.PassN_mod]
theorem strP_one {n : Nat} {t : ByteArray} {b : Bool} (h : StrU n (V t) b) : StrP n 1 (fun _ => t) b := by
  unfold StrU at h
  unfold StrP
  rw [h]
  constructor
  · rintro (q | ⟨q1, q2, q3⟩)
    · exact .inl q
    · exact .inr ⟨q1, q2, fun _ _ => q3⟩
  · rintro (q | ⟨q1, q2, q3⟩)
    · exact .inl q
    · exact .inr ⟨q1, q2, q3 0 (by omega)⟩
set_option maxHeartbeats 1000000 in
theorem rstrong_yes (n : Nat) (t : ByteArray) (w : World) (hn : n < 18446744073709551616) (ht : Can t) :
    Calls Tryd.prog 17 #[.string (E n), .string t] w fun e w' => (∃ b : Bool, e = .returned (.tuple #[.bool b, .int .i64 0]) ∧ StrP n 1 (fun _ => t) b) ∧ Below w.heap.size w w' := by
  have HN := Lib.hid hn
  have HS := Lib.hid (smallP hn); clear hn
  have HT := Lib.hid ht; clear ht
  by_cases h0 : n = 0
  · have HR := Lib.hid (show StrP n 1 (fun _ => t) false by unfold StrP; simp [h0])
    subst h0
    go_enter Tryd.func17, Tryd.ntmps17
    go_wp2_with fail
    refine (formed4_yes _ _ HS.out.1).mono ?_; rintro e w' ⟨rfl, rfl⟩
    go_wp2_with fail
    refine (formed4_yes t _ HT.out).mono ?_; rintro e w' ⟨rfl, rfl⟩
    go_wp2_with fail
    refine (ru4_yes _ _ HS.out.2).mono ?_; rintro e w' ⟨rfl, rfl⟩
    rw [V_E]
    go_wp2
    go_ret2
    exact ⟨⟨false, rfl, HR.out⟩, Below.refl _ _⟩
  · have hni : ((n : Int) == 0) = false := by rw [beq_eq_false_iff_ne]; omega
    have hni2 : ¬ (n : Int) = 0 := by omega
    have H0 := Lib.hid (show 0 < n by omega); clear h0
    go_enter Tryd.func17, Tryd.ntmps17
    go_wp2_with fail
    refine (formed4_yes _ _ HS.out.1).mono ?_; rintro e w' ⟨rfl, rfl⟩
    go_wp2_with fail
    refine (formed4_yes t _ HT.out).mono ?_; rintro e w' ⟨rfl, rfl⟩
    go_wp2_with fail
    refine (ru4_yes _ _ HS.out.2).mono ?_; rintro e w' ⟨rfl, rfl⟩
    rw [V_E]
    go_wp2_with fail
    refine (rmod4_any t n _ (Nat.le_trans HT.out.1 (by omega)) H0.out HN.out).mono ?_; rintro e w1 ⟨rfl, b1⟩
    have B1 := Lib.hid b1; clear b1
    go_wp2_with fail
    refine (strongU_any n (V t % n) _ (Nat.mod_lt _ H0.out) HN.out).mono ?_; rintro e w' ⟨⟨b, rfl, hb⟩, rfl⟩
    have HB := Lib.hid (strP_one (strU_mod hb)); clear hb
    go_wp2
    go_ret2
    exact ⟨⟨b, rfl, HB.out⟩, B1.out⟩
end Go.Proofs.YtfokiokcofabcaaDoor


/-
  The reference of layer 4, the sixth part: Is, Safe, NextU, Next.
-/
namespace Go.Proofs.YtfokiokcofabcaaDoor
open Go.RowKit Go.Deep
set_option linter.unusedVariables false

theorem ris_form (s : ByteArray) (w : World) (h : ¬ Can s) :
    Calls Tryd.prog 14 #[.string s] w fun e w' => e = .returned (.tuple #[.bool false, .int .i64 3]) ∧ w = w' := by
  have HC := Lib.hid h; clear h
  go_enter Tryd.func14, Tryd.ntmps14
  go_wp2_with fail
  refine (formed4_no s _ HC.out).mono ?_; rintro e w' ⟨rfl, rfl⟩
  go_wp2
  go_ret2
  exact ⟨rfl, rfl⟩
theorem ris_long (s : ByteArray) (w : World) (h : Can s) (h8 : ¬ s.size ≤ 8) :
    Calls Tryd.prog 14 #[.string s] w fun e w' => e = .returned (.tuple #[.bool false, .int .i64 5]) ∧ w = w' := by
  have HC := Lib.hid h; clear h
  have H8 := Lib.hid h8; clear h8
  go_enter Tryd.func14, Tryd.ntmps14
  go_wp2_with fail
  refine (formed4_yes s _ HC.out).mono ?_; rintro e w' ⟨rfl, rfl⟩
  go_wp2_with fail
  refine (ru4_long s _ H8.out HC.out.1).mono ?_; rintro e w' ⟨⟨x, rfl⟩, rfl⟩
  go_wp2
  go_ret2
  exact ⟨rfl, rfl⟩
set_option maxHeartbeats 1000000 in
theorem ris_yes (n : Nat) (w : World) (hn : n < 18446744073709551616) :
    Calls Tryd.prog 14 #[.string (E n)] w fun e w' => (∃ b : Bool, e = .returned (.tuple #[.bool b, .int .i64 0]) ∧ (b = true ↔ QR.StrongOk n QR.first12)) ∧ Below w.heap.size w w' := by
  have HN := Lib.hid hn
  have HS := Lib.hid (smallP hn); clear hn
  go_enter Tryd.func14, Tryd.ntmps14
  go_wp2_with fail
  refine (formed4_yes _ _ HS.out.1).mono ?_; rintro e w' ⟨rfl, rfl⟩
  go_wp2_with fail
  refine (ru4_yes _ _ HS.out.2).mono ?_; rintro e w' ⟨rfl, rfl⟩
  rw [V_E]
  go_wp2_with fail
  refine (risU_any n _ HN.out).mono ?_; rintro e w1 ⟨⟨b, rfl, hb⟩, b1⟩
  have HB := Lib.hid hb; clear hb
  have B1 := Lib.hid b1; clear b1
  go_wp2
  go_ret2
  exact ⟨⟨b, rfl, HB.out⟩, B1.out⟩

/-! ### Safe -/
theorem rsafe_form (s : ByteArray) (w : World) (h : ¬ Can s) :
    Calls Tryd.prog 23 #[.string s] w fun e w' => e = .returned (.tuple #[.bool false, .int .i64 3]) ∧ w = w' := by
  have HC := Lib.hid h; clear h
  go_enter Tryd.func23, Tryd.ntmps23
  go_wp2_with fail
  refine (ris_form s _ HC.out).mono ?_; rintro e w' ⟨rfl, rfl⟩
  go_wp2
  go_ret2
  exact ⟨rfl, rfl⟩
theorem rsafe_long (s : ByteArray) (w : World) (h : Can s) (h8 : ¬ s.size ≤ 8) :
    Calls Tryd.prog 23 #[.string s] w fun e w' => e = .returned (.tuple #[.bool false, .int .i64 5]) ∧ w = w' := by
  have HC := Lib.hid h; clear h
  have H8 := Lib.hid h8; clear h8
  go_enter Tryd.func23, Tryd.ntmps23
  go_wp2_with fail
  refine (ris_long s _ HC.out H8.out).mono ?_; rintro e w' ⟨rfl, rfl⟩
  go_wp2
  go_ret2
  exact ⟨rfl, rfl⟩
set_option maxHeartbeats 1000000 in
theorem rsafe_yes (n : Nat) (w : World) (hn : n < 18446744073709551616) :
    Calls Tryd.prog 23 #[.string (E n)] w fun e w' => (∃ b : Bool, e = .returned (.tuple #[.bool b, .int .i64 0]) ∧ (b = true ↔ QR.StrongOk n QR.first12 ∧ QR.StrongOk (n / 2) QR.first12)) ∧ Below w.heap.size w w' := by
  have HN := Lib.hid hn
  have HS := Lib.hid (smallP hn)
  have hh : (n - 1) / 2 < 18446744073709551616 := by omega
  have HH := Lib.hid hh; clear hh
  go_enter Tryd.func23, Tryd.ntmps23
  go_wp2_with fail
  refine (ris_yes n _ HN.out).mono ?_; rintro e w1 ⟨⟨b, rfl, hb⟩, b1⟩
  have B1 := Lib.hid b1; clear b1
  have HB := Lib.hid hb; clear hb
  go_wp2_with fail
  refine (ru4_yes _ _ HS.out.2).mono ?_; rintro e w' ⟨rfl, rfl⟩
  rw [V_E]
  cases b with
  | false =>
    have hres : false = true ↔ QR.StrongOk n QR.first12 ∧ QR.StrongOk (n / 2) QR.first12 := ⟨fun q => by simp at q, fun q => absurd (HB.out.mpr q.1) (by simp)⟩
    have HR := Lib.hid hres; clear hres
    go_wp2
    go_ret2
    exact ⟨⟨false, rfl, HR.out⟩, B1.out⟩
  | true =>
    have hpos : 2 ≤ n := by
      rcases HB.out.mp (by simp) with h | ⟨h1, h2, _⟩
      · omega
      · omega
    have hs : (n - 1) / 2 = n / 2 ∨ n = 2 := by
      rcases HB.out.mp (by simp) with h | ⟨h1, h2, _⟩
      · exact .inr h
      · exact .inl (by omega)
    have hsub : IntKind.u64.wrap ((n : Int) - 1) = (n : Int) - 1 := IntWalk.u64_in _ (by omega)
    have hdv : ((n : Int) - 1) / 2 = (((n - 1) / 2 : Nat) : Int) := by omega
    have hn1 : (1 : Int) ≤ (n : Int) := by omega
    have HSX := Lib.hid hs; clear hs hpos
    go_wp2_with fail
    rw [hdv]
    refine (risU_any ((n - 1) / 2) _ HH.out).mono ?_; rintro e w4 ⟨⟨c, rfl, hc⟩, b4⟩
    have B4 := Lib.hid (bnext B1.out b4); clear b4
    have hres : c = true ↔ QR.StrongOk n QR.first12 ∧ QR.StrongOk (n / 2) QR.first12 := by
      unfold IsP at hc
      rw [hc]
      rcases HSX.out with h | h
      · rw [h]; exact ⟨fun q => ⟨HB.out.mp (by simp), q⟩, fun q => q.2⟩
      · subst h; exact ⟨fun q => absurd q not_strong0, fun q => absurd q.2 not_strong1⟩
    have HR := Lib.hid hres; clear hres hc
    go_wp2
    go_ret2
    exact ⟨⟨c, rfl, HR.out⟩, B4.out⟩

/-! ### Next -/
def RNextR (n : Nat) (w : World) (y : Nat) (v : Value) (wr : World) : Prop :=
  ∃ x : Nat, x + y = 18446744073709551615 ∧ n ≤ x ∧ v = .int .u64 x ∧ NoneIn n (x + 1) ∧ Below w.heap.size w wr
/-- What NextU answers. -/
def NextU (n : Nat) (v : Value) : Prop :=
  (∃ m, n < m ∧ m < 18446744073709551616 ∧ QR.StrongOk m QR.first12 ∧ NoneIn n m ∧ v = .tuple #[.int .u64 m, .bool true]) ∨
  (NoneIn n 18446744073709551616 ∧ v = .tuple #[.int .u64 0, .bool false])
set_option maxHeartbeats 1000000 in
theorem rnextU_any (n : Nat) (w : World) (hn : n < 18446744073709551616) :
    Calls Tryd.prog 36 #[.int .u64 n] w fun e w' => (∃ v, e = .returned v ∧ NextU n v) ∧ Below w.heap.size w w' := by
  have HN := Lib.hid hn
  go_enter Tryd.func36, Tryd.ntmps36
  go_wp2
  go_loopg [0] (18446744073709551615 - n) (fun y v wr => RNextR n w y v wr)
  case atStart => exact ⟨n, by omega, by omega, rfl, fun k h1 h2 => by omega, Below.refl _ _⟩
  case round =>
    obtain ⟨x, hxy, hnx, rfl, hno, hbel⟩ := hrel
    have HB := Lib.hid hbel; clear hbel
    have hw := u64_wrap_succ x
    by_cases hx : x = 18446744073709551615
    · subst hx
      have HR := Lib.hid (show NextU n (.tuple #[.int .u64 0, .bool false]) from .inr ⟨hno, rfl⟩)
      clear hno hw
      go_wp2
      go_ret2
      exact ⟨⟨_, rfl, HR.out⟩, HB.out⟩
    · have hx2 : x + 1 < 18446744073709551616 := by omega
      have HX := Lib.hid hx2
      rw [Nat.mod_eq_of_lt hx2] at hw
      have hb : (((x + 1 : Nat) : Int) != 0) = true := by rw [bne_iff_ne]; omega
      have HNO := Lib.hid hno; clear hno
      obtain ⟨z, hz⟩ : ∃ z, z = x + 1 := ⟨_, rfl⟩
      rw [← hz] at hw hb
      have HZ := Lib.hid hz; clear hz
      go_wp2_with fail
      refine (risU_any z _ (by rw [HZ.out]; exact HX.out)).mono ?_; rintro e w4 ⟨⟨c, rfl, hc⟩, b4⟩
      have B4 := Lib.hid (bnext HB.out b4); clear b4
      cases c with
      | true =>
        have HR := Lib.hid (show NextU n (.tuple #[.int .u64 z, .bool true]) from .inl ⟨z, by have := HZ.out; omega, by have := HZ.out; have := HX.out; omega, hc.mp rfl, by rw [HZ.out]; exact HNO.out, rfl⟩)
        clear hc
        go_wp2
        go_ret2
        exact ⟨⟨_, rfl, HR.out⟩, B4.out⟩
      | false =>
        have HNO2 := Lib.hid (HNO.out.step (by rw [← HZ.out]; exact fun q => by have := hc.mpr q; simp at this))
        clear hc
        go_wp2
        go_roundg (gk - 1)
        case measure => omega
        case rel => exact ⟨z, by have := HZ.out; omega, by have := HZ.out; omega, rfl, by rw [HZ.out]; exact HNO2.out, B4.out⟩

theorem rnext_form (s : ByteArray) (w : World) (h : ¬ Can s) :
    Calls Tryd.prog 20 #[.string s] w fun e w' => e = .returned (.tuple #[.string ⟨#[]⟩, .int .i64 3]) ∧ w = w' := by
  have HC := Lib.hid h; clear h
  go_enter Tryd.func20, Tryd.ntmps20
  go_wp2_with fail
  refine (formed4_no s _ HC.out).mono ?_; rintro e w' ⟨rfl, rfl⟩
  go_wp2
  go_ret2
  exact ⟨rfl, rfl⟩
theorem rnext_long (s : ByteArray) (w : World) (h : Can s) (h8 : ¬ s.size ≤ 8) :
    Calls Tryd.prog 20 #[.string s] w fun e w' => e = .returned (.tuple #[.string ⟨#[]⟩, .int .i64 5]) ∧ w = w' := by
  have HC := Lib.hid h; clear h
  have H8 := Lib.hid h8; clear h8
  go_enter Tryd.func20, Tryd.ntmps20
  go_wp2_with fail
  refine (formed4_yes s _ HC.out).mono ?_; rintro e w' ⟨rfl, rfl⟩
  go_wp2_with fail
  refine (ru4_long s _ H8.out HC.out.1).mono ?_; rintro e w' ⟨⟨x, rfl⟩, rfl⟩
  go_wp2
  go_ret2
  exact ⟨rfl, rfl⟩
set_option maxHeartbeats 1000000 in
theorem rnext_yes (n : Nat) (w : World) (hn : n < 18446744073709551616) :
    Calls Tryd.prog 20 #[.string (E n)] w fun e w' => (∃ v, e = .returned v ∧ NextP n v) ∧ Below w.heap.size w w' := by
  have HN := Lib.hid hn
  have HS := Lib.hid (smallP hn); clear hn
  go_enter Tryd.func20, Tryd.ntmps20
  go_wp2_with fail
  refine (formed4_yes _ _ HS.out.1).mono ?_; rintro e w' ⟨rfl, rfl⟩
  go_wp2_with fail
  refine (ru4_yes _ _ HS.out.2).mono ?_; rintro e w' ⟨rfl, rfl⟩
  rw [V_E]
  go_wp2_with fail
  refine (rnextU_any n _ HN.out).mono ?_; rintro e w1 ⟨⟨v, rfl, hv⟩, b1⟩
  have B1 := Lib.hid b1; clear b1
  rcases hv with ⟨m, h1, h2, h3, h4, rfl⟩ | ⟨h4, rfl⟩
  · have HR := Lib.hid (show NextP n (.tuple #[.string (E m), .int .i64 0]) from .inl ⟨m, h1, h2, h3, h4, rfl⟩)
    have H2 := Lib.hid h2
    clear h1 h2 h3 h4
    go_wp2_with fail
    refine (rof4_any m _ H2.out).mono ?_; rintro e w2 ⟨rfl, b2⟩
    have B2 := Lib.hid (bnext B1.out b2); clear b2
    go_wp2
    go_ret2
    exact ⟨⟨_, rfl, HR.out⟩, B2.out⟩
  · have HR := Lib.hid (show NextP n (.tuple #[.string ⟨#[]⟩, .int .i64 5]) from .inr ⟨h4, rfl⟩)
    clear h4
    go_wp2
    go_ret2
    exact ⟨⟨_, rfl, HR.out⟩, B1.out⟩
end Go.Proofs.YtfokiokcofabcaaDoor

