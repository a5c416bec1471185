/-
  Contracts of package natural, the fifteenth part: appendPart.
-/
import Derived.Test.YtamgklgjhjociaaNat14
namespace Go.Proofs.Ytamgklgjhjociaa
open Go.RowKit
set_option linter.unusedVariables false

/-- The carry of appendPart behind k digits. -/
def carryP (N sc p k : Nat) : Nat := (sc * (N % B32 ^ k) + p) / B32 ^ k
theorem carryP_zero (N sc p : Nat) : carryP N sc p 0 = p := by simp [carryP, Nat.mod_one]
theorem carryP_lt {N sc p : Nat} (hs : sc < 4294967296) (hp : p < 4294967296) (k : Nat) : carryP N sc p k < 4294967296 := by
  unfold carryP
  have h := b32_pos k
  have hm := Nat.mod_lt N h
  refine Nat.div_lt_of_lt_mul ?_
  have h1 := Nat.mul_le_mul (show sc ≤ 4294967295 by omega) (show N % B32 ^ k ≤ B32 ^ k - 1 by omega)
  have h2 : 4294967295 * (B32 ^ k - 1) + 4294967295 = B32 ^ k * 4294967295 := by
    obtain ⟨z, hz⟩ : ∃ z, B32 ^ k = z + 1 := ⟨B32 ^ k - 1, by omega⟩
    rw [hz]; omega
  have h3 : B32 ^ k * 4294967296 = B32 ^ k * 4294967295 + B32 ^ k := by rw [← Nat.mul_succ]
  omega
theorem part_mul (N sc p k : Nat) : carryP N sc p k + sc * wd N k = (sc * (N % B32 ^ (k + 1)) + p) / B32 ^ k := by
  unfold carryP wd
  have h := b32_pos k
  have e : N % B32 ^ (k + 1) = N % B32 ^ k + B32 ^ k * (N / B32 ^ k % B32) := by rw [Nat.pow_succ, Nat.mod_mul]
  rw [e, Nat.mul_add, Nat.mul_left_comm, show sc * (N % B32 ^ k) + B32 ^ k * (sc * (N / B32 ^ k % B32)) + p = B32 ^ k * (sc * (N / B32 ^ k % B32)) + (sc * (N % B32 ^ k) + p) by omega, Nat.mul_add_div h]
  omega
theorem part_next (N sc p k : Nat) : (carryP N sc p k + sc * wd N k) / 4294967296 = carryP N sc p (k + 1) := by
  rw [part_mul, Nat.div_div_eq_div_mul]
  unfold carryP
  rw [Nat.pow_succ]; rfl
theorem part_digit (N sc p k : Nat) : (carryP N sc p k + sc * wd N k) % 4294967296 = wd (N * sc + p) k := by
  rw [part_mul]
  unfold wd
  have h := b32_pos k
  have e : N * sc + p = B32 ^ k * (B32 * (sc * (N / B32 ^ (k + 1)))) + (sc * (N % B32 ^ (k + 1)) + p) := by
    have h1 := Nat.div_add_mod N (B32 ^ (k + 1))
    have h2 : sc * N = sc * (B32 ^ (k + 1) * (N / B32 ^ (k + 1))) + sc * (N % B32 ^ (k + 1)) := by rw [← Nat.mul_add, h1]
    have h3 : sc * (B32 ^ (k + 1) * (N / B32 ^ (k + 1))) = B32 ^ k * (B32 * (sc * (N / B32 ^ (k + 1)))) := by
      rw [Nat.pow_succ, Nat.mul_left_comm, Nat.mul_assoc]
    rw [Nat.mul_comm N sc, h2, h3]; omega
  rw [e, Nat.mul_add_div h]
  show _ % B32 = _
  rw [Nat.mul_add_mod]
theorem part_lt {N sc p n : Nat} (hN : N < B32 ^ n) (hs : sc < 4294967296) (hp : p < 4294967296) : N * sc + p < B32 ^ (n + 1) := by
  have h := b32_pos n
  have h1 := Nat.mul_le_mul (show N ≤ B32 ^ n - 1 by omega) (show sc ≤ 4294967295 by omega)
  have h2 : (B32 ^ n - 1) * 4294967295 + 4294967295 = B32 ^ n * 4294967295 := by
    obtain ⟨z, hz⟩ : ∃ z, B32 ^ n = z + 1 := ⟨B32 ^ n - 1, by omega⟩
    rw [hz]; omega
  have h3 : B32 ^ (n + 1) = B32 ^ n * 4294967295 + B32 ^ n := by rw [Nat.pow_succ, ← Nat.mul_succ]; rfl
  omega
theorem part_top {N sc p n : Nat} (hN : N < B32 ^ n) (hs : sc < 4294967296) (hp : p < 4294967296) : carryP N sc p n = wd (N * sc + p) n := by
  have h1 := part_lt hN hs hp
  unfold carryP wd
  rw [Nat.mod_eq_of_lt hN, Nat.mul_comm, Nat.mod_eq_of_lt]
  exact Nat.div_lt_of_lt_mul (by rw [← Nat.pow_succ]; exact h1)

/-- n digits of a number as values. -/
def wl (N n : Nat) : List Value := (List.range n).map fun j => Value.int .u32 (wd N j : Nat)
def apl (N2 N k n : Nat) : List Value := (List.range n).map fun j => Value.int .u32 (mix N2 N k j : Nat)
theorem apl_start (N2 N n : Nat) : apl N2 N 0 n = wl N n := by
  unfold apl wl
  apply List.map_congr_left
  intro j hj
  unfold mix; rw [if_neg (by omega)]
theorem apl_end (N2 N n : Nat) : apl N2 N n n = wl N2 n := by
  unfold apl wl
  apply List.map_congr_left
  intro j hj
  have := List.mem_range.1 hj
  unfold mix; rw [if_pos this]
theorem apl_get (N2 N k n j : Nat) (h : j < n) : (apl N2 N k n)[j]? = some (Value.int .u32 (mix N2 N k j : Nat)) := by
  simp [apl, h]
theorem apl_set (N2 N k n : Nat) (hk : k < n) : (apl N2 N k n).set k (Value.int .u32 (wd N2 k : Nat)) = apl N2 N (k + 1) n := by
  apply List.ext_getElem?
  intro j
  rw [List.getElem?_set]
  by_cases hj : j < n
  · rw [apl_get _ _ _ _ _ hj, apl_get _ _ _ _ _ hj]
    unfold mix
    by_cases e : k = j
    · subst e
      rw [if_pos rfl, if_pos (by simp [apl, hk]), if_pos (by omega)]
    · rw [if_neg e]
      by_cases h2 : j < k
      · rw [if_pos h2, if_pos (by omega)]
      · rw [if_neg h2, if_neg (by omega)]
  · have h1 : ∀ q, (apl N2 N q n)[j]? = none := fun q => by simp [apl]; omega
    rw [h1, h1, if_neg (by omega)]
theorem wl_succ (N n : Nat) : wl N n ++ [Value.int .u32 (wd N n : Nat)] = wl N (n + 1) := by
  unfold wl
  rw [List.range_succ, List.map_append]; rfl
theorem wl_length (N n : Nat) : (wl N n).length = n := by simp [wl]

/-- What appendPart gives. -/
def AppP (base n M : Nat) (w : World) (e : Ending) (w' : World) : Prop :=
  ∃ v', e = .returned v' ∧ w'.ownsRow base 104 1 v' (n + 1) (wl M (n + 1)) ∧ Below base w w'
/-- What its loop knows. -/
def AppR (base g cap n N2 N sc p : Nat) (w : World) (c v : Value) (wr : World) : Prop :=
  ∃ k : Nat, k ≤ n ∧ v = .int .i64 k ∧ c = .int .u64 (carryP N sc p k : Nat) ∧ wr.ownsRow base 104 1 (.slice (some ⟨g, 0, none⟩) n cap) n (apl N2 N k n) ∧ Below base w wr

set_option maxHeartbeats 1000000 in
set_option maxRecDepth 20000 in
theorem appendPart_row (base g cap n N sc p : Nat) (w : World) (hn : n ≤ 100) (hsc : sc < 4294967296) (hp : p < 4294967296) (hN : N < B32 ^ n) (hb : base ≤ w.heap.size) (hbg : base ≤ g) (hcap : n ≤ cap) (hcl : cap ≤ 9223372036854775807)
    (hown : w.ownsRow base 104 1 (.slice (some ⟨g, 0, none⟩) n cap) n (wl N n)) :
    Calls Try.prog 90 #[.slice (some ⟨g, 0, none⟩) n cap, .int .u32 sc, .int .u32 p] w fun e w' => AppP base n (N * sc + p) w e w' := by
  obtain ⟨N2, hN2⟩ : ∃ q, q = N * sc + p := ⟨_, rfl⟩
  rw [← hN2]
  have HT := Lib.hid (part_top hN hsc hp)
  rw [← hN2] at HT
  have hdig := fun k => part_digit N sc p k
  rw [← hN2] at hdig
  have HD := Lib.hid hdig; clear hdig
  have HN := Lib.hid hN; clear hN hN2
  have hown0 : w.ownsRow base 104 1 (.slice (some ⟨g, 0, none⟩) n cap) n (apl N2 N 0 n) := by rw [apl_start]; exact hown
  have HO := Lib.hid hown0; clear hown0 hown
  go_enter Try.func90, Try.ntmps90
  go_wp2
  go_loopw [7, 13] (fun c v wr => AppR base g cap n N2 N sc p w c v wr) (fun _ v _ => n - (intOf v).toNat)
  case atStart => exact ⟨0, by omega, rfl, by rw [carryP_zero], HO.out, Below.refl _ _⟩
  case round =>
    clear HO
    obtain ⟨k, hk, rfl, rfl, hown, hbel⟩ := hrel
    have hcar := carryP_lt (N := N) hsc hp k
    by_cases hlt : k < n
    · have hcell := hown.cellAt k (by omega)
      rw [apl_get _ _ _ _ _ hlt] at hcell
      have hmx : mix N2 N k k = wd N k := by unfold mix; rw [if_neg (by omega)]
      rw [hmx] at hcell
      have hfr := hown.frozenAt k
      have hx := wd_lt N k
      have hst := hown.stored k (Value.int .u32 (wd N2 k : Nat))
      rw [apl_set _ _ _ _ hlt] at hst
      have HST := Lib.hid hst; clear hst
      have HS1 := Lib.hid (HD.out k)
      have HS2 := Lib.hid (part_next N sc p k)
      obtain ⟨x, hxe⟩ : ∃ x, x = wd N k := ⟨_, rfl⟩
      rw [← hxe] at hcell hx HS1 HS2
      obtain ⟨c, hce⟩ : ∃ c, c = carryP N sc p k := ⟨_, rfl⟩
      rw [← hce] at hcar HS1 HS2 ⊢
      clear hxe hce hmx
      have HO := Lib.hid hown; clear hown
      have hmul : sc * x ≤ 18446744065119617025 := Nat.mul_le_mul (show sc ≤ 4294967295 by omega) (show x ≤ 4294967295 by omega)
      go_wp2
      go_roundw
      case rel =>
        refine ⟨k + 1, by omega, by go_num, int_eq ?_, ?_, hbel.setCell hbg _⟩
        · rw [← HS2.out]; simp
        · have e := HST.out.1
          rw [← HS1.out] at e
          simpa using e
      case measure => simp [intOf]; omega
    · obtain rfl : k = n := by omega
      rw [apl_end] at hown
      have HT2 := HT.out
      obtain ⟨c, hce⟩ : ∃ c, c = carryP N sc p k := ⟨_, rfl⟩
      rw [← hce] at hcar HT2 ⊢
      have HT3 := Lib.hid HT2; clear HT2 hce
      have hbw : base ≤ wr.heap.size := Nat.le_trans hb hbel.size
      obtain ⟨i0, hi, hz0, hz1, hz2⟩ := info_parts Try.info104
      go_wp2_with (at_builtin; refine wpList_append_own _ rfl _ _ 91 rfl base 104 i0 (.int .u32 0) 1 4 Try.underlying91 hi hz0 hz1 hz2 rfl (by decide) _ _ _ rfl (hown.alloc _) ⟨wr.heap.size, 0, none⟩ 1 1 [.int .u32 (c : Nat)] rfl rfl ?c1 ?c2 ?c3 ?c4 ?c5 ?_)
      case c1 =>
        intro j u hj
        match j, hj with
        | 0, hj => simp at hj; subst hj; simp [Addr.add]
      case c2 => intro u hu; simp at hu; subst hu; rfl
      case c3 => unfold maxLen; omega
      case c4 => omega
      case c5 => simp; omega
      · intro v' w5 hown5 hgrow _
        rw [HT3.out, wl_succ] at hown5
        have hb5 : Below base w w5 := (hbel.alloc hbw _).grown hgrow (by simp; omega) (fun z hz => own_block_ge hown _ hz)
        go_wp2
        go_ret
        exact ⟨_, rfl, hown5, hb5⟩
end Go.Proofs.Ytamgklgjhjociaa
