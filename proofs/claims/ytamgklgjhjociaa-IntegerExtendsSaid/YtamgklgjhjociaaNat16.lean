/-
  Contracts of package natural, the sixteenth part: appendPart of any slice, store of any capacity.
-/
import Derived.Test.YtamgklgjhjociaaNat15
namespace Go.Proofs.Ytamgklgjhjociaa
open Go.RowKit
set_option linter.unusedVariables false

set_option maxHeartbeats 400000 in
theorem store_wide (A : Option Addr) (c n N : Nat) (w : World) (hN : N < B32 ^ n) (hn : n ≤ 1000) (hnc : n ≤ c) (hc : c ≤ 9223372036854775807) (hw : 0 < n → ∃ g o, A = some ⟨g, o, none⟩ ∧ g < w.heap.size ∧ Words w g o n N) :
    Calls Try.prog 73 #[.slice A n c] w fun e w' => e = .returned (okN N) ∧ Below w.heap.size w w' := by
  have hmk := run_make_bytes (4 * n) (by omega)
  have hmk : ∀ w : World, (Instr.makeSlice 98 (.int .i64 (4 * (n : Int))) (.int .i64 (4 * (n : Int)))).run Try.prog w = .ok (.slice (some ⟨w.heap.size, 0, none⟩) (4 * n) (4 * n)) (w.alloc (.cells (madeCells #[.int .u8 0] (4 * n)) 5)) := hmk
  have HW := Lib.hid hw; clear hw
  have HN := Lib.hid hN; clear hN
  go_enter Try.func73, Try.ntmps73
  go_wp2
  go_loopw [5, 13] (fun _ v wr => ∃ k : Nat, k ≤ 4 * n ∧ v = .int .i64 k ∧ wr.rowIs w.heap.size 5 (4 * n) (fun j => .int .u8 (partB N (4 * n) k j : Nat)) ∧ Below w.heap.size w wr) (fun _ v _ => 4 * n - (intOf v).toNat)
  case atStart => exact ⟨0, by omega, rfl, part_zero w _ _ _, (Below.refl _ _).alloc (Nat.le_refl _) _⟩
  case round =>
    obtain ⟨k, hk, rfl, hrow, hbel⟩ := hrel
    by_cases hlt : k < 4 * n
    · obtain ⟨g, o, rfl, hg, hws⟩ := HW.out (by omega)
      obtain ⟨q, hq⟩ : ∃ q, q = k / 4 := ⟨_, rfl⟩
      obtain ⟨r, hr⟩ : ∃ r, r = k % 4 := ⟨_, rfl⟩
      have hr4 : r < 4 := by omega
      have hqn : q < n := by omega
      have hcell := hrow.cell (i := 4 * n - 1 - k) (by omega)
      have hfr := hrow.frozen (4 * n - 1 - k)
      have hsrc : wr.cell? ⟨g, o + q, none⟩ = some (.int .u32 (wd N q : Nat)) := (hbel.cell (p := ⟨g, o + q, none⟩) hg).trans (hws q hqn)
      have hwl := wd_lt N q
      have q1 : (k : Int) / 4 = (q : Int) := by omega
      have q2 : (k : Int) % 4 = (r : Int) := by omega
      have HQ := Lib.hid hq; clear hq
      have HRR := Lib.hid hr; clear hr
      have HR := Lib.hid hrow; clear hrow hws
      go_wp2
      go_roundw
      case rel => exact ⟨k + 1, by omega, by go_num, part_step HR.out hlt (dig_of_wd HQ.out HRR.out), hbel.setCell (Nat.le_refl _) _⟩
      case measure => simp [intOf]; omega
    · obtain rfl : k = 4 * n := by omega
      have hb := part_done hrow
      have hN4 : N < 256 ^ (4 * n) := by rw [← b32_powj]; exact HN.out
      have hE := E_beN hN4
      have hsz := E_size_lim N
      have HB := Lib.hid hb; clear hb
      have HE := Lib.hid hE; clear hE hN4
      have HZ := Lib.hid hsz; clear hsz
      go_wp2_with fail
      refine (strip_any w.heap.size 0 (4 * n) (4 * n) (beN (4 * n) N) _ (beN_length _ _) (by omega) (by omega) (by omega) HB.out).mono ?_
      rintro e w' ⟨rfl, rfl⟩
      rw [HE.out]
      by_cases hfit : N < Lim
      · have hf := HZ.out.2 hfit
        have ho := Lib.hid (okN_yes hfit)
        clear hfit
        go_wp2
        go_ret2
        exact ⟨ret_v ho.out.symm, hbel⟩
      · have hf : ¬ (E N).size ≤ 128 := fun q => hfit (HZ.out.1 q)
        have ho := Lib.hid (okN_no hfit)
        clear hfit
        go_wp2
        go_ret2
        exact ⟨ret_v ho.out.symm, hbel⟩

theorem wl_cells {w : World} {base g cap n N : Nat} (h : w.ownsRow base 104 1 (.slice (some ⟨g, 0, none⟩) n cap) n (wl N n)) : g < w.heap.size ∧ Words w g 0 n N ∨ n = 0 := by
  by_cases hn : n = 0
  · exact .inr hn
  · refine .inl ⟨?_, fun j hj => ?_⟩
    · rcases h.2 with ⟨h', _⟩ | ⟨g', cap', cur, h', _, hg, _⟩
      · simp at h'
      · simp only [Value.slice.injEq, Option.some.injEq, Addr.mk.injEq, and_true, true_and] at h'
        obtain ⟨rfl, rfl⟩ := h'
        exact (Array.getElem?_eq_some_iff.1 hg).1
    · rw [Nat.zero_add, h.cellAt j (by omega)]
      simp [wl, hj]

/-- store of a slice of the call's own. -/
theorem store_own (base n N : Nat) (v : Value) (w : World) (hN : N < B32 ^ n) (hn : n ≤ 1000) (h : w.ownsRow base 104 1 v n (wl N n)) :
    Calls Try.prog 73 #[v] w fun e w' => e = .returned (okN N) ∧ Below w.heap.size w w' := by
  have h0 := h
  rcases h.2 with ⟨rfl, rfl⟩ | ⟨g, cap, cur, rfl, hbg, hg, hnc, hcm, hcs, htake⟩
  · exact store_wide none 0 0 N w hN hn (Nat.le_refl _) (by omega) (fun q => absurd q (by omega))
  · refine store_wide (some ⟨g, 0, none⟩) cap n N w hN hn hnc hcm (fun q => ?_)
    rcases wl_cells h0 with h1 | h1
    · exact ⟨g, 0, rfl, h1.1, h1.2⟩
    · omega

set_option maxHeartbeats 1000000 in
set_option maxRecDepth 20000 in
theorem appendPart_nil (base sc p : Nat) (w : World) (hp : p < 4294967296) (hb : base ≤ w.heap.size) (hsc : sc < 4294967296) :
    Calls Try.prog 90 #[.slice none 0 0, .int .u32 sc, .int .u32 p] w fun e w' => AppP base 0 p w e w' := by
  have hown : w.ownsRow base 104 1 (.slice none 0 0) 0 [] := ⟨rfl, .inl ⟨rfl, rfl⟩⟩
  have HO := Lib.hid hown; clear hown
  go_enter Try.func90, Try.ntmps90
  go_wp2
  go_loopw [7, 13] (fun c v wr => v = .int .i64 0 ∧ c = .int .u64 p ∧ wr = w) (fun _ _ _ => 0)
  case atStart => exact ⟨rfl, rfl, rfl⟩
  case round =>
    obtain ⟨rfl, rfl, rfl⟩ := hrel
    obtain ⟨i0, hi, hz0, hz1, hz2⟩ := info_parts Try.info104
    go_wp2_with (at_builtin; refine wpList_append_own _ rfl _ _ 91 rfl base 104 i0 (.int .u32 0) 1 4 Try.underlying91 hi hz0 hz1 hz2 rfl (by decide) _ _ _ rfl (HO.out.alloc _) ⟨wr.heap.size, 0, none⟩ 1 1 [.int .u32 (p : Nat)] rfl rfl ?c1 ?c2 ?c3 ?c4 ?c5 ?_)
    case c1 =>
      intro j u hj
      match j, hj with
      | 0, hj => simp at hj; subst hj; simp [Addr.add]
    case c2 => intro u hu; simp at hu; subst hu; rfl
    case c3 => unfold maxLen; omega
    case c4 => omega
    case c5 => simp; omega
    · intro v' w5 hown5 hgrow _
      have hwl : [Value.int .u32 (p : Nat)] = wl p 1 := by
        unfold wl
        have : wd p 0 = p := by unfold wd; rw [Nat.pow_zero, Nat.div_one]; exact Nat.mod_eq_of_lt hp
        simp [List.range_succ, this]
      rw [hwl] at hown5
      have hb5 : Below base wr w5 := ((Below.refl base wr).alloc hb _).grown hgrow (by simp; omega) (fun z hz => by simp [Value.ownBlock] at hz)
      clear hwl
      go_wp2
      go_ret
      exact ⟨_, rfl, hown5, hb5⟩

theorem appendPart_any (base n N sc p : Nat) (v : Value) (w : World) (hn : n ≤ 100) (hsc : sc < 4294967296) (hp : p < 4294967296) (hN : N < B32 ^ n) (hb : base ≤ w.heap.size)
    (hown : w.ownsRow base 104 1 v n (wl N n)) :
    Calls Try.prog 90 #[v, .int .u32 sc, .int .u32 p] w fun e w' => AppP base n (N * sc + p) w e w' := by
  have h0 := hown
  rcases hown.2 with ⟨rfl, rfl⟩ | ⟨g, cap, cur, rfl, hbg, hg, hnc, hcm, hcs, htake⟩
  · have e0 : N = 0 := by rw [Nat.pow_zero] at hN; omega
    rw [e0, Nat.zero_mul, Nat.zero_add]
    exact appendPart_nil base sc p w hp hb hsc
  · exact appendPart_row base g cap n N sc p w hn hsc hp hN hb hbg hnc hcm h0
end Go.Proofs.Ytamgklgjhjociaa
