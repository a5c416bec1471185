/-
  The walk of HashReads.
-/
import Derived.Test.YtchjllnlhhoflaaLaw5a
namespace Go.Proofs.Ytchjllnlhhoflaa
open Go.RowKit Go.Deep
set_option linter.unusedVariables false

theorem hexL_get (l : List UInt8) : ∀ i (h : i < l.length), (hexL l)[2 * i]? = some (hd ((l[i]'h).toNat / 16)) ∧ (hexL l)[2 * i + 1]? = some (hd ((l[i]'h).toNat % 16)) := by
  induction l with
  | nil => intro i h; simp at h
  | cons c l ih =>
    intro i h
    have e : hexL (c :: l) = hd (c.toNat / 16) :: hd (c.toNat % 16) :: hexL l := rfl
    rw [e]
    cases i with
    | zero => exact ⟨rfl, rfl⟩
    | succ i =>
      have := ih i (by simpa using h)
      rw [show 2 * (i + 1) = 2 * i + 1 + 1 by omega, show 2 * i + 1 + 1 + 1 = 2 * i + 1 + 1 + 1 from rfl, List.getElem?_cons_succ, List.getElem?_cons_succ, List.getElem?_cons_succ, List.getElem?_cons_succ, List.getElem_cons_succ]
      exact this
theorem reads_at {s H : ByteArray} (hH : H.data.toList = hexL s.data.toList) (i j k : Nat) (h : i < s.size) (hj : j = 2 * i) (hk : k = 2 * i + 1) :
    ∃ (h1 : j < H.size) (h2 : k < H.size), dval (H[j]'h1) = (s[i]'h).toNat / 16 ∧ dval (H[k]'h2) = (s[i]'h).toNat % 16 := by
  have hi : i < s.data.toList.length := by rw [hsize_eq]; exact h
  have hl : H.size = 2 * s.size := by rw [← hsize_eq, hH, hexL_length, hsize_eq]
  have ⟨e1, e2⟩ := hexL_get s.data.toList i hi
  rw [← hH] at e1 e2
  have hc := (s[i]'h).toNat_lt
  subst hj hk
  refine ⟨by omega, by omega, ?_, ?_⟩
  · rw [hget_eq H _ (by omega), (List.getElem_eq_iff (by rw [hsize_eq]; omega)).2 e1, hget_eq s i h, dval_hd _ (by rw [← hget_eq s i h]; omega)]
  · rw [hget_eq H _ (by omega), (List.getElem_eq_iff (by rw [hsize_eq]; omega)).2 e2, hget_eq s i h, dval_hd _ (by omega)]

set_option maxHeartbeats 1000000 in
set_option maxRecDepth 100000 in
theorem law_HashReads (s : ByteArray) (hs : s.size ≤ maxLen) (w : World) :
    Calls Try.prog 8 #[.string s] w fun e w' => e = .returned (.bool true) ∧ Below w.heap.size w w' := by
  unfold maxLen at hs
  by_cases hbig : 1000 < s.size
  · go_enter Try.func8, Try.ntmps8
    go_wp2_with fail
    refine (awake5 _).mono ?_; rintro e w1 ⟨rfl, b1⟩
    go_wp2
    go_ret
    exact ⟨rfl, b1⟩
  · obtain ⟨H, hH⟩ : ∃ H : ByteArray, (⟨(hexL s.data.toList).toArray⟩ : ByteArray) = H := ⟨_, rfl⟩
    have hHl : H.data.toList = hexL s.data.toList := by rw [← hH]
    have hHs : H.size = 2 * s.size := by rw [← hsize_eq, hHl, hexL_length, hsize_eq]
    have e1 : ((H.size : Int) != 2 * (s.size : Int)) = false := by rw [bne_eq_false_iff_eq]; omega
    obtain ⟨S, hS⟩ : ∃ S : ByteArray, (⟨(shaL s.data.toList).toArray⟩ : ByteArray) = S := ⟨_, rfl⟩
    obtain ⟨M, hM⟩ : ∃ M : ByteArray, (⟨(macL s.data.toList s.data.toList).toArray⟩ : ByteArray) = M := ⟨_, rfl⟩
    have hSs : S.size = 32 := by rw [← hsize_eq, ← hS, ba_list, shaL_length]
    have hMs : M.size = 32 := by rw [← hsize_eq, ← hM, ba_list, macL_length]
    have e2 : ((S.size : Int) == 32) = true := by rw [hSs]; rfl
    have e3 : ((M.size : Int) == 32) = true := by rw [hMs]; rfl
    have HH := Lib.hid hH
    have HL := Lib.hid hHl
    have HS := Lib.hid hS
    have HM := Lib.hid hM
    have E2 := Lib.hid e2
    have E3 := Lib.hid e3
    have l1 : H.size ≤ 2000 := by omega
    clear hH hHl hHs hS hM hSs hMs e2 e3
    go_enter Try.func8, Try.ntmps8
    go_wp2_with fail
    refine (hex_to s H _ (by omega) HH.out).mono ?_; rintro e w1 ⟨rfl, b1⟩
    go_wp2
    clear e1
    go_loopw [4] (fun v wr => ∃ i : Nat, i ≤ s.size ∧ v = .int .i64 i ∧ Below w.heap.size w wr) (fun v _ => s.size - (intOf v).toNat)
    case atStart => exact ⟨0, by omega, rfl, b1⟩
    case round =>
      obtain ⟨i, hi, rfl, hbel⟩ := hrel
      by_cases hlt : i < s.size
      · obtain ⟨j, hj⟩ : ∃ j, j = 2 * i := ⟨_, rfl⟩
        obtain ⟨k, hk⟩ : ∃ k, k = 2 * i + 1 := ⟨_, rfl⟩
        obtain ⟨h1, h2, d1, d2⟩ := reads_at HL.out i j k hlt hj hk
        have j1 : IntKind.i64.wrap (2 * (i : Int)) = (j : Int) := by rw [IntWalk.i64_in _ (by omega)]; omega
        have j2 : IntKind.i64.wrap ((j : Int) + 1) = (k : Int) := by rw [IntWalk.i64_in _ (by omega)]; omega
        have hc := (s[i]'hlt).toNat_lt
        obtain ⟨c, hce⟩ : ∃ c, c = (s[i]'hlt).toNat := ⟨_, rfl⟩
        rw [← hce] at d1 d2 hc
        obtain ⟨a, ha⟩ : ∃ a, a = c / 16 := ⟨_, rfl⟩
        obtain ⟨b, hb⟩ : ∃ b, b = c % 16 := ⟨_, rfl⟩
        rw [← ha] at d1
        rw [← hb] at d2
        have a1 : (a : Int) ≤ 15 := by omega
        have a2 : (b : Int) ≤ 15 := by omega
        have e4 : (16 * (a : Int) + (b : Int) != ((s[i]'hlt).toNat : Int)) = false := by rw [bne_eq_false_iff_eq]; omega
        clear hj hk hce ha hb
        go_wp2
        go_quiet ((go_at_call 16; exact q_left (digit_any _ _)))
        go_wp2
        go_roundw
        case rel => exact ⟨i + 1, by omega, by go_num, below_drewN hbel _⟩
        case measure => simp [intOf]; omega
      · have e2 := E2.out
        have e3 := E3.out
        go_wp2_with fail
        refine (sum_to s S _ (by omega) HS.out).mono ?_; rintro e w3 ⟨rfl, b3⟩; have b3 := bnext' hbel b3
        go_wp2_with fail
        refine (mac_to s s M _ (by omega) (by omega) HM.out).mono ?_; rintro e w4 ⟨rfl, b4⟩; have b4 := bnext' b3 b4
        go_wp2_with fail
        refine (awake5 _).mono ?_; rintro e w5 ⟨rfl, b5⟩; have b5 := bnext' b4 b5
        go_wp2
        go_ret
        exact ⟨rfl, b5⟩
end Go.Proofs.Ytchjllnlhhoflaa
