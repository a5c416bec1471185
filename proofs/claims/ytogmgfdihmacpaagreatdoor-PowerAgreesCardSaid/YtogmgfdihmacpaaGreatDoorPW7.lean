/-
  Package power: digits, Table.Exp.
-/
import Derived.Test.YtogmgfdihmacpaaGreatDoorPW6
namespace Go.Proofs.YtogmgfdihmacpaaGreatDoor
open Go.RowKit
set_option linter.unusedVariables false

theorem qsameP {P : Program} {f : FuncId} {args : Array Value} {w : World} {n : Nat} {v : Value}
    (h : Calls P f args (w.drewN n) fun e w' => e = .returned v ∧ w.drewN n = w') : Calls P f args (w.drewN n) fun e w'' => e = .returned v ∧ ∃ m, w'' = w.drewN m :=
  h.mono fun _ _ ⟨he, hm⟩ => ⟨he, n, hm.symm⟩
theorem wrapP {x : Int} (h : -9223372036854775808 ≤ x ∧ x < 9223372036854775808) : wrap64 x = x := by unfold wrap64; omega
theorem bitsum_yes {n k : Nat} (h : n.testBit k = true) : n % 2 ^ k + 2 ^ k = n % 2 ^ (k + 1) := by
  rw [Nat.pow_succ, Nat.mod_mul, Nat.testBit_eq_decide_div_mod_eq] at *
  have : n / 2 ^ k % 2 = 1 := of_decide_eq_true h
  rw [this, Nat.mul_one]
theorem bitsum_no {n k : Nat} (h : n.testBit k = false) : n % 2 ^ k = n % 2 ^ (k + 1) := by
  rw [Nat.pow_succ, Nat.mod_mul, Nat.testBit_eq_decide_div_mod_eq] at *
  have : n / 2 ^ k % 2 = 0 := by have := of_decide_eq_false h; omega
  rw [this, Nat.mul_zero, Nat.add_zero]
theorem dig_bit (e i k : Nat) : (e / 16 ^ i).testBit k = e.testBit (4 * i + k) := by
  rw [show (16 : Nat) ^ i = 2 ^ (4 * i) by rw [Nat.pow_mul], Nat.testBit_div_two_pow, Nat.add_comm]
set_option maxHeartbeats 4000000 in
set_option maxRecDepth 20000 in
theorem pdigits_any (e : ByteArray) (i : Nat) (w : World) (he : Can e) (hi : i ≤ 1000000) :
    Calls Tryz.prog 53 #[.string e, .int .i64 i] w fun r w' => r = .returned (.int .i64 ((V e / 16 ^ i % 16 : Nat) : Int)) ∧ w = w' := by
  obtain ⟨n, hn⟩ : ∃ n, n = V e / 16 ^ i := ⟨_, rfl⟩
  rw [← hn, show n % 16 = n % 2 ^ 4 by rfl]
  have HN := Lib.hid hn
  have CB := Lib.hid (fun W (z : Int) (k : Nat) (hz : z = ((4 * i + k : Nat) : Int)) (hk : k ≤ 10) => (show Calls Tryz.prog 63 #[.string e, .int .i64 z] W fun r w' => r = .returned (.bool (n.testBit k)) ∧ W = w' by subst hz; rw [hn, dig_bit]; exact bit_yes e (4 * i + k) W he (by omega)))
  clear hn he
  go_enter Tryz.func53, Tryz.ntmps53
  go_wp2
  go_loop [5, 7] (fun v k => ∃ k' : Nat, k' ≤ 4 ∧ k = .int .i64 k' ∧ v = .int .i64 ((n % 2 ^ k' : Nat) : Int)) (fun _ k => 4 - (intOf k).toNat)
  case atStart => exact ⟨0, by omega, rfl, by simp [Nat.mod_one]⟩
  case round =>
    obtain ⟨k', hk', rfl, rfl⟩ := hrel
    by_cases hlt : k' < 4
    · have hlti : (k' : Int) < 4 := by omega
      have hp : n % 2 ^ k' < 2 ^ k' := Nat.mod_lt _ (Nat.pow_pos (by omega))
      have hp2 : 2 ^ k' ≤ 2 ^ 3 := Nat.pow_le_pow_right (by omega) (by omega)
      have h0 : (0 : Int) ≤ (k' : Int) := by omega
      rcases hb : n.testBit k' with _ | _
      · have HS := Lib.hid (bitsum_no hb)
        have CB1 := Lib.hid (fun W z hz => hb ▸ CB.out W z k' hz (by omega))
        generalize n % 2 ^ k' = p at *
        clear hb hp hp2
        go_wp2_with fail
        refine (CB1.out _ _ (by omega)).mono ?_; rintro r wx ⟨rfl, rfl⟩
        go_wp2
        go_round
        case rel => exact ⟨k' + 1, by omega, by go_num, by rw [HS.out]⟩
        case measure => simp [intOf]; omega
      · have HS := Lib.hid (bitsum_yes hb)
        have CB1 := Lib.hid (fun W z hz => hb ▸ CB.out W z k' hz (by omega))
        generalize n % 2 ^ k' = p at *
        obtain ⟨q, hq⟩ : ∃ q, q = 2 ^ k' := ⟨_, rfl⟩
        have hsh : ((2 : Int) ^ k') = (q : Int) := by rw [hq]; simp
        rw [← hq] at hp hp2
        have HQ := Lib.hid hq
        have HSH := Lib.hid hsh
        have hq8 : q ≤ 8 := hp2
        clear hb hsh hq hp2
        go_wp2_with fail
        refine (CB1.out _ _ (by omega)).mono ?_; rintro r wx ⟨rfl, rfl⟩
        go_wp2
        go_round
        case rel => exact ⟨k' + 1, by omega, by go_num, by rw [HSH.out, wrapP (show -9223372036854775808 ≤ (q : Int) ∧ (q : Int) < 9223372036854775808 by omega), wrapP (show -9223372036854775808 ≤ (p : Int) + q ∧ (p : Int) + q < 9223372036854775808 by omega), show (p : Int) + q = ((p + q : Nat) : Int) by omega, HQ.out, HS.out]⟩
        case measure => simp [intOf]; omega
    · obtain rfl : k' = 4 := by omega
      go_wp2
      go_ret
      exact ⟨rfl, rfl⟩

/-! ### Table.Exp -/
/-- A list of n lists of 16 numbers. -/
def TbV (w : World) (v : Value) (n : Nat) (L : Nat → Nat → ByteArray) : Prop :=
  ∃ (q : Option Addr) (cap : Nat), v = .slice q n cap ∧ ∀ i, i < n → ∃ a a2 c2, q = some a ∧ a.block < w.heap.size ∧ w.cell? (a.add i) = some (.slice (some a2) 16 c2) ∧ SV w (.slice (some a2) 16 c2) 16 (L i)
theorem TbV.below {w w' : World} {v : Value} {n : Nat} {L : Nat → Nat → ByteArray} (h : TbV w v n L) (b : Below w.heap.size w w') : TbV w' v n L := by
  obtain ⟨q, cap, e, hc⟩ := h
  refine ⟨q, cap, e, fun i hi => ?_⟩
  obtain ⟨a, a2, c2, e1, e2, e3, e4⟩ := hc i hi
  exact ⟨a, a2, c2, e1, Nat.lt_of_lt_of_le e2 b.size, (b.cell (p := a.add i) (by rw [add_blk]; exact e2)).trans e3, e4.below b⟩
theorem tbAt {w wr : World} {q : Option Addr} {n cap : Nat} {L : Nat → Nat → ByteArray} (h : TbV w (.slice q n cap) n L) (b : Below w.heap.size w wr) {i : Nat} (hi : i < n) :
    ∃ a a2 c2, q = some a ∧ wr.cell? (a.add i) = some (.slice (some a2) 16 c2) ∧ SV wr (.slice (some a2) 16 c2) 16 (L i) := by
  obtain ⟨q', c, e, hc⟩ := h.below b
  obtain ⟨rfl, rfl⟩ : q = q' ∧ cap = c := by cases e; exact ⟨rfl, rfl⟩
  obtain ⟨a, a2, c2, e1, -, e3, e4⟩ := hc i hi
  exact ⟨a, a2, c2, e1, e3, e4⟩
abbrev TbS (wr : World) (p0 p1 : Addr) (c0 c1 : Value) (W : World) : Prop := W.cell? p0 = some c0 ∧ W.cell? p1 = some c1 ∧ Below wr.heap.size wr W
theorem TbS.of {wr W : World} {p0 p1 : Addr} {c0 c1 : Value} (h : TbS wr p0 p1 c0 c1 wr) (b : Below wr.heap.size wr W) : TbS wr p0 p1 c0 c1 W :=
  ⟨(b.cell (cell_ltP h.1)).trans h.1, (b.cell (cell_ltP h.2.1)).trans h.2.1, b⟩
theorem TbS.bel {wr W : World} {p0 p1 : Addr} {c0 c1 : Value} (h : TbS wr p0 p1 c0 c1 W) : Below wr.heap.size wr W := h.2.2
set_option maxHeartbeats 1000000 in
set_option maxRecDepth 20000 in
theorem ptexp_form (M e : ByteArray) (bits : Int) (v : Value) (w : World) (he : ¬ Can e) :
    Calls Tryz.prog 26 #[.agg #[.string M, .int .i64 bits, v], .string e] w fun r w' => r = .returned (.tuple #[.string ⟨#[]⟩, .int .i64 3]) ∧ Below w.heap.size w w' := by
  have K := Lib.hid (belA w (.cells #[.string M, .int .i64 bits, v] 49))
  have HE := Lib.hid he; clear he
  go_enter Tryz.func26, Tryz.ntmps26
  go_wp2_with fail
  refine (valid_no e _ HE.out).mono ?_; rintro e wx ⟨rfl, rfl⟩
  go_wp2
  go_ret2
  exact ⟨rfl, K.out⟩
set_option maxHeartbeats 1000000 in
set_option maxRecDepth 20000 in
theorem ptexp_state (M e : ByteArray) (bits : Int) (q : Option Addr) (n cap : Nat) (w : World) (he : Can e) (hm : M.size = 0) :
    Calls Tryz.prog 26 #[.agg #[.string M, .int .i64 bits, .slice q n cap], .string e] w fun r w' => r = .returned (.tuple #[.string ⟨#[]⟩, .int .i64 26]) ∧ Below w.heap.size w w' := by
  have K := Lib.hid (belA w (.cells #[.string M, .int .i64 bits, .slice q n cap] 49))
  obtain ⟨q1, q2, q3, q4, q5, q6, q7⟩ := Three.new w (.string M) (.int .i64 bits) (.slice q n cap) 49 _ rfl
  have HE := Lib.hid he; clear he
  have hE := empty_of hm
  clear hm
  go_enter Tryz.func26, Tryz.ntmps26
  go_wp2_with fail
  refine (valid_yes e _ HE.out).mono ?_; rintro e wx ⟨rfl, rfl⟩
  go_wp2
  go_ret2
  exact ⟨rfl, K.out⟩
set_option maxHeartbeats 1000000 in
set_option maxRecDepth 20000 in
theorem ptexp_long (M e : ByteArray) (bits : Int) (q : Option Addr) (n cap : Nat) (w : World) (he : Can e) (hm : M.size ≠ 0) (hb : bits < (nbits (V e) : Int)) :
    Calls Tryz.prog 26 #[.agg #[.string M, .int .i64 bits, .slice q n cap], .string e] w fun r w' => r = .returned (.tuple #[.string ⟨#[]⟩, .int .i64 5]) ∧ Below w.heap.size w w' := by
  have K := Lib.hid (belA w (.cells #[.string M, .int .i64 bits, .slice q n cap] 49))
  obtain ⟨q1, q2, q3, q4, q5, q6, q7⟩ := Three.new w (.string M) (.int .i64 bits) (.slice q n cap) 49 _ rfl
  obtain ⟨nb, hnb⟩ : ∃ nb : Nat, nb = nbits (V e) := ⟨_, rfl⟩
  rw [← hnb] at hb
  have CB := Lib.hid (fun W => (show Calls Tryz.prog 52 #[.string e] W fun r w' => r = .returned (.int .i64 nb) ∧ W = w' by rw [hnb]; exact bits_yes e W he))
  have HE := Lib.hid he; clear he
  have hE := not_empty_of hm
  have hd := decide_eq_true hb
  clear hm hnb
  go_enter Tryz.func26, Tryz.ntmps26
  go_wp2_with fail
  refine (valid_yes e _ HE.out).mono ?_; rintro e wx ⟨rfl, rfl⟩
  go_wp2_with fail
  go_quiet ((go_at_call 52; exact qsameP (CB.out _)))
  go_wp2
  go_ret2
  exact ⟨rfl, belDN K.out _⟩
/-- What the loop of Table.Exp knows. -/
def TeR (w : World) (M : ByteArray) (bits : Int) (v : Value) (W : World) : Prop := Below w.heap.size w W ∧ Three W w.heap.size (.string M) (.int .i64 bits) v
set_option maxHeartbeats 4000000 in
set_option maxRecDepth 100000 in
theorem ptexp_yes (M e : ByteArray) (b : Nat) (bits : Int) (v : Value) (n : Nat) (w : World) (hv : TbV w v n (fun i j => E (b ^ (16 ^ i * j) % V M))) (he : Can e) (hM : Can M) (hm1 : 1 < V M) (hb : (nbits (V e) : Int) ≤ bits) (hn : bits ≤ (4 * n : Nat)) (hn2 : n ≤ 100000) :
    Calls Tryz.prog 26 #[.agg #[.string M, .int .i64 bits, v], .string e] w fun r w' => r = .returned (.tuple #[.string (E (b ^ V e % V M)), .int .i64 0]) ∧ Below w.heap.size w w' := by
  have HV := Lib.hid hv
  obtain ⟨q, cap, rfl, -⟩ := hv
  have K := Lib.hid (belA w (.cells #[.string M, .int .i64 bits, .slice q n cap] 49))
  have T := Lib.hid (Three.new w (.string M) (.int .i64 bits) (.slice q n cap) 49 _ rfl)
  obtain ⟨q1, q2, q3, q4, q5, q6, q7⟩ := T.out
  obtain ⟨nb, hnb⟩ : ∃ nb : Nat, nb = nbits (V e) := ⟨_, rfl⟩
  rw [← hnb] at hb
  have CB := Lib.hid (fun W => (show Calls Tryz.prog 52 #[.string e] W fun r w' => r = .returned (.int .i64 nb) ∧ W = w' by rw [hnb]; exact bits_yes e W he))
  have HE := Lib.hid he
  have hE := not_empty_of (s := M) (by have := size_posV hM; omega)
  have hd : decide (bits < (nb : Int)) = false := decide_eq_false (by omega)
  obtain ⟨m, hm⟩ : ∃ m, m = V M := ⟨_, rfl⟩
  have hall := tabN_all (m := m) (b := b) (e := V e) (k := n) (bits := nb) (by rw [hnb]; exact lt_nbits' _) (by omega)
  rw [← hm] at HV ⊢
  obtain ⟨res, hres⟩ : ∃ res, res = b ^ V e % m := ⟨_, rfl⟩
  rw [← hres] at hall ⊢
  have HALL := Lib.hid hall
  have HM := Lib.hid hM
  have HMM := Lib.hid hm
  have HM0 := Lib.hid (show 0 < M.size by have := size_posV hM; omega)
  have hml := V_lim hM
  have HCE := Lib.hid (fun x (h : x < m) => can_E' (show x < Lim by rw [hm] at h; exact Nat.lt_trans h hml))
  have HM1 := Lib.hid (show 1 < m by rw [hm]; exact hm1)
  have hnb2 : (nb : Int) ≤ bits := hb
  clear hm1 hb hnb he hM hm hall hres hml hn
  go_enter Tryz.func26, Tryz.ntmps26
  go_wp2_with fail
  refine (valid_yes e _ HE.out).mono ?_; rintro e wx ⟨rfl, rfl⟩
  go_wp2_with fail
  go_quiet ((go_at_call 52; exact qsameP (CB.out _)))
  go_wp2_with fail
  refine (of_any 1 _ (by omega)).mono ?_; rintro r w1 ⟨rfl, b1⟩
  have HT1 := Lib.hid (show TeR w M bits (.slice q n cap) w1 from ⟨belP (belDN K.out _) b1, (T.out.draw _).below b1 rfl⟩)
  clear b1 K T q1 q2 q3 q4 q5 q6 q7
  obtain ⟨q1, q2, q3, q4, q5, q6, q7⟩ := HT1.out.2
  have hl0 : E 1 = E (tabN m b (V e) 0) := by show _ = E (1 % m); rw [Nat.mod_eq_of_lt HM1.out]
  have HL0 := Lib.hid hl0; clear hl0
  have CM0 := Lib.hid (fun W x y (hx : x < m) (hy : y < m) => mmul_ok (E x) (E y) M W (HCE.out x hx) (HCE.out y hy) HM.out HM0.out)
  go_wp2
  go_loopw [6, 27] (fun x i wr => ∃ i' : Nat, i' ≤ n ∧ i = .int .i64 i' ∧ x = .string (E (tabN m b (V e) i')) ∧ Hid (TeR w M bits (.slice q n cap) wr)) (fun _ i _ => n - (intOf i).toNat)
  case atStart => exact ⟨0, by omega, rfl, by rw [HL0.out], HT1⟩
  case round =>
    obtain ⟨i, hi, rfl, rfl, HT⟩ := hrel
    clear HT1 q1 q2 q3 q4 q5 q6 q7
    by_cases hlt : i < n
    · have hlti : (i : Int) < (n : Int) := by omega
      have hi0 : (0 : Int) ≤ (i : Int) := by omega
      obtain ⟨a, a2, c2, rfl, hcell, hsv⟩ := tbAt HV.out HT.out.1 hlt
      obtain ⟨d, hd⟩ : ∃ d, d = V e / 16 ^ i % 16 := ⟨_, rfl⟩
      have hd16 : d < 16 := by rw [hd]; exact Nat.mod_lt _ (by omega)
      obtain ⟨a3, ha3, hcell3⟩ := svAt hsv (Below.refl _ _) hd16
      obtain rfl : a2 = a3 := Option.some.inj ha3
      have hd0 : (0 : Int) ≤ (d : Int) := by omega
      have hd1 : (d : Int) < 16 := by omega
      have CD := Lib.hid (fun W => (show Calls Tryz.prog 53 #[.string e, .int .i64 i] W fun r w' => r = .returned (.int .i64 (d : Int)) ∧ Below W.heap.size W w' by rw [hd]; exact (pdigits_any e i W HE.out (by omega)).mono fun _ _ => same_belowP))
      have CM := Lib.hid (fun W => CM0.out W (tabN m b (V e) i) (b ^ (16 ^ i * d) % m) (by have := HM1.out; cases i <;> exact Nat.mod_lt _ (by omega)) (Nat.mod_lt _ (by have := HM1.out; omega)))
      rw [V_E, V_E, ← HMM.out, show tabN m b (V e) i * (b ^ (16 ^ i * d) % m) % m = tabN m b (V e) (i + 1) by rw [hd]; rfl] at CM
      have S0 := Lib.hid (show TbS wr (a2.add d) ⟨w.heap.size, 0, none⟩ (.string (E (b ^ (16 ^ i * d) % m))) (.string M) wr from ⟨hcell3, HT.out.2.1, Below.refl _ _⟩)
      generalize E (b ^ (16 ^ i * d) % m) = y at *
      clear ha3 hsv hcell3 hd
      go_wp2_with fail
      go_region_held3 (fun W => W.cell? (a2.add d) = some (.string y) ∧ W.cell? ⟨w.heap.size, 0, none⟩ = some (.string M) ∧ Below wr.heap.size wr W) (first | assumption | exact TbS.of S0.out (Below.refl _ _).drew | exact TbS.of S0.out (belP (TbS.bel (by assumption)) b99))
        (first
        | (go_at_call 53; ((with_reducible refine (CD.out _).mono ?_); rintro r w99 ⟨rfl, b99⟩))
        | (go_at_call 45; ((with_reducible refine (CM.out _).mono ?_); rintro r w99 ⟨rfl, b99⟩)))
      have b4 : Below wr.heap.size wr w99 := TbS.bel (by assumption)
      have HT4 := Lib.hid (show TeR w M bits (.slice (some a) n cap) w99 from ⟨belP HT.out.1 b4, HT.out.2.below b4 rfl⟩)
      clear b4 S0 hcell
      go_wp2
      go_roundw
      case rel => exact ⟨i + 1, by omega, by go_num, rfl, HT4⟩
      case measure => simp [intOf]; omega
    · obtain rfl : i = n := by omega
      go_wp2
      go_ret2
      exact ⟨by rw [HALL.out]; rfl, HT.out.1⟩
end Go.Proofs.YtogmgfdihmacpaaGreatDoor
