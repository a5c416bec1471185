/-
  Several parts in one text (MB).
-/
import Derived.Test.YtogmgfdihmacpaaGreatDoorMA
import Derived.Test.YtogmgfdihmacpaaGreatDoorAwake1
import Derived.Test.YtogmgfdihmacpaaGreatDoorNC
import Derived.Great.BuildSlice
/-
  Contracts of package modular, the ninth part: the multiplication modulo a multiple of m, as a function value.
-/
namespace Go.Proofs.YtogmgfdihmacpaaGreatDoor
open Go.RowKit
set_option linter.unusedVariables false

theorem RowQ.words {w : World} {g tt L k U : Nat} (h : RowQ w g tt L k U) (hk : k ≤ L) : WordsQ w g 0 k U := by
  obtain ⟨f, hr, hf⟩ := h
  intro j hj
  rw [Nat.zero_add, hr.cell (by omega), hf j hj]
theorem words_row {w : World} {g t n N : Nat} (h : w.rowIs g t n (fun j => .int .u64 (wq N j : Nat))) : WordsQ w g 0 n N :=
  fun j hj => by rw [Nat.zero_add]; exact h.cell hj
/-- A slice of n words that hold N. -/
def SlQ (w : World) (v : Value) (n N : Nat) : Prop :=
  ∃ g o c, v = .slice (some ⟨g, o, none⟩) n c ∧ n ≤ c ∧ c ≤ 1000 ∧ n ≤ 100 ∧ g < w.heap.size ∧ N < B64 ^ n ∧ WordsQ w g o n N
theorem SlQ.below {w w' : World} {v : Value} {n N : Nat} (h : SlQ w v n N) (hb : Below w.heap.size w w') : SlQ w' v n N := by
  obtain ⟨g, o, c, rfl, h1, h2, h3, h4, h5, h6⟩ := h
  exact ⟨g, o, c, rfl, h1, h2, h3, Nat.lt_of_lt_of_le h4 hb.size, h5, h6.below hb h4⟩
/-- What the function value of multiplication holds at p: n words of a number M whose highest bit is 1. -/
def MuS (w : World) (p n M : Nat) : Prop :=
  p < w.heap.size ∧ ∃ gd cd, w.cell? ⟨p, 0, none⟩ = some (.slice (some ⟨gd, 0, none⟩) n cd) ∧ n ≤ cd ∧ cd ≤ 1000 ∧ n ≤ 100 ∧ gd < w.heap.size ∧ M < B64 ^ n ∧ WordsQ w gd 0 n M ∧ 9223372036854775808 ≤ wq M (n - 1) ∧ 0 < n
theorem MuS.below {w w' : World} {p n M : Nat} (h : MuS w p n M) (hb : Below w.heap.size w w') : MuS w' p n M := by
  obtain ⟨hp, gd, cd, h1, h2, h3, h4, h5, h6, h7, h8, h9⟩ := h
  exact ⟨Nat.lt_of_lt_of_le hp hb.size, gd, cd, (hb.cell (p := ⟨p, 0, none⟩) hp).trans h1, h2, h3, h4, Nat.lt_of_lt_of_le h5 hb.size, h6, h7.below hb h5, h8, h9⟩

set_option maxHeartbeats 1000000 in
set_option maxRecDepth 20000 in
theorem mult_any (u v : Value) (na nb A Y p n M : Nat) (w : World) (ha : SlQ w u na A) (hb : SlQ w v nb Y) (hm : MuS w p n M) :
    Calls Tryz.prog 97 #[u, v, .pointer (some ⟨p, 0, none⟩)] w fun e w' => ∃ r k V, e = .returned r ∧ SlQ w' r k V ∧ k ≤ n ∧ V % M = A * Y % M ∧ Below w.heap.size w w' := by
  obtain ⟨ga, oa, ca, rfl, a1, a2, a3, a4, a5, a6⟩ := ha
  obtain ⟨gb, ob, cb, rfl, b1, b2, b3, b4, b5, b6⟩ := hb
  obtain ⟨hp, gd, cd, q1, m2, m3, m4, m5, m6, m7, m8, m9⟩ := hm
  have HA5 := Lib.hid a5; clear a5
  have HA6 := Lib.hid a6; clear a6
  have HB5 := Lib.hid b5; clear b5
  have HB6 := Lib.hid b6; clear b6
  have HM6 := Lib.hid m6; clear m6
  have HM7 := Lib.hid m7; clear m7
  have HM8 := Lib.hid m8; clear m8
  have HQ1 := Lib.hid q1
  go_enter Tryz.func97, Tryz.ntmps97
  go_wp2
  go_region_with (first
    | (go_at_call 99; refine (product_any ga oa na ca gb ob nb cb A Y w.drew a1 a2 b1 b2 HA5.out HB5.out a4 b4 HA6.out HB6.out).mono ?_; rintro e w1 ⟨rfl, hr1, hb1⟩; have q1 : w1.cell? ⟨p, 0, none⟩ = some (.slice (some ⟨gd, 0, none⟩) n cd) := (hb1.cell (p := ⟨p, 0, none⟩) hp).trans HQ1.out; have HR1 := Lib.hid hr1; clear hr1; have HB1 := Lib.hid (show Below w.heap.size w w1 from (Below.refl w.heap.size w).drew.trans hb1); clear hb1)
    | (go_at_call 98; refine (mreduce_any w.heap.size 56 (na + nb + 1) (na + nb + 1) (na + nb + 1) gd 0 n cd M (A * Y) _ m9 (by omega) (Nat.le_refl _) (Nat.le_refl _) (by omega) m2 m3 HM6.out HM8.out (mulQ_lt HA5.out HB5.out) ⟨_, HR1.out, fun _ _ => rfl⟩ (by omega) (Nat.lt_of_lt_of_le m5 HB1.out.size) (HM7.out.below HB1.out m5)).mono ?_; rintro e w2 ⟨k, V, rfl, r1, r2, r3, r4, r5, r6⟩; have R3 := Lib.hid r3; clear r3; have R4 := Lib.hid r4; clear r4; have R5 := Lib.hid r5; clear r5; have R6 := Lib.hid r6; clear r6))
  all_goals go_wp2
  all_goals go_ret
  all_goals exact ⟨_, k, V, rfl, ⟨_, _, _, rfl, by omega, by omega, by omega, R5.out.lt, R4.out, R5.out.words (by omega)⟩, r2, R3.out, Only.below HB1.out R6.out HB1.out.size (Nat.le_refl _)⟩
end Go.Proofs.YtogmgfdihmacpaaGreatDoor


/-
  Contracts of package modular, the tenth part: multiplication, remainder, check.
-/
namespace Go.Proofs.YtogmgfdihmacpaaGreatDoor
open Go.RowKit
set_option linter.unusedVariables false

theorem can_lt {s : ByteArray} (h : Can s) (k : Nat) : V s < 256 ^ k ↔ s.size ≤ k := by
  rw [← enc_length_le]
  unfold V
  rw [enc_bval h.2, ← size_eq]
/-- The words of a canonical number: enough, and the last one is not 0. -/
theorem can_words {s : ByteArray} (h : Can s) (h0 : 0 < s.size) : V s < B64 ^ ((s.size + 7) / 8) ∧ 0 < (s.size + 7) / 8 ∧ (s.size + 7) / 8 ≤ 16 ∧ wq (V s) ((s.size + 7) / 8 - 1) ≠ 0 := by
  have h1 := h.1
  obtain ⟨n, hn⟩ : ∃ n, n = (s.size + 7) / 8 := ⟨_, rfl⟩
  rw [← hn]
  have hl : V s < B64 ^ n := by rw [b64_powj, can_lt h]; omega
  refine ⟨hl, by omega, by omega, ?_⟩
  rw [wq_end (by rw [show n - 1 + 1 = n by omega]; exact hl)]
  have hg : ¬ V s < B64 ^ (n - 1) := by rw [b64_powj, can_lt h]; omega
  intro e
  rw [Nat.div_eq_zero_iff] at e
  have := b64_pos (n - 1)
  omega
theorem load_sl {s : ByteArray} {w w' : World} {t : Nat} (h : Can s) (hr : w'.rowIs w.heap.size t ((s.size + 7) / 8) (fun j => .int .u64 (wq (V s) j : Nat))) :
    SlQ w' (.slice (some ⟨w.heap.size, 0, none⟩) ((s.size + 7) / 8) ((s.size + 7) / 8)) ((s.size + 7) / 8) (V s) := by
  have h1 := h.1
  have hl : V s < B64 ^ ((s.size + 7) / 8) := by rw [b64_powj, can_lt h]; omega
  exact ⟨_, _, _, rfl, Nat.le_refl _, by omega, by omega, hr.lt, hl, words_row hr⟩

set_option maxHeartbeats 800000 in
set_option maxRecDepth 20000 in
theorem multiplication_any (s : ByteArray) (w : World) (h : Can s) (h0 : 0 < s.size) :
    Calls Tryz.prog 77 #[.string s] w fun e w' => ∃ p k M, e = .returned (.func (.func 97) #[] #[.pointer (some ⟨p, 0, none⟩)]) ∧ M = V s * 2 ^ k ∧ MuS w' p ((s.size + 7) / 8) M ∧ Below w.heap.size w w' := by
  have h1 := h.1
  obtain ⟨hw1, hw2, hw3, hw4⟩ := can_words h h0
  have HW1 := Lib.hid hw1; clear hw1
  have HW4 := Lib.hid hw4; clear hw4
  go_enter Tryz.func77, Tryz.ntmps77
  go_wp2_with fail
  refine (mload_any s _ (by omega)).mono ?_
  rintro e w1 ⟨rfl, hr1, hb1⟩
  have HR1 := Lib.hid hr1; clear hr1
  have HB1 := Lib.hid hb1; clear hb1
  go_wp2_with fail
  refine (shiftFully_any w.heap.size 0 _ _ (V s) _ hw2 (Nat.le_refl _) (by omega) HW1.out HW4.out HR1.out.lt (words_row HR1.out)).mono ?_
  rintro e w2 ⟨k, rfl, hr2, hb2, hl2, ht2⟩
  have HR2 := Lib.hid hr2; clear hr2
  have HB2 := Lib.hid hb2; clear hb2
  have HL2 := Lib.hid hl2; clear hl2
  have HT2 := Lib.hid ht2; clear ht2
  go_wp2
  go_ret
  have hb3 : Below w2.heap.size w2 (w2.alloc (.cells #[.slice (some ⟨w1.heap.size, 0, none⟩) ((s.size + 7) / 8) ((s.size + 7) / 8)] 101)) := (Below.refl _ _).alloc (Nat.le_refl _) _
  have hrow : (w2.alloc (.cells #[.slice (some ⟨w1.heap.size, 0, none⟩) ((s.size + 7) / 8) ((s.size + 7) / 8)] 101)).rowIs w2.heap.size 101 1 (fun _ => .slice (some ⟨w1.heap.size, 0, none⟩) ((s.size + 7) / 8) ((s.size + 7) / 8)) :=
    World.rowIs_alloc w2 _ _ _ (fun i hi => by
      have : i = 0 := by simpa using hi
      subst this; rfl)
  have hg : w1.heap.size < w2.heap.size := HR2.out.lt
  exact ⟨w2.heap.size, k, _, rfl, rfl, ⟨hrow.lt, w1.heap.size, _, hrow.cell (by omega), Nat.le_refl _, by omega, by omega, Nat.lt_of_lt_of_le hg hb3.size, HL2.out, (words_row HR2.out).below hb3 hg, HT2.out, hw2⟩, bnext (bnext HB1.out HB2.out) hb3⟩

set_option maxHeartbeats 400000 in
theorem remainder_any (s t : ByteArray) (w : World) (hs : Can s) (ht : Can t) (h0 : 0 < V t) :
    Calls Tryz.prog 78 #[.string s, .string t] w fun e w' => e = .returned (.string (E (V s % V t))) ∧ Below w.heap.size w w' := by
  have hd := divN_pos (a := V s) (b := V t) (by omega)
  have HS := Lib.hid hs; clear hs
  have HT := Lib.hid ht; clear ht
  have HD := Lib.hid hd; clear hd
  go_enter Tryz.func78, Tryz.ntmps78
  go_wp2_with fail
  refine (divMod_yes s t _ HS.out HT.out).mono ?_
  rintro e w1 ⟨rfl, b1⟩
  rw [HD.out]
  go_wp2
  go_ret
  exact ⟨rfl, b1⟩
end Go.Proofs.YtogmgfdihmacpaaGreatDoor


/-
  Contracts of package modular, the eleventh part: check, Mul.
-/
namespace Go.Proofs.YtogmgfdihmacpaaGreatDoor
open Go.RowKit
set_option linter.unusedVariables false

/-- The error of a modulus and other numbers. -/
def ChkP (m : ByteArray) (l : List ByteArray) (c : Int) : Prop :=
  (c = 3 ∧ ¬ (Can m ∧ ∀ s, s ∈ l → Can s)) ∨ (c = 11 ∧ Can m ∧ (∀ s, s ∈ l → Can s) ∧ m.size = 0) ∨ (c = 0 ∧ Can m ∧ (∀ s, s ∈ l → Can s) ∧ 0 < m.size)

set_option maxHeartbeats 800000 in
set_option maxRecDepth 20000 in
theorem check_any (m : ByteArray) (l : List ByteArray) (g n c : Nat) (w : World) (hn : n = l.length) (hc : n ≤ c) (hc2 : c ≤ 1000) (hl : ∀ j (h : j < l.length), w.cell? ⟨g, j, none⟩ = some (.string l[j])) :
    Calls Tryz.prog 76 #[.string m, .slice (some ⟨g, 0, none⟩) n c] w fun e w' => (∃ v, e = .returned (.int .i64 v) ∧ ChkP m l v) ∧ w' = w := by
  subst hn
  have HL := Lib.hid hl; clear hl
  go_enter Tryz.func76, Tryz.ntmps76
  go_wp2
  go_loop [9] (fun v => ∃ k : Nat, k ≤ l.length ∧ v = .int .i64 k ∧ Hid (∀ j (h : j < l.length), j < k → Can l[j])) (fun v => l.length - (intOf v).toNat)
  case atStart => exact ⟨0, by omega, rfl, fun j h hk => absurd hk (by omega)⟩
  case round =>
    obtain ⟨k, hk, rfl, HP⟩ := hrel
    by_cases hlt : k < l.length
    · have hcell := HL.out k hlt
      by_cases hcan : Can l[k]
      · have HC := Lib.hid hcan; clear hcan
        go_wp2_with fail
        refine (valid_yes l[k] _ HC.out).mono ?_; rintro e wx ⟨rfl, rfl⟩
        go_wp2
        go_round
        case rel =>
          refine ⟨k + 1, by omega, by go_num, fun j h hj => ?_⟩
          by_cases hjk : j = k
          · subst hjk; exact HC.out
          · exact HP.out j h (by omega)
        case measure => simp [intOf]; omega
      · have HC := Lib.hid hcan; clear hcan
        go_wp2_with fail
        refine (valid_no l[k] _ HC.out).mono ?_; rintro e wx ⟨rfl, rfl⟩
        go_wp2
        go_ret
        exact ⟨⟨3, rfl, .inl ⟨rfl, fun h => HC.out (h.2 _ (List.getElem_mem hlt))⟩⟩, rfl⟩
    · have hall : ∀ s, s ∈ l → Can s := by
        intro s hs
        obtain ⟨j, hj, rfl⟩ := List.mem_iff_getElem.1 hs
        exact HP.out j hj (by omega)
      have HALL := Lib.hid hall; clear hall
      by_cases hm : Can m
      · have HM := Lib.hid hm; clear hm
        by_cases h0 : m.size = 0
        · have hE := empty_of h0
          have H0 := Lib.hid h0; clear h0
          go_wp2_with fail
          refine (valid_yes m _ HM.out).mono ?_; rintro e wx ⟨rfl, rfl⟩
          go_wp2
          go_ret
          exact ⟨⟨11, rfl, .inr (.inl ⟨rfl, HM.out, HALL.out, H0.out⟩)⟩, rfl⟩
        · have hE := not_empty_of h0
          have H0 := Lib.hid h0; clear h0
          go_wp2_with fail
          refine (valid_yes m _ HM.out).mono ?_; rintro e wx ⟨rfl, rfl⟩
          go_wp2
          go_ret
          exact ⟨⟨0, rfl, .inr (.inr ⟨rfl, HM.out, HALL.out, Nat.pos_of_ne_zero H0.out⟩)⟩, rfl⟩
      · have HM := Lib.hid hm; clear hm
        go_wp2_with fail
        refine (valid_no m _ HM.out).mono ?_; rintro e wx ⟨rfl, rfl⟩
        go_wp2
        go_ret
        exact ⟨⟨3, rfl, .inl ⟨rfl, fun h => HM.out h.1⟩⟩, rfl⟩
end Go.Proofs.YtogmgfdihmacpaaGreatDoor


/-
  Contracts of package modular, the twelfth part: Mul.
-/
namespace Go.Proofs.YtogmgfdihmacpaaGreatDoor
open Go.RowKit
set_option linter.unusedVariables false

theorem check_new (m : ByteArray) (l : List ByteArray) (n t : Nat) (vs : Array Value) (w : World) (hn : n = l.length) (hv : vs = (l.map Value.string).toArray) (h1000 : n ≤ 1000) :
    Calls Tryz.prog 76 #[.string m, .slice (some ⟨w.heap.size, 0, none⟩) n n] (w.alloc (.cells vs t)) fun e w' => (∃ v, e = .returned (.int .i64 v) ∧ ChkP m l v) ∧ w' = w.alloc (.cells vs t) := by
  refine check_any m l w.heap.size n n _ hn (Nat.le_refl _) h1000 fun j hj => ?_
  have hr : (w.alloc (.cells vs t)).rowIs w.heap.size t vs.size (fun i => vs[i]?.getD (.bool false)) := World.rowIs_alloc w _ _ _ (fun i hi => by simp [hi])
  subst hv
  rw [hr.cell (by simpa using hj)]
  simp [hj]
theorem ChkP.ok {m : ByteArray} {l : List ByteArray} {c : Int} (h : ChkP m l c) (hm : Can m) (h0 : 0 < m.size) (hl : ∀ s, s ∈ l → Can s) : c = 0 := by
  rcases h with ⟨-, h⟩ | ⟨-, -, -, h⟩ | ⟨h, -⟩
  · exact absurd ⟨hm, hl⟩ h
  · omega
  · exact h
theorem can_E16 {n V : Nat} (hV : V < B64 ^ n) (hn : n ≤ 16) : Can (E V) := by
  refine ⟨?_, (can_enc V)⟩
  rw [E_size_le]
  exact Nat.lt_of_lt_of_le hV (by rw [b64_powj]; exact Nat.pow_le_pow_right (by decide) (by omega))
theorem mod_of_mult {V X m M k : Nat} (h : V % M = X % M) (hM : M = m * 2 ^ k) : V % m = X % m := by
  have hd : m ∣ M := ⟨2 ^ k, hM⟩
  rw [← Nat.mod_mod_of_dvd V hd, h, Nat.mod_mod_of_dvd X hd]
theorem can_pos {m : ByteArray} (hm : Can m) (h0 : 0 < m.size) : 0 < V m := by
  have := (V_zero_iff hm).1
  omega

set_option maxHeartbeats 800000 in
set_option maxRecDepth 20000 in
theorem mmul_ok (a b m : ByteArray) (w : World) (ha : Can a) (hb : Can b) (hm : Can m) (h0 : 0 < m.size) :
    Calls Tryz.prog 45 #[.string a, .string b, .string m] w fun e w' => e = .returned (.tuple #[.string (E (V a * V b % V m)), .int .i64 0]) ∧ Below w.heap.size w w' := by
  have hs1 := ha.1
  have hs2 := hb.1
  have hs3 := hm.1
  have HA := Lib.hid ha; clear ha
  have HB := Lib.hid hb; clear hb
  have HM := Lib.hid hm; clear hm
  go_enter Tryz.func45, Tryz.ntmps45
  go_wp2_with fail
  have b0 : Below w.heap.size w (w.alloc (.cells #[.string a, .string b] 22)) := (Below.refl _ _).alloc (Nat.le_refl _) _
  refine (check_new m [a, b] 2 22 #[.string a, .string b] w rfl rfl (by omega)).mono ?_
  rintro e w1 ⟨⟨v, rfl, hv⟩, rfl⟩
  obtain rfl := hv.ok HM.out h0 (by intro s hs; simp at hs; rcases hs with rfl | rfl; exact HA.out; exact HB.out)
  have B0 := Lib.hid b0; clear b0 hv
  generalize w.alloc _ = w1 at *
  go_wp2_with fail
  refine (multiplication_any m _ HM.out h0).mono ?_
  rintro e w2 ⟨p, k, M, rfl, hMk, hmu, b2⟩
  have MU := Lib.hid hmu; clear hmu
  have HMK := Lib.hid hMk; clear hMk
  have B2 := Lib.hid (bnext B0.out b2); clear b2
  go_wp2_with fail
  refine (mload_any a _ (by omega)).mono ?_
  rintro e w3 ⟨rfl, hr3, b3⟩
  have S3 := Lib.hid (load_sl HA.out hr3); clear hr3
  have MU3 := Lib.hid (MU.out.below b3)
  have B3 := Lib.hid (bnext B2.out b3); clear b3
  go_wp2_with fail
  refine (mload_any b _ (by omega)).mono ?_
  rintro e w4 ⟨rfl, hr4, b4⟩
  have S4 := Lib.hid (load_sl HB.out hr4); clear hr4
  have S34 := Lib.hid (S3.out.below b4)
  have MU4 := Lib.hid (MU3.out.below b4)
  have B4 := Lib.hid (bnext B3.out b4); clear b4 MU MU3 S3
  go_wp2_with fail
  refine (mult_any _ _ _ _ _ _ p _ M _ S34.out S4.out MU4.out).mono ?_
  rintro e w5 ⟨r, kk, V5, rfl, h5, hk5, hv5, b5⟩
  obtain ⟨g, o, c, rfl, r1, r2, r3, r4, r5, r6⟩ := h5
  have B5 := Lib.hid (bnext B4.out b5); clear b5
  have R6 := Lib.hid r6; clear r6
  have HC := Lib.hid (can_E16 r5 (show kk ≤ 16 by omega))
  have hfin : V5 % V m = V a * V b % V m := mod_of_mult hv5 HMK.out
  have R5 := Lib.hid r5; clear r5 hv5
  have HF := Lib.hid hfin; clear hfin
  go_wp2_with fail
  refine (mstore_any g o kk c V5 _ r1 r2 R5.out r4 R6.out).mono ?_
  rintro e w6 ⟨rfl, b6⟩
  have B6 := Lib.hid (bnext B5.out b6); clear b6
  go_wp2_with fail
  refine (remainder_any _ m _ HC.out HM.out (can_pos HM.out h0)).mono ?_
  rintro e w7 ⟨rfl, b7⟩
  have B7 := Lib.hid (bnext B6.out b7); clear b7
  rw [V_E, HF.out]
  go_wp2
  go_ret2
  exact ⟨rfl, B7.out⟩
end Go.Proofs.YtogmgfdihmacpaaGreatDoor


/-
  Contracts of package modular, the thirteenth part: Sub, and the errors.
-/
namespace Go.Proofs.YtogmgfdihmacpaaGreatDoor
open Go.RowKit
set_option linter.unusedVariables false

/-- Which error, where there is one. -/
theorem ChkP.form {m : ByteArray} {l : List ByteArray} {c : Int} (h : ChkP m l c) (hn : ¬ (Can m ∧ ∀ s, s ∈ l → Can s)) : c = 3 := by
  rcases h with ⟨h, -⟩ | ⟨-, h1, h2, -⟩ | ⟨-, h1, h2, -⟩
  · exact h
  · exact absurd ⟨h1, h2⟩ hn
  · exact absurd ⟨h1, h2⟩ hn
theorem ChkP.zero {m : ByteArray} {l : List ByteArray} {c : Int} (h : ChkP m l c) (hn : Can m ∧ ∀ s, s ∈ l → Can s) (h0 : m.size = 0) : c = 11 := by
  rcases h with ⟨-, h⟩ | ⟨h, -⟩ | ⟨-, -, -, h⟩
  · exact absurd hn h
  · exact h
  · omega

set_option maxHeartbeats 800000 in
theorem mmul_err (a b m : ByteArray) (v : Int) (w : World) (hv : ∀ c, ChkP m [a, b] c → c = v) (h0 : (v != 0) = true) :
    Calls Tryz.prog 45 #[.string a, .string b, .string m] w fun e w' => e = .returned (.tuple #[.string ⟨#[]⟩, .int .i64 v]) ∧ Below w.heap.size w w' := by
  have HV := Lib.hid hv; clear hv
  go_enter Tryz.func45, Tryz.ntmps45
  go_wp2_with fail
  refine (check_new m [a, b] 2 22 #[.string a, .string b] w rfl rfl (by omega)).mono ?_
  rintro e w1 ⟨⟨c, rfl, hc⟩, rfl⟩
  obtain rfl := HV.out c hc
  clear hc HV
  go_wp2
  go_ret2
  exact ⟨rfl, (Below.refl _ _).alloc (Nat.le_refl _) _⟩
set_option maxHeartbeats 800000 in
theorem mexp_err (a b m : ByteArray) (v : Int) (w : World) (hv : ∀ c, ChkP m [a, b] c → c = v) (h0 : (v != 0) = true) :
    Calls Tryz.prog 48 #[.string a, .string b, .string m] w fun e w' => e = .returned (.tuple #[.string ⟨#[]⟩, .int .i64 v]) ∧ Below w.heap.size w w' := by
  have HV := Lib.hid hv; clear hv
  go_enter Tryz.func48, Tryz.ntmps48
  go_wp2_with fail
  refine (check_new m [a, b] 2 22 #[.string a, .string b] w rfl rfl (by omega)).mono ?_
  rintro e w1 ⟨⟨c, rfl, hc⟩, rfl⟩
  obtain rfl := HV.out c hc
  clear hc HV
  go_wp2
  go_ret2
  exact ⟨rfl, (Below.refl _ _).alloc (Nat.le_refl _) _⟩

/-- The remainder of a difference. -/
def subM (a b m : Nat) : Nat := (a + (m - b % m)) % m
theorem subM_ge {a b m : Nat} (hm : 0 < m) (h : b % m ≤ a % m) : a % m - b % m = subM a b m := by
  unfold subM
  have h1 := Nat.mod_lt a hm
  have h2 := Nat.mod_lt b hm
  have e : (a + (m - b % m)) % m = (a % m - b % m + m) % m := by rw [← Nat.mod_add_mod]; congr 1; omega
  rw [e, Nat.add_mod_right]
  exact (Nat.mod_eq_of_lt (Nat.lt_of_le_of_lt (Nat.sub_le _ _) h1)).symm
theorem subM_lt {a b m : Nat} (hm : 0 < m) (h : ¬ b % m ≤ a % m) : a % m + (m - b % m) = subM a b m := by
  unfold subM
  have h1 := Nat.mod_lt a hm
  have h2 := Nat.mod_lt b hm
  rw [← Nat.mod_add_mod, Nat.mod_eq_of_lt (a := a % m + (m - b % m)) (by omega)]

end Go.Proofs.YtogmgfdihmacpaaGreatDoor

