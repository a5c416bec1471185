/-
  Layer 13's statements: Adds.
-/
import Derived.Test.YtogmgfdihmacpaaGreatDoorLaw13c
namespace Go.Proofs.YtogmgfdihmacpaaGreatDoor
open Go.RowKit Go.Deep
set_option linter.unusedVariables false

theorem UnitN.gcd_ {m n : Nat} (hm : 1 < m) (h : UnitN m n) : 0 < n ∧ Nat.gcd n m = 1 := by
  obtain ⟨y, h1, h2⟩ := h
  rw [Nat.mod_eq_of_lt hm] at h2
  refine ⟨?_, ?_⟩
  · rcases Nat.eq_zero_or_pos n with q | q
    · subst q; rw [Nat.zero_mul, Nat.zero_mod] at h2; omega
    · exact q
  · have d1 : Nat.gcd n m ∣ n * y := Nat.dvd_trans (Nat.gcd_dvd_left n m) (Nat.dvd_mul_right n y)
    have d2 : Nat.gcd n m ∣ n * y % m := (Nat.dvd_mod_iff (Nat.gcd_dvd_right n m)).2 d1
    rw [h2] at d2
    exact Nat.dvd_one.1 d2
theorem UnitN.invU {m x : Nat} (h : UnitN m x) : UnitN m (invN x m) := ⟨x % m, Nat.mod_lt _ h.pos, by rw [Nat.mul_mod_mod, Nat.mul_comm]; exact h.inv⟩
theorem UnitN.pwU {m x : Nat} (h : UnitN m x) (z : Int) : UnitN m (pwN m x z) := by
  unfold pwN
  split
  · exact (h.pow _).mod
  · exact (h.invU.pow _).mod
theorem pow_one_mod {m x q : Nat} (hm : 1 < m) (h : x ^ q % m = 1) (k : Nat) : (x ^ k % m) ^ q % m = 1 := by
  rw [← Nat.pow_mod, ← Nat.pow_mul, Nat.mul_comm, Nat.pow_mul, Nat.pow_mod, h, Nat.one_pow, Nat.mod_eq_of_lt hm]
theorem inv_one {m x q : Nat} (hm : 1 < m) (hu : UnitN m x) (h : x ^ q % m = 1) : invN x m ^ q % m = 1 := by
  have := hu.invpow q
  rwa [Nat.mul_mod, h, Nat.one_mul, Nat.mod_mod, Nat.mod_eq_of_lt hm] at this
/-- The powers of an element are elements. -/
theorem EltG.pw {M Q x : ByteArray} (h : EltG M Q x) (hM : Can M) (hw : WfG M Q) (z : Int) : EltG M Q (E (pwN (V M) (V x) z)) := by
  have hm := wfG_pos hw
  have hu := h.unit hM hw
  have hl := pwN_lt (m := V M) (x := V x) (z := z) (by omega)
  obtain ⟨g1, g2⟩ := (hu.pwU z).gcd_ hm
  refine ⟨can_E' (Nat.lt_trans hl (V_lim hM)), ?_⟩
  rcases h.2 with ⟨h0, hE⟩ | hE
  · left
    unfold EltU
    rw [V_E]
    exact ⟨h0, g1, hl, g2⟩
  · right
    unfold EltK
    rw [V_E]
    refine ⟨hE.1, g1, hl, ?_⟩
    unfold pwN
    split
    · exact pow_one_mod hm hE.2.2.2 _
    · exact pow_one_mod hm (inv_one hm hu hE.2.2.2) _
/-- The two boxes of Adds. -/
def DgS (w : World) (M Q : ByteArray) (n0 : Bool) (s0 : ByteArray) (n1 : Bool) (s1 : ByteArray) (W : World) : Prop :=
  W.cell? ⟨w.heap.size, 0, none⟩ = some (.string M) ∧ W.cell? ⟨w.heap.size, 1, none⟩ = some (.string Q) ∧ W.cell? ⟨w.heap.size + 1, 0, none⟩ = some (.bool n0) ∧ W.cell? ⟨w.heap.size + 1, 1, none⟩ = some (.string s0) ∧
    W.cell? ⟨w.heap.size + 1, 2, none⟩ = some (.bool n1) ∧ W.cell? ⟨w.heap.size + 1, 3, none⟩ = some (.string s1) ∧ w.heap.size + 1 < W.heap.size ∧ Below w.heap.size w W
theorem DgS.below {w W W' : World} {M Q : ByteArray} {n0 : Bool} {s0 : ByteArray} {n1 : Bool} {s1 : ByteArray} (h : DgS w M Q n0 s0 n1 s1 W) (b : Below W.heap.size W W') : DgS w M Q n0 s0 n1 s1 W' := by
  obtain ⟨h1, h2, h3, h4, h5, h6, h7, h8⟩ := h
  exact ⟨(b.cell (show w.heap.size < _ by omega)).trans h1, (b.cell (show w.heap.size < _ by omega)).trans h2, (b.cell (show w.heap.size + 1 < _ by omega)).trans h3, (b.cell (show w.heap.size + 1 < _ by omega)).trans h4,
    (b.cell (show w.heap.size + 1 < _ by omega)).trans h5, (b.cell (show w.heap.size + 1 < _ by omega)).trans h6, Nat.lt_of_lt_of_le h7 b.size, belP h8 b⟩
theorem DgS.new (w : World) (M Q : ByteArray) (n0 : Bool) (s0 : ByteArray) (n1 : Bool) (s1 : ByteArray) (T U : TypeId) : DgS w M Q n0 s0 n1 s1 ((w.alloc (.cells #[.string M, .string Q] T)).alloc (.cells #[.bool n0, .string s0, .bool n1, .string s1] U)) := by
  have e : (w.alloc (.cells #[.string M, .string Q] T)).heap.size = w.heap.size + 1 := by simp
  have h := (Two.new w (.string M) (.string Q) T _ rfl).alloc (.cells #[.bool n0, .string s0, .bool n1, .string s1] U)
  refine ⟨h.1, h.2.1, ?_, ?_, ?_, ?_, by simp, belP (belA _ _) (belA _ _)⟩
  all_goals rw [← e, World.cell?_alloc_new]; rfl
theorem DgS.bel {w W : World} {M Q : ByteArray} {n0 : Bool} {s0 : ByteArray} {n1 : Bool} {s1 : ByteArray} (h : DgS w M Q n0 s0 n1 s1 W) : Below w.heap.size w W := h.2.2.2.2.2.2.2
/-- The second box as a list. -/
theorem DgS.ivs {w W : World} {M Q : ByteArray} {n0 : Bool} {s0 : ByteArray} {n1 : Bool} {s1 : ByteArray} (h : DgS w M Q n0 s0 n1 s1 W) : IVs W (.slice (some ⟨w.heap.size + 1, 0, none⟩) 2 2) 2 (fun j => if j = 0 then n0 else n1) (fun j => if j = 0 then s0 else s1) := by
  obtain ⟨h1, h2, h3, h4, h5, h6, h7, h8⟩ := h
  refine ⟨_, _, rfl, fun j hj => ⟨_, rfl, h7, ?_, ?_⟩⟩
  · rcases (show j = 0 ∨ j = 1 by omega) with rfl | rfl
    · exact h3
    · exact h5
  · rcases (show j = 0 ∨ j = 1 by omega) with rfl | rfl
    · exact h4
    · exact h6
/-- Small: one base, two exponents. -/
def FewA (M Q x s0 s1 : ByteArray) : Prop := x.size ≤ 20 ∧ s0.size ≤ 20 ∧ s1.size ≤ 20 ∧ M.size ≤ 8 ∧ Q.size ≤ 10
theorem fewA {M Q x s0 s1 : ByteArray} : FewP13 M Q 1 (fun _ => x) 2 (fun j => if j = 0 then s0 else s1) ↔ FewA M Q x s0 s1 := by
  constructor
  · rintro ⟨h1, -, -, h2, h3, h4⟩
    exact ⟨h2 0 (by omega), h1 0 (by omega), h1 1 (by omega), h3, h4⟩
  · rintro ⟨h1, h2, h3, h4, h5⟩
    refine ⟨fun j hj => ?_, by omega, by omega, fun j hj => h1, h4, h5⟩
    rcases (show j = 0 ∨ j = 1 by omega) with rfl | rfl
    · exact h2
    · exact h3
theorem few13_1 (w : World) (M Q x : ByteArray) (n0 : Bool) (s0 : ByteArray) (n1 : Bool) (s1 : ByteArray) (lM : M.size ≤ 9223372036854775807) (lQ : Q.size ≤ 9223372036854775807) (lx : x.size ≤ 9223372036854775807) (l0 : s0.size ≤ 9223372036854775807) (l1 : s1.size ≤ 9223372036854775807)
    (W : World) (T : TypeId) (g : Nat) (hg : g = W.heap.size) (h : DgS w M Q n0 s0 n1 s1 W) :
    Calls Tryz.prog 21 #[.agg #[.string M, .string Q], .slice (some ⟨g, 0, none⟩) 1 1, .slice (some ⟨w.heap.size + 1, 0, none⟩) 2 2] (W.alloc (.cells #[.string x] T)).drew fun e w' => YnP (FewP13 M Q 1 (fun _ => x) 2 (fun j => if j = 0 then s0 else s1)) (W.alloc (.cells #[.string x] T)).drew e w' := by
  subst hg
  have hd := (Below.refl (W.alloc (.cells #[.string x] T)).heap.size (W.alloc (.cells #[.string x] T))).drew
  refine few13_any _ _ 1 2 (fun _ => x) _ _ M Q _ ((sv1_new W x T).below hd) ((h.below (belA _ _)).below hd).ivs (by omega) (by omega) lM lQ (fun j hj => lx) (fun j hj => ?_)
  rcases (show j = 0 ∨ j = 1 by omega) with rfl | rfl
  · exact l0
  · exact l1
set_option maxHeartbeats 8000000 in
set_option maxRecDepth 100000 in
theorem adds_n1 (M Q x : ByteArray) (n0 : Bool) (s0 : ByteArray) (n1 : Bool) (s1 : ByteArray) (lM : M.size ≤ maxLen) (lQ : Q.size ≤ maxLen) (lx : x.size ≤ maxLen) (l0 : s0.size ≤ maxLen) (l1 : s1.size ≤ maxLen) (w : World) (hf : ¬ FewA M Q x s0 s1) :
    Calls Tryz.prog 9 #[.agg #[.string M, .string Q], .string x, .agg #[.bool n0, .string s0, .bool n1, .string s1]] w fun e w' => e = .returned (.bool true) ∧ Below w.heap.size w w' := by
  unfold maxLen at lM lQ lx l0 l1
  have CF := Lib.hid (fun T => few13_1 w M Q x n0 s0 n1 s1 (by omega) (by omega) (by omega) (by omega) (by omega) _ T (w.heap.size + 1 + 1) (by simp) (DgS.new w M Q n0 s0 n1 s1 24 59))
  have S0 := Lib.hid (DgS.new w M Q n0 s0 n1 s1 24 59)
  obtain ⟨c1, c2, c3, c4, c5, c6, c7, c8⟩ := S0.out
  have CT := Lib.hid (fun T => (CF.out T).mono fun _ _ q => q.no (fun q => hf (fewA.1 q)))
  clear hf
  clear CF lM lQ lx l0 l1
  go_enter Tryz.func9, Tryz.ntmps9
  go_wp2_with fail
  first
  | (go_region_with
      (first
      | (go_at_call 21; ((with_reducible refine (CT.out _).mono ?_); (rintro e w99 ⟨rfl, b99⟩); (have S1 := Lib.hid (DgS.below S0.out (belP (belA _ _).drew b99))); (obtain ⟨c1, c2, c3, c4, c5, c6, c7, c8⟩ := S1.out)))))
  | fail
  all_goals go_wp2_with fail
  all_goals (refine (awake13 _).mono ?_; rintro e w9 ⟨rfl, b9⟩)
  all_goals (have K := Lib.hid (belP S1.out.bel b9); clear b9)
  all_goals go_wp2
  all_goals go_ret
  all_goals exact ⟨rfl, K.out⟩
set_option maxHeartbeats 8000000 in
set_option maxRecDepth 100000 in
theorem adds_n2 (M Q x : ByteArray) (n0 : Bool) (s0 : ByteArray) (n1 : Bool) (s1 : ByteArray) (lM : M.size ≤ maxLen) (lQ : Q.size ≤ maxLen) (lx : x.size ≤ maxLen) (l0 : s0.size ≤ maxLen) (l1 : s1.size ≤ maxLen) (w : World) (hf : FewA M Q x s0 s1) (h0 : ¬ IVal n0 s0) :
    Calls Tryz.prog 9 #[.agg #[.string M, .string Q], .string x, .agg #[.bool n0, .string s0, .bool n1, .string s1]] w fun e w' => e = .returned (.bool true) ∧ Below w.heap.size w w' := by
  unfold maxLen at lM lQ lx l0 l1
  have CF := Lib.hid (fun T => few13_1 w M Q x n0 s0 n1 s1 (by omega) (by omega) (by omega) (by omega) (by omega) _ T (w.heap.size + 1 + 1) (by simp) (DgS.new w M Q n0 s0 n1 s1 24 59))
  have S0 := Lib.hid (DgS.new w M Q n0 s0 n1 s1 24 59)
  obtain ⟨c1, c2, c3, c4, c5, c6, c7, c8⟩ := S0.out
  have CT := Lib.hid (fun T => (CF.out T).mono fun _ _ q => q.yes (fewA.2 hf))
  clear hf
  have CV := Lib.hid (fun W => ivalid_f n0 s0 W h0)
  clear h0
  clear CF lM lQ lx l0 l1
  go_enter Tryz.func9, Tryz.ntmps9
  go_wp2_with fail
  first
  | (go_region_with
      (first
      | (go_at_call 21; ((with_reducible refine (CT.out _).mono ?_); (rintro e w99 ⟨rfl, b99⟩); (have S1 := Lib.hid (DgS.below S0.out (belP (belA _ _).drew b99))); (obtain ⟨c1, c2, c3, c4, c5, c6, c7, c8⟩ := S1.out)))
      | (go_at_call 31; ((with_reducible refine (CV.out _).mono ?_); (rintro e w99 ⟨rfl, b99⟩); (have S1 := Lib.hid (DgS.below S1.out b99)); (obtain ⟨c1, c2, c3, c4, c5, c6, c7, c8⟩ := S1.out)))))
  | fail
  all_goals go_wp2_with fail
  all_goals (refine (awake13 _).mono ?_; rintro e w9 ⟨rfl, b9⟩)
  all_goals (have K := Lib.hid (belP S1.out.bel b9); clear b9)
  all_goals go_wp2
  all_goals go_ret
  all_goals exact ⟨rfl, K.out⟩
set_option maxHeartbeats 8000000 in
set_option maxRecDepth 100000 in
theorem adds_n3 (M Q x : ByteArray) (n0 : Bool) (s0 : ByteArray) (n1 : Bool) (s1 : ByteArray) (lM : M.size ≤ maxLen) (lQ : Q.size ≤ maxLen) (lx : x.size ≤ maxLen) (l0 : s0.size ≤ maxLen) (l1 : s1.size ≤ maxLen) (w : World) (hf : FewA M Q x s0 s1) (h0 : IVal n0 s0) (h1 : ¬ IVal n1 s1) :
    Calls Tryz.prog 9 #[.agg #[.string M, .string Q], .string x, .agg #[.bool n0, .string s0, .bool n1, .string s1]] w fun e w' => e = .returned (.bool true) ∧ Below w.heap.size w w' := by
  unfold maxLen at lM lQ lx l0 l1
  have CF := Lib.hid (fun T => few13_1 w M Q x n0 s0 n1 s1 (by omega) (by omega) (by omega) (by omega) (by omega) _ T (w.heap.size + 1 + 1) (by simp) (DgS.new w M Q n0 s0 n1 s1 24 59))
  have S0 := Lib.hid (DgS.new w M Q n0 s0 n1 s1 24 59)
  obtain ⟨c1, c2, c3, c4, c5, c6, c7, c8⟩ := S0.out
  have CT := Lib.hid (fun T => (CF.out T).mono fun _ _ q => q.yes (fewA.2 hf))
  clear hf
  have CV := Lib.hid (fun W => ivalid_t n0 s0 W h0)
  have CW := Lib.hid (fun W => ivalid_f n1 s1 W h1)
  clear h0 h1
  clear CF lM lQ lx l0 l1
  go_enter Tryz.func9, Tryz.ntmps9
  go_wp2_with fail
  first
  | (go_region_with
      (first
      | (go_at_call 21; ((with_reducible refine (CT.out _).mono ?_); (rintro e w99 ⟨rfl, b99⟩); (have S1 := Lib.hid (DgS.below S0.out (belP (belA _ _).drew b99))); (obtain ⟨c1, c2, c3, c4, c5, c6, c7, c8⟩ := S1.out)))
      | (go_at_call 31; ((with_reducible refine (CV.out _).mono ?_); (rintro e w99 ⟨rfl, b99⟩); (have S1 := Lib.hid (DgS.below S1.out b99)); (obtain ⟨c1, c2, c3, c4, c5, c6, c7, c8⟩ := S1.out)))
      | (go_at_call 31; ((with_reducible refine (CW.out _).mono ?_); (rintro e w99 ⟨rfl, b99⟩); (have S1 := Lib.hid (DgS.below S1.out b99)); (obtain ⟨c1, c2, c3, c4, c5, c6, c7, c8⟩ := S1.out)))))
  | fail
  all_goals go_wp2_with fail
  all_goals (refine (awake13 _).mono ?_; rintro e w9 ⟨rfl, b9⟩)
  all_goals (have K := Lib.hid (belP S1.out.bel b9); clear b9)
  all_goals go_wp2
  all_goals go_ret
  all_goals exact ⟨rfl, K.out⟩
set_option maxHeartbeats 8000000 in
set_option maxRecDepth 100000 in
theorem adds_n4 (M Q x : ByteArray) (n0 : Bool) (s0 : ByteArray) (n1 : Bool) (s1 : ByteArray) (lM : M.size ≤ maxLen) (lQ : Q.size ≤ maxLen) (lx : x.size ≤ maxLen) (l0 : s0.size ≤ maxLen) (l1 : s1.size ≤ maxLen) (w : World) (hf : FewA M Q x s0 s1) (h0 : IVal n0 s0) (h1 : IVal n1 s1) (hh : ¬ (chkG M Q = 0 ∧ EltG M Q x)) :
    Calls Tryz.prog 9 #[.agg #[.string M, .string Q], .string x, .agg #[.bool n0, .string s0, .bool n1, .string s1]] w fun e w' => e = .returned (.bool true) ∧ Below w.heap.size w w' := by
  unfold maxLen at lM lQ lx l0 l1
  have CF := Lib.hid (fun T => few13_1 w M Q x n0 s0 n1 s1 (by omega) (by omega) (by omega) (by omega) (by omega) _ T (w.heap.size + 1 + 1) (by simp) (DgS.new w M Q n0 s0 n1 s1 24 59))
  have S0 := Lib.hid (DgS.new w M Q n0 s0 n1 s1 24 59)
  obtain ⟨c1, c2, c3, c4, c5, c6, c7, c8⟩ := S0.out
  have CT := Lib.hid (fun T => (CF.out T).mono fun _ _ q => q.yes (fewA.2 hf))
  clear hf
  have CV := Lib.hid (fun W => ivalid_t n0 s0 W h0)
  have CW := Lib.hid (fun W => ivalid_t n1 s1 W h1)
  have CH := Lib.hid (fun W => hasB_f hh ▸ pwhas_any M Q x W)
  clear h0 h1 hh
  clear CF lM lQ lx l0 l1
  go_enter Tryz.func9, Tryz.ntmps9
  go_wp2_with fail
  first
  | (go_region_with
      (first
      | (go_at_call 21; ((with_reducible refine (CT.out _).mono ?_); (rintro e w99 ⟨rfl, b99⟩); (have S1 := Lib.hid (DgS.below S0.out (belP (belA _ _).drew b99))); (obtain ⟨c1, c2, c3, c4, c5, c6, c7, c8⟩ := S1.out)))
      | (go_at_call 31; ((with_reducible refine (CV.out _).mono ?_); (rintro e w99 ⟨rfl, b99⟩); (have S1 := Lib.hid (DgS.below S1.out b99)); (obtain ⟨c1, c2, c3, c4, c5, c6, c7, c8⟩ := S1.out)))
      | (go_at_call 31; ((with_reducible refine (CW.out _).mono ?_); (rintro e w99 ⟨rfl, b99⟩); (have S1 := Lib.hid (DgS.below S1.out b99)); (obtain ⟨c1, c2, c3, c4, c5, c6, c7, c8⟩ := S1.out)))
      | (go_at_call 15; ((with_reducible refine (CH.out _).mono ?_); (rintro e w99 ⟨rfl, b99⟩); (have S1 := Lib.hid (DgS.below S1.out b99)); (obtain ⟨c1, c2, c3, c4, c5, c6, c7, c8⟩ := S1.out)))))
  | fail
  all_goals go_wp2_with fail
  all_goals (refine (awake13 _).mono ?_; rintro e w9 ⟨rfl, b9⟩)
  all_goals (have K := Lib.hid (belP S1.out.bel b9); clear b9)
  all_goals go_wp2
  all_goals go_ret
  all_goals exact ⟨rfl, K.out⟩
theorem prod_two {M Q x : ByteArray} {n0 n1 : Bool} {s0 s1 : ByteArray} (h0 : IVal n0 s0) (h1 : IVal n1 s1) (hg : chkG M Q = 0) (he : EltG M Q x) :
    prodG M Q 2 (fun j => if j = 0 then x else x) 2 (fun j => if j = 0 then n0 else n1) (fun j => if j = 0 then s0 else s1) = (E (pwN (V M) (V x) (IZ n0 s0 + IZ n1 s1)), 0) := by
  obtain ⟨hM, hQ, hw⟩ := chkG_zero hg
  have hm := wfG_pos hw
  rw [prodG_yes (val2 h0 h1) hg (elt2 he he)]
  have e : prZ (V M) (fun j => V ((fun j => if j = 0 then x else x) j)) (fun j => IZ ((fun j => if j = 0 then n0 else n1) j) ((fun j => if j = 0 then s0 else s1) j)) 2 = 1 % V M * pwN (V M) (V x) (IZ n0 s0) % V M * pwN (V M) (V x) (IZ n1 s1) % V M := rfl
  rw [e, Nat.mod_eq_of_lt hm, Nat.one_mul, Nat.mod_eq_of_lt (pwN_lt (by omega)), pwN_add (he.unit hM hw)]
theorem prod2_A (w : World) (M Q x : ByteArray) (n0 : Bool) (s0 : ByteArray) (n1 : Bool) (s1 : ByteArray) (y : ByteArray) (hy : prodG M Q 2 (fun j => if j = 0 then x else x) 2 (fun j => if j = 0 then n0 else n1) (fun j => if j = 0 then s0 else s1) = (y, 0))
    (W : World) (T : TypeId) (h : DgS w M Q n0 s0 n1 s1 W) :
    Calls Tryz.prog 22 #[.agg #[.string M, .string Q], .slice (some ⟨W.heap.size, 0, none⟩) 2 2, .slice (some ⟨w.heap.size + 1, 0, none⟩) 2 2] (W.alloc (.cells #[.string x, .string x] T)).drew fun e w' => e = .returned (.tuple #[.string y, .int .i64 0]) ∧ Below (W.alloc (.cells #[.string x, .string x] T)).drew.heap.size (W.alloc (.cells #[.string x, .string x] T)).drew w' := by
  have hd := (Below.refl (W.alloc (.cells #[.string x, .string x] T)).heap.size (W.alloc (.cells #[.string x, .string x] T))).drew
  have := pwprod_any M Q _ _ 2 2 _ _ _ _ ((sv2_new W x x T).below hd) ((h.below (belA _ _)).below hd).ivs (by omega) (by omega)
  rwa [hy] at this
theorem adds_zero {M Q x : ByteArray} {n0 : Bool} {s0 : ByteArray} (hg : chkG M Q = 0) (he : EltG M Q x) :
    E (V (E (pwN (V M) (V x) (-(IZ n0 s0)))) * V (E (pwN (V M) (V x) (IZ n0 s0))) % V M) = ⟨#[1]⟩ := by
  obtain ⟨hM, hQ, hw⟩ := chkG_zero hg
  have hm := wfG_pos hw
  rw [V_E, V_E, pwN_add (he.unit hM hw), show -(IZ n0 s0) + IZ n0 s0 = ((0 : Nat) : Int) by omega, pwN_nat, Nat.pow_zero, Nat.mod_eq_of_lt hm, l_1]
theorem sum_small {n0 n1 : Bool} {s0 s1 : ByteArray} (h0 : s0.size ≤ 20) (h1 : s1.size ≤ 20) : (IZ n0 s0 + IZ n1 s1).natAbs < Lim := by
  have a := Nat.lt_of_lt_of_le (V_lt s0) (Nat.pow_le_pow_right (by omega) h0)
  have b := Nat.lt_of_lt_of_le (V_lt s1) (Nat.pow_le_pow_right (by omega) h1)
  have c : (IZ n0 s0 + IZ n1 s1).natAbs ≤ V s0 + V s1 := by
    unfold IZ
    have := Int.natAbs_add_le (sg n0 (V s0)) (sg n1 (V s1))
    rwa [sg_natAbs, sg_natAbs] at this
  have d : 256 ^ 20 + 256 ^ 20 ≤ Lim := by rw [lim_eq]; decide +kernel
  omega
set_option maxHeartbeats 8000000 in
set_option maxRecDepth 100000 in
theorem adds_yes (M Q x : ByteArray) (n0 : Bool) (s0 : ByteArray) (n1 : Bool) (s1 : ByteArray) (lM : M.size ≤ maxLen) (lQ : Q.size ≤ maxLen) (lx : x.size ≤ maxLen) (l0 : s0.size ≤ maxLen) (l1 : s1.size ≤ maxLen) (w : World) (hf : FewA M Q x s0 s1) (h0 : IVal n0 s0) (h1 : IVal n1 s1) (hg : chkG M Q = 0) (he : EltG M Q x) :
    Calls Tryz.prog 9 #[.agg #[.string M, .string Q], .string x, .agg #[.bool n0, .string s0, .bool n1, .string s1]] w fun e w' => e = .returned (.bool true) ∧ Below w.heap.size w w' := by
  unfold maxLen at lM lQ lx l0 l1
  have CF := Lib.hid (fun T => few13_1 w M Q x n0 s0 n1 s1 (by omega) (by omega) (by omega) (by omega) (by omega) _ T (w.heap.size + 1 + 1) (by simp) (DgS.new w M Q n0 s0 n1 s1 24 59))
  have S0 := Lib.hid (DgS.new w M Q n0 s0 n1 s1 24 59)
  obtain ⟨c1, c2, c3, c4, c5, c6, c7, c8⟩ := S0.out
  have hlim : (IZ n0 s0 + IZ n1 s1).natAbs < Lim := sum_small hf.2.1 hf.2.2.1
  have CT := Lib.hid (fun T => (CF.out T).mono fun _ _ q => q.yes (fewA.2 hf))
  clear hf
  have CV := Lib.hid (fun W => ivalid_t n0 s0 W h0)
  have CW := Lib.hid (fun W => ivalid_t n1 s1 W h1)
  have CH := Lib.hid (fun W => hasB_t ⟨hg, he⟩ ▸ pwhas_any M Q x W)
  have CA := Lib.hid (fun W => iadd_yes n0 n1 s0 s1 W h0 h1)
  rw [zokN_yes hlim] at CA
  obtain ⟨G, S, hZ, hI, hIZ⟩ : ∃ G S, Z (IZ n0 s0 + IZ n1 s1) = .agg #[.bool G, .string S] ∧ IVal G S ∧ IZ G S = IZ n0 s0 + IZ n1 s1 := ⟨_, _, rfl, ival_Z _ hlim, IZ_Z _⟩
  rw [hZ] at CA
  have CX := Lib.hid (fun W => pwexp_yes M Q x G S W hI hg he)
  rw [hIZ] at CX
  have CP := Lib.hid (fun W T h => prod2_A w M Q x n0 s0 n1 s1 _ (prod_two h0 h1 hg he) W T h)
  have CN := Lib.hid (fun W => ineg_yes n0 s0 W h0)
  obtain ⟨G2, S2, hZ2, hI2, hIZ2⟩ := Z_neg_code h0
  rw [hZ2] at CN
  have CX2 := Lib.hid (fun W => pwexp_yes M Q x G2 S2 W hI2 hg he)
  rw [hIZ2] at CX2
  have CX3 := Lib.hid (fun W => pwexp_yes M Q x n0 s0 W h0 hg he)
  obtain ⟨hM, hQ, hw⟩ := chkG_zero hg
  have CM := Lib.hid (fun W => pwmul_yes M Q _ _ W hg (he.pw hM hw (-(IZ n0 s0))) (he.pw hM hw (IZ n0 s0)))
  rw [adds_zero hg he] at CM
  generalize E (pwN (V M) (V x) (IZ n0 s0 + IZ n1 s1)) = y at *
  generalize E (pwN (V M) (V x) (-(IZ n0 s0))) = c at *
  generalize E (pwN (V M) (V x) (IZ n0 s0)) = p at *
  have hyy : (y.toList == y.toList) = true := by simp
  clear h0 h1 hg he hlim hZ hI hIZ hZ2 hI2 hIZ2 hM hQ hw
  clear CF lM lQ lx l0 l1
  go_enter Tryz.func9, Tryz.ntmps9
  go_wp2_with fail
  first
  | (go_region_held3 (fun W => W.cell? ⟨w.heap.size, 0, none⟩ = some (.string M) ∧ W.cell? ⟨w.heap.size, 1, none⟩ = some (.string Q) ∧ W.cell? ⟨w.heap.size + 1, 0, none⟩ = some (.bool n0) ∧ W.cell? ⟨w.heap.size + 1, 1, none⟩ = some (.string s0) ∧ W.cell? ⟨w.heap.size + 1, 2, none⟩ = some (.bool n1) ∧ W.cell? ⟨w.heap.size + 1, 3, none⟩ = some (.string s1) ∧ w.heap.size + 1 < W.heap.size ∧ Below w.heap.size w W)
      (first | assumption | exact DgS.below S0.out (Below.refl _ _).drew | exact DgS.below S0.out (belA _ _).drew | exact DgS.below S0.out (belP (belA _ _).drew b99) | exact DgS.below (by assumption) b99)
      (first
      | (go_at_call 21; ((with_reducible refine (CT.out _).mono ?_); rintro e w99 ⟨rfl, b99⟩))
      | (go_at_call 31; ((with_reducible refine (CV.out _).mono ?_); rintro e w99 ⟨rfl, b99⟩))
      | (go_at_call 31; ((with_reducible refine (CW.out _).mono ?_); rintro e w99 ⟨rfl, b99⟩))
      | (go_at_call 15; ((with_reducible refine (CH.out _).mono ?_); rintro e w99 ⟨rfl, b99⟩))))
  | fail
  have S1 := Lib.hid (show DgS w M Q n0 s0 n1 s1 w99 from by assumption)
  clear c1 c2 c3 c4 c5 c6 c7 c8 S0 CT CV CW CH
  obtain ⟨c1, c2, c3, c4, c5, c6, c7, c8⟩ := S1.out
  go_wp2_with fail
  refine (CA.out _).mono ?_; rintro e w2 ⟨rfl, b2⟩
  have S2 := Lib.hid (S1.out.below (belP b2 (belA w2 (.cells #[.bool G, .string S] 37))))
  have T2 := Lib.hid (Two.new w2 (.bool G) (.string S) 37 _ rfl)
  clear b2 S1 c1 c2 c3 c4 c5 c6 c7 c8
  obtain ⟨c1, c2, c3, c4, c5, c6, c7, c8⟩ := S2.out
  obtain ⟨d1, d2, d3, d4, d5⟩ := T2.out
  go_wp2_with fail
  refine (CX.out _).mono ?_; rintro e w3 ⟨rfl, b3⟩
  have S3 := Lib.hid (S2.out.below b3)
  clear b3 S2 T2 c1 c2 c3 c4 c5 c6 c7 c8 d1 d2 d3 d4 d5
  obtain ⟨c1, c2, c3, c4, c5, c6, c7, c8⟩ := S3.out
  go_wp2_with fail
  first
  | (go_region_held3 (fun W => W.cell? ⟨w.heap.size, 0, none⟩ = some (.string M) ∧ W.cell? ⟨w.heap.size, 1, none⟩ = some (.string Q) ∧ W.cell? ⟨w.heap.size + 1, 0, none⟩ = some (.bool n0) ∧ W.cell? ⟨w.heap.size + 1, 1, none⟩ = some (.string s0) ∧ W.cell? ⟨w.heap.size + 1, 2, none⟩ = some (.bool n1) ∧ W.cell? ⟨w.heap.size + 1, 3, none⟩ = some (.string s1) ∧ w.heap.size + 1 < W.heap.size ∧ Below w.heap.size w W)
      (first | assumption | exact DgS.below S3.out (Below.refl _ _).drew | exact DgS.below S3.out (belA _ _).drew | exact DgS.below S3.out (belP (belA _ _).drew b99) | exact DgS.below (by assumption) b99)
      (first
      | (go_at_call 22; ((with_reducible refine (CP.out _ _ S3.out).mono ?_); rintro e w99 ⟨rfl, b99⟩))))
  | fail
  have S5 := Lib.hid (show DgS w M Q n0 s0 n1 s1 w99 from by assumption)
  clear c1 c2 c3 c4 c5 c6 c7 c8 S3
  obtain ⟨c1, c2, c3, c4, c5, c6, c7, c8⟩ := S5.out
  go_wp2_with fail
  first
  | (go_region_held3 (fun W => W.cell? ⟨w.heap.size, 0, none⟩ = some (.string M) ∧ W.cell? ⟨w.heap.size, 1, none⟩ = some (.string Q) ∧ W.cell? ⟨w.heap.size + 1, 0, none⟩ = some (.bool n0) ∧ W.cell? ⟨w.heap.size + 1, 1, none⟩ = some (.string s0) ∧ W.cell? ⟨w.heap.size + 1, 2, none⟩ = some (.bool n1) ∧ W.cell? ⟨w.heap.size + 1, 3, none⟩ = some (.string s1) ∧ w.heap.size + 1 < W.heap.size ∧ Below w.heap.size w W)
      (first | assumption | exact DgS.below S5.out (Below.refl _ _).drew | exact DgS.below S5.out (belA _ _).drew | exact DgS.below S5.out (belP (belA _ _).drew b99) | exact DgS.below (by assumption) b99)
      (first
      | (go_at_call 33; ((with_reducible refine (CN.out _).mono ?_); rintro e w99 ⟨rfl, b99⟩))
      | (go_at_call 19; ((with_reducible refine (CX2.out _).mono ?_); rintro e w99 ⟨rfl, b99⟩))))
  | fail
  have S6 := Lib.hid (show DgS w M Q n0 s0 n1 s1 w99 from by assumption)
  clear c1 c2 c3 c4 c5 c6 c7 c8 S5
  obtain ⟨c1, c2, c3, c4, c5, c6, c7, c8⟩ := S6.out
  go_wp2_with fail
  refine (CX3.out _).mono ?_; rintro e w7 ⟨rfl, b7⟩
  have S7 := Lib.hid (S6.out.below b7)
  clear b7 S6 c1 c2 c3 c4 c5 c6 c7 c8
  obtain ⟨c1, c2, c3, c4, c5, c6, c7, c8⟩ := S7.out
  go_wp2_with fail
  refine (CM.out _).mono ?_; rintro e w8 ⟨rfl, b8⟩
  have S8 := Lib.hid (S7.out.below b8)
  clear b8 S7 c1 c2 c3 c4 c5 c6 c7 c8
  go_wp2_with fail
  refine (awake13 _).mono ?_; rintro e w9 ⟨rfl, b9⟩
  have K := Lib.hid (belP S8.out.bel b9); clear b9
  go_wp2
  go_ret
  exact ⟨rfl, K.out⟩
theorem law_PowerAdds (M Q x : ByteArray) (n0 : Bool) (s0 : ByteArray) (n1 : Bool) (s1 : ByteArray) (lM : M.size ≤ maxLen) (lQ : Q.size ≤ maxLen) (lx : x.size ≤ maxLen) (l0 : s0.size ≤ maxLen) (l1 : s1.size ≤ maxLen) (w : World) :
    Calls Tryz.prog 9 #[.agg #[.string M, .string Q], .string x, .agg #[.bool n0, .string s0, .bool n1, .string s1]] w fun e w' => e = .returned (.bool true) ∧ Below w.heap.size w w' := by
  by_cases hf : FewA M Q x s0 s1
  · by_cases h0 : IVal n0 s0
    · by_cases h1 : IVal n1 s1
      · by_cases hh : chkG M Q = 0 ∧ EltG M Q x
        · exact adds_yes M Q x n0 s0 n1 s1 lM lQ lx l0 l1 w hf h0 h1 hh.1 hh.2
        · exact adds_n4 M Q x n0 s0 n1 s1 lM lQ lx l0 l1 w hf h0 h1 hh
      · exact adds_n3 M Q x n0 s0 n1 s1 lM lQ lx l0 l1 w hf h0 h1
    · exact adds_n2 M Q x n0 s0 n1 s1 lM lQ lx l0 l1 w hf h0
  · exact adds_n1 M Q x n0 s0 n1 s1 lM lQ lx l0 l1 w hf
end Go.Proofs.YtogmgfdihmacpaaGreatDoor
