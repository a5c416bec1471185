/-
  The reference of layer 13: has, Has, Mul, raw, Exp, NewTable, Table.
-/
import Derived.Test.YtogmgfdihmacpaaGreatDoorRW1
namespace Go.Proofs.YtogmgfdihmacpaaGreatDoor
open Go.RowKit
set_option linter.unusedVariables false

theorem commonB (s t : ByteArray) (w : World) (hs : Can s) (ht : Can t) : Calls Tryz.prog 75 #[.string s, .string t] w fun e w' => e = .returned (.string (E ((V s).gcd (V t)))) ∧ Below w.heap.size w w' := by
  have := rcommon_any (V s) (V t) w (V_lim hs) (V_lim ht)
  rwa [E_V hs, E_V ht] at this
set_option maxHeartbeats 2000000 in
set_option maxRecDepth 20000 in
theorem r13elt_k (M Q x : ByteArray) (w : World) (b : Bool) (h0 : Q.size ≠ 0) (h : ∀ w, Calls Tryz.prog 74 #[.agg #[.string M, .string Q], .string x] w fun e w' => e = .returned (.bool b) ∧ Below w.heap.size w w') :
    Calls Tryz.prog 43 #[.agg #[.string M, .string Q], .string x] w fun e w' => e = .returned (.bool b) ∧ Below w.heap.size w w' := by
  have G := Lib.hid (Two.new w (.string M) (.string Q) 24 _ rfl)
  have K := Lib.hid (belA w (.cells #[.string M, .string Q] 24))
  obtain ⟨q1, q2, q3, q4, q5⟩ := G.out
  have H := Lib.hid h
  have hE := not_empty_of h0
  clear h h0
  go_enter Tryz.func43, Tryz.ntmps43
  go_wp2_with fail
  refine (H.out _).mono ?_; rintro e w1 ⟨rfl, b1⟩
  have K := Lib.hid (belP K.out b1)
  have G := Lib.hid (G.out.below b1 rfl)
  clear b1 q1 q2 q3 q4 q5
  obtain ⟨q1, q2, q3, q4, q5⟩ := G.out
  go_wp2
  go_ret
  exact ⟨rfl, K.out⟩
set_option maxHeartbeats 2000000 in
set_option maxRecDepth 20000 in
theorem r13elt_u0 (M Q x : ByteArray) (w : World) (h0 : Q.size = 0) (h1 : x.size = 0) :
    Calls Tryz.prog 43 #[.agg #[.string M, .string Q], .string x] w fun e w' => e = .returned (.bool false) ∧ Below w.heap.size w w' := by
  have G := Lib.hid (Two.new w (.string M) (.string Q) 24 _ rfl)
  have K := Lib.hid (belA w (.cells #[.string M, .string Q] 24))
  obtain ⟨q1, q2, q3, q4, q5⟩ := G.out
  have hE := empty_of h0
  have hE1 := empty_of h1
  clear h0 h1
  go_enter Tryz.func43, Tryz.ntmps43
  go_wp2
  go_ret
  exact ⟨rfl, K.out⟩
set_option maxHeartbeats 2000000 in
set_option maxRecDepth 20000 in
theorem r13elt_u1 (M Q x : ByteArray) (w : World) (hM : Can M) (hx : Can x) (h0 : Q.size = 0) (h1 : x.size ≠ 0) (h3 : ¬ V x < V M) :
    Calls Tryz.prog 43 #[.agg #[.string M, .string Q], .string x] w fun e w' => e = .returned (.bool false) ∧ Below w.heap.size w w' := by
  have G := Lib.hid (Two.new w (.string M) (.string Q) 24 _ rfl)
  have K := Lib.hid (belA w (.cells #[.string M, .string Q] 24))
  obtain ⟨q1, q2, q3, q4, q5⟩ := G.out
  have hE := empty_of h0
  have hE1 := not_empty_of h1
  obtain ⟨y, hy⟩ : ∃ y, y = sgn (V x) (V M) := ⟨_, rfl⟩
  have hsg : ¬ y < 0 := by rw [hy]; unfold sgn; rw [if_neg h3]; split <;> omega
  have hd0 : decide (y < 0) = false := decide_eq_false hsg
  have CC := Lib.hid (fun W => (show Calls Tryz.prog 39 #[.string x, .string M] W fun e w' => e = .returned (.int .i64 y) ∧ Below W.heap.size W w' by rw [hy]; exact orderB x M W hx hM))
  clear hM hx h0 h1 h3 hy
  go_enter Tryz.func43, Tryz.ntmps43
  go_wp2_with fail
  refine (CC.out _).mono ?_; rintro e w1 ⟨rfl, b1⟩
  have K := Lib.hid (belP K.out b1)
  have G := Lib.hid (G.out.below b1 rfl)
  clear b1 q1 q2 q3 q4 q5
  obtain ⟨q1, q2, q3, q4, q5⟩ := G.out
  go_wp2
  go_ret
  exact ⟨rfl, K.out⟩
set_option maxHeartbeats 2000000 in
set_option maxRecDepth 20000 in
theorem r13elt_u2 (M Q x : ByteArray) (w : World) (hM : Can M) (hx : Can x) (h0 : Q.size = 0) (h1 : x.size ≠ 0) (h3 : V x < V M) (h4 : Nat.gcd (V x) (V M) ≠ 1) :
    Calls Tryz.prog 43 #[.agg #[.string M, .string Q], .string x] w fun e w' => e = .returned (.bool false) ∧ Below w.heap.size w w' := by
  have G := Lib.hid (Two.new w (.string M) (.string Q) 24 _ rfl)
  have K := Lib.hid (belA w (.cells #[.string M, .string Q] 24))
  obtain ⟨q1, q2, q3, q4, q5⟩ := G.out
  have hE := empty_of h0
  have hE1 := not_empty_of h1
  have hsg : sgn (V x) (V M) = -1 := by unfold sgn; rw [if_pos h3]
  have CC := Lib.hid (fun W => (show Calls Tryz.prog 39 #[.string x, .string M] W fun e w' => e = .returned (.int .i64 (-1)) ∧ Below W.heap.size W w' by rw [← hsg]; exact orderB x M W hx hM))
  obtain ⟨n, hn⟩ : ∃ n, n = Nat.gcd (V x) (V M) := ⟨_, rfl⟩
  have hb := one_no (n := n) (by rw [hn]; exact h4)
  have CG := Lib.hid (fun W => (show Calls Tryz.prog 75 #[.string x, .string M] W fun e w' => e = .returned (.string (E n)) ∧ Below W.heap.size W w' by rw [hn]; exact commonB x M W hx hM))
  clear hM hx h0 h1 h3 h4 hsg hn
  go_enter Tryz.func43, Tryz.ntmps43
  go_wp2_with fail
  refine (CC.out _).mono ?_; rintro e w1 ⟨rfl, b1⟩
  have K := Lib.hid (belP K.out b1)
  have G := Lib.hid (G.out.below b1 rfl)
  clear b1 q1 q2 q3 q4 q5
  obtain ⟨q1, q2, q3, q4, q5⟩ := G.out
  go_wp2_with fail
  refine (CG.out _).mono ?_; rintro e w2 ⟨rfl, b2⟩
  have K := Lib.hid (belP K.out b2)
  have G := Lib.hid (G.out.below b2 rfl)
  clear b2 q1 q2 q3 q4 q5
  obtain ⟨q1, q2, q3, q4, q5⟩ := G.out
  go_wp2
  go_ret
  exact ⟨rfl, K.out⟩
set_option maxHeartbeats 2000000 in
set_option maxRecDepth 20000 in
theorem r13elt_u3 (M Q x : ByteArray) (w : World) (hM : Can M) (hx : Can x) (h0 : Q.size = 0) (h1 : x.size ≠ 0) (h3 : V x < V M) (h4 : Nat.gcd (V x) (V M) = 1) :
    Calls Tryz.prog 43 #[.agg #[.string M, .string Q], .string x] w fun e w' => e = .returned (.bool true) ∧ Below w.heap.size w w' := by
  have G := Lib.hid (Two.new w (.string M) (.string Q) 24 _ rfl)
  have K := Lib.hid (belA w (.cells #[.string M, .string Q] 24))
  obtain ⟨q1, q2, q3, q4, q5⟩ := G.out
  have hE := empty_of h0
  have hE1 := not_empty_of h1
  have hsg : sgn (V x) (V M) = -1 := by unfold sgn; rw [if_pos h3]
  have CC := Lib.hid (fun W => (show Calls Tryz.prog 39 #[.string x, .string M] W fun e w' => e = .returned (.int .i64 (-1)) ∧ Below W.heap.size W w' by rw [← hsg]; exact orderB x M W hx hM))
  have CG := Lib.hid (fun W => (show Calls Tryz.prog 75 #[.string x, .string M] W fun e w' => e = .returned (.string ⟨#[1]⟩) ∧ Below W.heap.size W w' by have := commonB x M W hx hM; rwa [h4, l_1] at this))
  clear hM hx h0 h1 h3 h4 hsg
  go_enter Tryz.func43, Tryz.ntmps43
  go_wp2_with fail
  refine (CC.out _).mono ?_; rintro e w1 ⟨rfl, b1⟩
  have K := Lib.hid (belP K.out b1)
  have G := Lib.hid (G.out.below b1 rfl)
  clear b1 q1 q2 q3 q4 q5
  obtain ⟨q1, q2, q3, q4, q5⟩ := G.out
  go_wp2_with fail
  refine (CG.out _).mono ?_; rintro e w2 ⟨rfl, b2⟩
  have K := Lib.hid (belP K.out b2)
  have G := Lib.hid (G.out.below b2 rfl)
  clear b2 q1 q2 q3 q4 q5
  obtain ⟨q1, q2, q3, q4, q5⟩ := G.out
  go_wp2
  go_ret
  exact ⟨rfl, K.out⟩
theorem r13elt_t (M Q x : ByteArray) (w : World) (hs : M.size ≤ 60) (hg : chkG M Q = 0) (h : EltG M Q x) :
    Calls Tryz.prog 43 #[.agg #[.string M, .string Q], .string x] w fun e w' => e = .returned (.bool true) ∧ Below w.heap.size w w' := by
  obtain ⟨hM, hQ, hw⟩ := chkG_zero hg
  rcases h.2 with ⟨h0, h1, h2, h3⟩ | hk
  · exact r13elt_u3 M Q x w hM h.1 h0 ((size_posV h.1).1 h1) h2 h3
  · exact r13elt_k M Q x w true hk.1 (fun w => r9has_yes M Q x w (by omega) hM hQ h.1 hk)
theorem r13elt_f (M Q x : ByteArray) (w : World) (hs : M.size ≤ 60) (hg : chkG M Q = 0) (hx : Can x) (h : ¬ EltG M Q x) :
    Calls Tryz.prog 43 #[.agg #[.string M, .string Q], .string x] w fun e w' => e = .returned (.bool false) ∧ Below w.heap.size w w' := by
  obtain ⟨hM, hQ, hw⟩ := chkG_zero hg
  by_cases h0 : Q.size = 0
  · by_cases h1 : x.size = 0
    · exact r13elt_u0 M Q x w h0 h1
    · by_cases h2 : V x < V M
      · exact r13elt_u2 M Q x w hM hx h0 h1 h2 (fun q => h ⟨hx, .inl ⟨h0, (size_posV hx).2 h1, h2, q⟩⟩)
      · exact r13elt_u1 M Q x w hM hx h0 h1 h2
  · exact r13elt_k M Q x w false h0 (fun w => r9has_no M Q x w (by omega) (fun q => h ⟨hx, .inr q.2.2.2⟩))
set_option maxHeartbeats 2000000 in
set_option maxRecDepth 20000 in
theorem r13has_any (M Q x : ByteArray) (w : World) (hs : M.size ≤ 60) :
    Calls Tryz.prog 16 #[.agg #[.string M, .string Q], .string x] w fun e w' => e = .returned (.bool (hasB M Q x)) ∧ Below w.heap.size w w' := by
  have G := Lib.hid (Two.new w (.string M) (.string Q) 24 _ rfl)
  have K := Lib.hid (belA w (.cells #[.string M, .string Q] 24))
  obtain ⟨q1, q2, q3, q4, q5⟩ := G.out
  obtain ⟨c, hc⟩ : ∃ c, c = chkG M Q := ⟨_, rfl⟩
  have CC := Lib.hid (fun W => (show Calls Tryz.prog 14 #[.agg #[.string M, .string Q]] W fun e w' => e = .returned (.int .i64 c) ∧ Below W.heap.size W w' by rw [hc]; exact r13chk_any M Q W))
  by_cases h0 : c = 0
  · subst h0
    by_cases hx : Can x
    · obtain ⟨b, hb⟩ : ∃ b, b = hasB M Q x := ⟨_, rfl⟩
      have CE := Lib.hid (fun W => (show Calls Tryz.prog 43 #[.agg #[.string M, .string Q], .string x] W fun e w' => e = .returned (.bool b) ∧ Below W.heap.size W w' by
        by_cases he : EltG M Q x
        · rw [hb, hasB_t ⟨hc.symm, he⟩]; exact r13elt_t M Q x W hs hc.symm he
        · rw [hb, hasB_f (M := M) (Q := Q) (x := x) (fun q => he q.2)]; exact r13elt_f M Q x W hs hc.symm hx he))
      rw [← hb]
      have HX := Lib.hid hx
      clear hc hb hx hs
      go_enter Tryz.func16, Tryz.ntmps16
      go_wp2_with fail
      refine (CC.out _).mono ?_; rintro e w1 ⟨rfl, b1⟩
      have K := Lib.hid (belP K.out b1)
      have G := Lib.hid (G.out.below b1 rfl)
      clear b1 q1 q2 q3 q4 q5
      obtain ⟨q1, q2, q3, q4, q5⟩ := G.out
      go_wp2_with fail
      refine (rvalid_yes x _ HX.out).mono ?_; rintro e wx ⟨rfl, rfl⟩
      go_wp2_with fail
      refine (CE.out _).mono ?_; rintro e w2 ⟨rfl, b2⟩
      have K := Lib.hid (belP K.out b2)
      have G := Lib.hid (G.out.below b2 rfl)
      clear b2 q1 q2 q3 q4 q5
      obtain ⟨q1, q2, q3, q4, q5⟩ := G.out
      go_wp2
      go_ret
      exact ⟨rfl, K.out⟩
    · rw [hasB_f (M := M) (Q := Q) (x := x) (fun q => hx q.2.1)]
      have HX := Lib.hid hx
      clear hc hx hs
      go_enter Tryz.func16, Tryz.ntmps16
      go_wp2_with fail
      refine (CC.out _).mono ?_; rintro e w1 ⟨rfl, b1⟩
      have K := Lib.hid (belP K.out b1)
      have G := Lib.hid (G.out.below b1 rfl)
      clear b1 q1 q2 q3 q4 q5
      obtain ⟨q1, q2, q3, q4, q5⟩ := G.out
      go_wp2_with fail
      refine (rvalid_no x _ HX.out).mono ?_; rintro e wx ⟨rfl, rfl⟩
      go_wp2
      go_ret
      exact ⟨rfl, K.out⟩
  · rw [hasB_f (M := M) (Q := Q) (x := x) (fun q => h0 (hc.trans q.1))]
    have hbq : (c == 0) = false := beq_eq_false_iff_ne.2 h0
    clear hc h0 hs
    go_enter Tryz.func16, Tryz.ntmps16
    go_wp2_with fail
    refine (CC.out _).mono ?_; rintro e w1 ⟨rfl, b1⟩
    have K := Lib.hid (belP K.out b1)
    have G := Lib.hid (G.out.below b1 rfl)
    clear b1 q1 q2 q3 q4 q5
    obtain ⟨q1, q2, q3, q4, q5⟩ := G.out
    go_wp2
    go_ret
    exact ⟨rfl, K.out⟩
set_option maxHeartbeats 2000000 in
set_option maxRecDepth 20000 in
theorem r13mul_form (M Q a b : ByteArray) (w : World) (h : ¬ (Can a ∧ Can b)) :
    Calls Tryz.prog 18 #[.agg #[.string M, .string Q], .string a, .string b] w fun e w' => e = .returned (.tuple #[.string ⟨#[]⟩, .int .i64 3]) ∧ Below w.heap.size w w' := by
  have G := Lib.hid (Two.new w (.string M) (.string Q) 24 _ rfl)
  have K := Lib.hid (belA w (.cells #[.string M, .string Q] 24))
  obtain ⟨q1, q2, q3, q4, q5⟩ := G.out
  by_cases ca : Can a
  · have HA := Lib.hid ca
    have HB := Lib.hid (show ¬ Can b from fun q => h ⟨ca, q⟩)
    clear ca h
    go_enter Tryz.func18, Tryz.ntmps18
    go_wp2_with fail
    refine (rvalid_yes a _ HA.out).mono ?_; rintro e wx ⟨rfl, rfl⟩
    go_wp2_with fail
    refine (rvalid_no b _ HB.out).mono ?_; rintro e wx ⟨rfl, rfl⟩
    go_wp2
    go_ret2
    exact ⟨rfl, K.out⟩
  · have HA := Lib.hid ca
    clear ca h
    go_enter Tryz.func18, Tryz.ntmps18
    go_wp2_with fail
    refine (rvalid_no a _ HA.out).mono ?_; rintro e wx ⟨rfl, rfl⟩
    go_wp2
    go_ret2
    exact ⟨rfl, K.out⟩
set_option maxHeartbeats 2000000 in
set_option maxRecDepth 20000 in
theorem r13mul_err (M Q a b : ByteArray) (w : World) (ca : Can a) (cb : Can b) (c : Int) (hc : chkG M Q = c) (h0 : (c != 0) = true) :
    Calls Tryz.prog 18 #[.agg #[.string M, .string Q], .string a, .string b] w fun e w' => e = .returned (.tuple #[.string ⟨#[]⟩, .int .i64 c]) ∧ Below w.heap.size w w' := by
  have G := Lib.hid (Two.new w (.string M) (.string Q) 24 _ rfl)
  have K := Lib.hid (belA w (.cells #[.string M, .string Q] 24))
  obtain ⟨q1, q2, q3, q4, q5⟩ := G.out
  have HA := Lib.hid ca
  have HB := Lib.hid cb
  have CK := Lib.hid (fun W => (show Calls Tryz.prog 14 #[.agg #[.string M, .string Q]] W fun e w' => e = .returned (.int .i64 c) ∧ Below W.heap.size W w' by rw [← hc]; exact r13chk_any M Q W))
  clear ca cb hc
  go_enter Tryz.func18, Tryz.ntmps18
  go_wp2_with fail
  refine (rvalid_yes a _ HA.out).mono ?_; rintro e wx ⟨rfl, rfl⟩
  go_wp2_with fail
  refine (rvalid_yes b _ HB.out).mono ?_; rintro e wx ⟨rfl, rfl⟩
  go_wp2_with fail
  refine (CK.out _).mono ?_; rintro e w1 ⟨rfl, b1⟩
  have K := Lib.hid (belP K.out b1)
  have G := Lib.hid (G.out.below b1 rfl)
  clear b1 q1 q2 q3 q4 q5
  obtain ⟨q1, q2, q3, q4, q5⟩ := G.out
  go_wp2
  go_ret2
  exact ⟨rfl, K.out⟩
set_option maxHeartbeats 2000000 in
set_option maxRecDepth 20000 in
theorem r13mul_yes (M Q a b : ByteArray) (w : World) (hs : M.size ≤ 60) (hc : chkG M Q = 0) (ha : EltG M Q a) (hb : EltG M Q b) :
    Calls Tryz.prog 18 #[.agg #[.string M, .string Q], .string a, .string b] w fun e w' => e = .returned (.tuple #[.string (E (V a * V b % V M)), .int .i64 0]) ∧ Below w.heap.size w w' := by
  have G := Lib.hid (Two.new w (.string M) (.string Q) 24 _ rfl)
  have K := Lib.hid (belA w (.cells #[.string M, .string Q] 24))
  obtain ⟨q1, q2, q3, q4, q5⟩ := G.out
  obtain ⟨hM, hQ, hw⟩ := chkG_zero hc
  have HA := Lib.hid ha.1
  have HB := Lib.hid hb.1
  have CK := Lib.hid (fun W => (show Calls Tryz.prog 14 #[.agg #[.string M, .string Q]] W fun e w' => e = .returned (.int .i64 0) ∧ Below W.heap.size W w' by rw [← hc]; exact r13chk_any M Q W))
  have EA := Lib.hid (fun W => r13elt_t M Q a W hs hc ha)
  have EB := Lib.hid (fun W => r13elt_t M Q b W hs hc hb)
  have CM := Lib.hid (fun W => rmul_m a b M W ha.1 hb.1 hM (wfG_size hM hw) (by omega))
  clear ha hb hc hM hQ hw hs
  go_enter Tryz.func18, Tryz.ntmps18
  go_wp2_with fail
  refine (rvalid_yes a _ HA.out).mono ?_; rintro e wx ⟨rfl, rfl⟩
  go_wp2_with fail
  refine (rvalid_yes b _ HB.out).mono ?_; rintro e wx ⟨rfl, rfl⟩
  go_wp2_with fail
  refine (CK.out _).mono ?_; rintro e w1 ⟨rfl, b1⟩
  have K := Lib.hid (belP K.out b1)
  have G := Lib.hid (G.out.below b1 rfl)
  clear b1 q1 q2 q3 q4 q5
  obtain ⟨q1, q2, q3, q4, q5⟩ := G.out
  go_wp2_with fail
  refine (EA.out _).mono ?_; rintro e w2 ⟨rfl, b2⟩
  have K := Lib.hid (belP K.out b2)
  have G := Lib.hid (G.out.below b2 rfl)
  clear b2 q1 q2 q3 q4 q5
  obtain ⟨q1, q2, q3, q4, q5⟩ := G.out
  go_wp2_with fail
  refine (EB.out _).mono ?_; rintro e w3 ⟨rfl, b3⟩
  have K := Lib.hid (belP K.out b3)
  have G := Lib.hid (G.out.below b3 rfl)
  clear b3 q1 q2 q3 q4 q5
  obtain ⟨q1, q2, q3, q4, q5⟩ := G.out
  go_wp2_with fail
  refine (CM.out _).mono ?_; rintro e w4 ⟨rfl, b4⟩
  have K := Lib.hid (belP K.out b4)
  have G := Lib.hid (G.out.below b4 rfl)
  clear b4 q1 q2 q3 q4 q5
  obtain ⟨q1, q2, q3, q4, q5⟩ := G.out
  go_wp2
  go_ret2
  exact ⟨rfl, K.out⟩
set_option maxHeartbeats 2000000 in
set_option maxRecDepth 20000 in
theorem r13mul_no1 (M Q a b : ByteArray) (w : World) (hs : M.size ≤ 60) (hc : chkG M Q = 0) (ca : Can a) (cb : Can b) (ha : ¬ EltG M Q a) :
    Calls Tryz.prog 18 #[.agg #[.string M, .string Q], .string a, .string b] w fun e w' => e = .returned (.tuple #[.string ⟨#[]⟩, .int .i64 13]) ∧ Below w.heap.size w w' := by
  have G := Lib.hid (Two.new w (.string M) (.string Q) 24 _ rfl)
  have K := Lib.hid (belA w (.cells #[.string M, .string Q] 24))
  obtain ⟨q1, q2, q3, q4, q5⟩ := G.out
  have HA := Lib.hid ca
  have HB := Lib.hid cb
  have CK := Lib.hid (fun W => (show Calls Tryz.prog 14 #[.agg #[.string M, .string Q]] W fun e w' => e = .returned (.int .i64 0) ∧ Below W.heap.size W w' by rw [← hc]; exact r13chk_any M Q W))
  have EA := Lib.hid (fun W => r13elt_f M Q a W hs hc ca ha)
  clear ha hc ca cb hs
  go_enter Tryz.func18, Tryz.ntmps18
  go_wp2_with fail
  refine (rvalid_yes a _ HA.out).mono ?_; rintro e wx ⟨rfl, rfl⟩
  go_wp2_with fail
  refine (rvalid_yes b _ HB.out).mono ?_; rintro e wx ⟨rfl, rfl⟩
  go_wp2_with fail
  refine (CK.out _).mono ?_; rintro e w1 ⟨rfl, b1⟩
  have K := Lib.hid (belP K.out b1)
  have G := Lib.hid (G.out.below b1 rfl)
  clear b1 q1 q2 q3 q4 q5
  obtain ⟨q1, q2, q3, q4, q5⟩ := G.out
  go_wp2_with fail
  refine (EA.out _).mono ?_; rintro e w2 ⟨rfl, b2⟩
  have K := Lib.hid (belP K.out b2)
  have G := Lib.hid (G.out.below b2 rfl)
  clear b2 q1 q2 q3 q4 q5
  obtain ⟨q1, q2, q3, q4, q5⟩ := G.out
  go_wp2
  go_ret2
  exact ⟨rfl, K.out⟩
set_option maxHeartbeats 2000000 in
set_option maxRecDepth 20000 in
theorem r13mul_no2 (M Q a b : ByteArray) (w : World) (hs : M.size ≤ 60) (hc : chkG M Q = 0) (ha : EltG M Q a) (cb : Can b) (hb : ¬ EltG M Q b) :
    Calls Tryz.prog 18 #[.agg #[.string M, .string Q], .string a, .string b] w fun e w' => e = .returned (.tuple #[.string ⟨#[]⟩, .int .i64 13]) ∧ Below w.heap.size w w' := by
  have G := Lib.hid (Two.new w (.string M) (.string Q) 24 _ rfl)
  have K := Lib.hid (belA w (.cells #[.string M, .string Q] 24))
  obtain ⟨q1, q2, q3, q4, q5⟩ := G.out
  have ca := ha.1
  have HA := Lib.hid ca
  have HB := Lib.hid cb
  have CK := Lib.hid (fun W => (show Calls Tryz.prog 14 #[.agg #[.string M, .string Q]] W fun e w' => e = .returned (.int .i64 0) ∧ Below W.heap.size W w' by rw [← hc]; exact r13chk_any M Q W))
  have EA := Lib.hid (fun W => r13elt_t M Q a W hs hc ha)
  have EB := Lib.hid (fun W => r13elt_f M Q b W hs hc cb hb)
  clear ha hb hc ca cb hs
  go_enter Tryz.func18, Tryz.ntmps18
  go_wp2_with fail
  refine (rvalid_yes a _ HA.out).mono ?_; rintro e wx ⟨rfl, rfl⟩
  go_wp2_with fail
  refine (rvalid_yes b _ HB.out).mono ?_; rintro e wx ⟨rfl, rfl⟩
  go_wp2_with fail
  refine (CK.out _).mono ?_; rintro e w1 ⟨rfl, b1⟩
  have K := Lib.hid (belP K.out b1)
  have G := Lib.hid (G.out.below b1 rfl)
  clear b1 q1 q2 q3 q4 q5
  obtain ⟨q1, q2, q3, q4, q5⟩ := G.out
  go_wp2_with fail
  refine (EA.out _).mono ?_; rintro e w2 ⟨rfl, b2⟩
  have K := Lib.hid (belP K.out b2)
  have G := Lib.hid (G.out.below b2 rfl)
  clear b2 q1 q2 q3 q4 q5
  obtain ⟨q1, q2, q3, q4, q5⟩ := G.out
  go_wp2_with fail
  refine (EB.out _).mono ?_; rintro e w3 ⟨rfl, b3⟩
  have K := Lib.hid (belP K.out b3)
  have G := Lib.hid (G.out.below b3 rfl)
  clear b3 q1 q2 q3 q4 q5
  obtain ⟨q1, q2, q3, q4, q5⟩ := G.out
  go_wp2
  go_ret2
  exact ⟨rfl, K.out⟩
theorem r13mul_any (M Q a b : ByteArray) (w : World) (hs : M.size ≤ 60) :
    Calls Tryz.prog 18 #[.agg #[.string M, .string Q], .string a, .string b] w fun e w' => e = .returned (.tuple #[.string (mulG M Q a b).1, .int .i64 (mulG M Q a b).2]) ∧ Below w.heap.size w w' := by
  by_cases hc : chkNs M Q 2 (fun j => if j = 0 then a else b) = 0
  · obtain ⟨hl, hg⟩ := chkNs_zero hc
    have hab := canL2.1 hl
    by_cases he : EltG M Q a ∧ EltG M Q b
    · have := r13mul_yes M Q a b w hs hg he.1 he.2
      rwa [show mulG M Q a b = (E (V a * V b % V M), 0) by unfold mulG; rw [if_pos hc, if_pos he]]
    · rw [show mulG M Q a b = (⟨#[]⟩, 13) by unfold mulG; rw [if_pos hc, if_neg he]]
      by_cases ha : EltG M Q a
      · exact r13mul_no2 M Q a b w hs hg ha hab.2 (fun q => he ⟨ha, q⟩)
      · exact r13mul_no1 M Q a b w hs hg hab.1 hab.2 ha
  · rw [show mulG M Q a b = (⟨#[]⟩, chkNs M Q 2 (fun j => if j = 0 then a else b)) by unfold mulG; rw [if_neg hc]]
    by_cases hab : Can a ∧ Can b
    · have e := chkNs_ok (M := M) (Q := Q) (canL2.2 hab)
      rw [e] at hc ⊢
      exact r13mul_err M Q a b w hab.1 hab.2 _ rfl (by simpa using hc)
    · rw [chkNs_form (M := M) (Q := Q) (fun q => hab (canL2.1 q))]
      exact r13mul_form M Q a b w hab
/-! ### raw, Exp -/
theorem rinv_N (a m : ByteArray) (w : World) (ha : Can a) (hm : Can m) (h0 : 0 < m.size) (h60 : m.size ≤ 60) (hg : Nat.gcd (V a % V m) (V m) = 1) :
    Calls Tryz.prog 107 #[.string a, .string m] w fun e w' => e = .returned (.tuple #[.string (E (invN (V a) (V m))), .int .i64 0]) ∧ Below w.heap.size w w' := by
  refine (rinv_yes a m w ha hm h0 h60 hg).mono ?_
  rintro e w' ⟨⟨x, rfl, h1, h2⟩, hb⟩
  rw [invN_eq h1 h2]
  exact ⟨rfl, hb⟩
theorem gcd_of_unit {a m : Nat} (h : UnitN m a) : Nat.gcd (a % m) m = 1 := by
  obtain ⟨y, -, h2⟩ := h
  have := gcd_of_inv (a := y) (x := a) (m := m) (by rw [Nat.mul_comm]; exact h2)
  exact this
theorem rpower_N (M x : ByteArray) (ng : Bool) (s : ByteArray) (w : World) (hs : M.size ≤ 60) (hM : Can M) (hm0 : 0 < M.size) (hx : Can x) (hu : UnitN (V M) (V x)) (hi : IVal ng s) :
    Calls Tryz.prog 86 #[.string x, .agg #[.bool ng, .string s], .string M] w fun e w' => e = .returned (.tuple #[.string (E (pwN (V M) (V x) (IZ ng s))), .int .i64 0]) ∧ Below w.heap.size w w' := by
  cases ng with
  | false =>
    have := rpower_pos x s M w hx hi hi.1 hM hm0 (by omega)
    unfold IZ
    rwa [sg_f, pwN_nat]
  | true =>
    have h0 : 0 < V s := (size_posV hi.1).2 (hi.2 rfl)
    have cx : Can (E (invN (V x) (V M))) := can_E' (Nat.lt_trans (invN_spec hu).1 (V_lim hM))
    have := rpower_neg x s M _ w hx hi hi.1 hM hm0 (by omega) cx (fun w => rinv_N x M w hx hM hm0 hs (gcd_of_unit hu))
    rw [V_E] at this
    unfold IZ
    rwa [sg_t, pwN_neg _ _ _ h0]
set_option maxHeartbeats 2000000 in
set_option maxRecDepth 20000 in
theorem r13raw_yes (M Q x : ByteArray) (ng : Bool) (s : ByteArray) (w : World) (hs : M.size ≤ 60) (hg : chkG M Q = 0) (he : EltG M Q x) (hi : IVal ng s) :
    Calls Tryz.prog 50 #[.agg #[.string M, .string Q], .string x, .agg #[.bool ng, .string s]] w fun e w' => e = .returned (.string (E (pwN (V M) (V x) (IZ ng s)))) ∧ Below w.heap.size w w' := by
  obtain ⟨hM, hQ, hw⟩ := chkG_zero hg
  have CP := Lib.hid (fun W => rpower_N M x ng s W hs hM (wfG_size hM hw) he.1 (he.unit hM hw) hi)
  generalize E (pwN (V M) (V x) (IZ ng s)) = y at *
  have K := Lib.hid (belP (belA w (.cells #[.string M, .string Q] 24)) (belA _ (.cells #[.bool ng, .string s] 37)))
  have A := Lib.hid ((Two.new w (.string M) (.string Q) 24 _ rfl).alloc (.cells #[.bool ng, .string s] 37))
  have B := Lib.hid (Two.new (w.alloc (.cells #[.string M, .string Q] 24)) (.bool ng) (.string s) 37 (w.heap.size + 1) (by simp))
  obtain ⟨A1, A2, A3, A4, A5⟩ := A.out
  obtain ⟨B1, B2, B3, B4, B5⟩ := B.out
  clear hs hg he hi hM hQ hw
  go_enter Tryz.func50, Tryz.ntmps50
  go_wp2_with fail
  refine (CP.out _).mono ?_; rintro e w1 ⟨rfl, b1⟩
  have K := Lib.hid (belP K.out b1)
  have A := Lib.hid (A.out.below b1 rfl)
  have B := Lib.hid (B.out.below b1 rfl)
  clear b1 A1 A2 A3 A4 A5 B1 B2 B3 B4 B5
  obtain ⟨A1, A2, A3, A4, A5⟩ := A.out
  obtain ⟨B1, B2, B3, B4, B5⟩ := B.out
  go_wp2
  go_ret
  exact ⟨rfl, K.out⟩
set_option maxHeartbeats 2000000 in
set_option maxRecDepth 20000 in
theorem r13exp_f1 (M Q x : ByteArray) (ng : Bool) (s : ByteArray) (w : World) (hx : ¬ Can x) :
    Calls Tryz.prog 20 #[.agg #[.string M, .string Q], .string x, .agg #[.bool ng, .string s]] w fun e w' => e = .returned (.tuple #[.string ⟨#[]⟩, .int .i64 3]) ∧ Below w.heap.size w w' := by
  have K := Lib.hid (belP (belA w (.cells #[.string M, .string Q] 24)) (belA _ (.cells #[.bool ng, .string s] 37)))
  have A := Lib.hid ((Two.new w (.string M) (.string Q) 24 _ rfl).alloc (.cells #[.bool ng, .string s] 37))
  have B := Lib.hid (Two.new (w.alloc (.cells #[.string M, .string Q] 24)) (.bool ng) (.string s) 37 (w.heap.size + 1) (by simp))
  obtain ⟨A1, A2, A3, A4, A5⟩ := A.out
  obtain ⟨B1, B2, B3, B4, B5⟩ := B.out
  have HX := Lib.hid hx
  clear hx
  go_enter Tryz.func20, Tryz.ntmps20
  go_wp2_with fail
  refine (rvalid_no x _ HX.out).mono ?_; rintro e wx ⟨rfl, rfl⟩
  go_wp2
  go_ret2
  exact ⟨rfl, K.out⟩
set_option maxHeartbeats 2000000 in
set_option maxRecDepth 20000 in
theorem r13exp_f2 (M Q x : ByteArray) (ng : Bool) (s : ByteArray) (w : World) (hx : Can x) (hi : ¬ IVal ng s) :
    Calls Tryz.prog 20 #[.agg #[.string M, .string Q], .string x, .agg #[.bool ng, .string s]] w fun e w' => e = .returned (.tuple #[.string ⟨#[]⟩, .int .i64 3]) ∧ Below w.heap.size w w' := by
  have K := Lib.hid (belP (belA w (.cells #[.string M, .string Q] 24)) (belA _ (.cells #[.bool ng, .string s] 37)))
  have A := Lib.hid ((Two.new w (.string M) (.string Q) 24 _ rfl).alloc (.cells #[.bool ng, .string s] 37))
  have B := Lib.hid (Two.new (w.alloc (.cells #[.string M, .string Q] 24)) (.bool ng) (.string s) 37 (w.heap.size + 1) (by simp))
  obtain ⟨A1, A2, A3, A4, A5⟩ := A.out
  obtain ⟨B1, B2, B3, B4, B5⟩ := B.out
  have HX := Lib.hid hx
  have HI := Lib.hid hi
  clear hx hi
  go_enter Tryz.func20, Tryz.ntmps20
  go_wp2_with fail
  refine (rvalid_yes x _ HX.out).mono ?_; rintro e wx ⟨rfl, rfl⟩
  go_wp2_with fail
  refine (rivalid_f ng s _ HI.out).mono ?_; rintro e w1 ⟨rfl, b1⟩
  have K := Lib.hid (belP K.out b1)
  have A := Lib.hid (A.out.below b1 rfl)
  have B := Lib.hid (B.out.below b1 rfl)
  clear b1 A1 A2 A3 A4 A5 B1 B2 B3 B4 B5
  obtain ⟨A1, A2, A3, A4, A5⟩ := A.out
  obtain ⟨B1, B2, B3, B4, B5⟩ := B.out
  go_wp2
  go_ret2
  exact ⟨rfl, K.out⟩
set_option maxHeartbeats 2000000 in
set_option maxRecDepth 20000 in
theorem r13exp_err (M Q x : ByteArray) (ng : Bool) (s : ByteArray) (w : World) (hx : Can x) (hi : IVal ng s) (c : Int) (hc : chkG M Q = c) (h0 : (c != 0) = true) :
    Calls Tryz.prog 20 #[.agg #[.string M, .string Q], .string x, .agg #[.bool ng, .string s]] w fun e w' => e = .returned (.tuple #[.string ⟨#[]⟩, .int .i64 c]) ∧ Below w.heap.size w w' := by
  have K := Lib.hid (belP (belA w (.cells #[.string M, .string Q] 24)) (belA _ (.cells #[.bool ng, .string s] 37)))
  have A := Lib.hid ((Two.new w (.string M) (.string Q) 24 _ rfl).alloc (.cells #[.bool ng, .string s] 37))
  have B := Lib.hid (Two.new (w.alloc (.cells #[.string M, .string Q] 24)) (.bool ng) (.string s) 37 (w.heap.size + 1) (by simp))
  obtain ⟨A1, A2, A3, A4, A5⟩ := A.out
  obtain ⟨B1, B2, B3, B4, B5⟩ := B.out
  have HX := Lib.hid hx
  have HI := Lib.hid hi
  have CK := Lib.hid (fun W => (show Calls Tryz.prog 14 #[.agg #[.string M, .string Q]] W fun e w' => e = .returned (.int .i64 c) ∧ Below W.heap.size W w' by rw [← hc]; exact r13chk_any M Q W))
  clear hx hi hc
  go_enter Tryz.func20, Tryz.ntmps20
  go_wp2_with fail
  refine (rvalid_yes x _ HX.out).mono ?_; rintro e wx ⟨rfl, rfl⟩
  go_wp2_with fail
  refine (rivalid_t ng s _ HI.out).mono ?_; rintro e w1 ⟨rfl, b1⟩
  have K := Lib.hid (belP K.out b1)
  have A := Lib.hid (A.out.below b1 rfl)
  have B := Lib.hid (B.out.below b1 rfl)
  clear b1 A1 A2 A3 A4 A5 B1 B2 B3 B4 B5
  obtain ⟨A1, A2, A3, A4, A5⟩ := A.out
  obtain ⟨B1, B2, B3, B4, B5⟩ := B.out
  go_wp2_with fail
  refine (CK.out _).mono ?_; rintro e w2 ⟨rfl, b2⟩
  have K := Lib.hid (belP K.out b2)
  have A := Lib.hid (A.out.below b2 rfl)
  have B := Lib.hid (B.out.below b2 rfl)
  clear b2 A1 A2 A3 A4 A5 B1 B2 B3 B4 B5
  obtain ⟨A1, A2, A3, A4, A5⟩ := A.out
  obtain ⟨B1, B2, B3, B4, B5⟩ := B.out
  go_wp2
  go_ret2
  exact ⟨rfl, K.out⟩
set_option maxHeartbeats 2000000 in
set_option maxRecDepth 20000 in
theorem r13exp_no (M Q x : ByteArray) (ng : Bool) (s : ByteArray) (w : World) (hs : M.size ≤ 60) (hx : Can x) (hi : IVal ng s) (hc : chkG M Q = 0) (he : ¬ EltG M Q x) :
    Calls Tryz.prog 20 #[.agg #[.string M, .string Q], .string x, .agg #[.bool ng, .string s]] w fun e w' => e = .returned (.tuple #[.string ⟨#[]⟩, .int .i64 13]) ∧ Below w.heap.size w w' := by
  have K := Lib.hid (belP (belA w (.cells #[.string M, .string Q] 24)) (belA _ (.cells #[.bool ng, .string s] 37)))
  have A := Lib.hid ((Two.new w (.string M) (.string Q) 24 _ rfl).alloc (.cells #[.bool ng, .string s] 37))
  have B := Lib.hid (Two.new (w.alloc (.cells #[.string M, .string Q] 24)) (.bool ng) (.string s) 37 (w.heap.size + 1) (by simp))
  obtain ⟨A1, A2, A3, A4, A5⟩ := A.out
  obtain ⟨B1, B2, B3, B4, B5⟩ := B.out
  have HX := Lib.hid hx
  have HI := Lib.hid hi
  have CK := Lib.hid (fun W => (show Calls Tryz.prog 14 #[.agg #[.string M, .string Q]] W fun e w' => e = .returned (.int .i64 0) ∧ Below W.heap.size W w' by rw [← hc]; exact r13chk_any M Q W))
  have CE := Lib.hid (fun W => r13elt_f M Q x W hs hc hx he)
  clear hx hi hc he hs
  go_enter Tryz.func20, Tryz.ntmps20
  go_wp2_with fail
  refine (rvalid_yes x _ HX.out).mono ?_; rintro e wx ⟨rfl, rfl⟩
  go_wp2_with fail
  refine (rivalid_t ng s _ HI.out).mono ?_; rintro e w1 ⟨rfl, b1⟩
  have K := Lib.hid (belP K.out b1)
  have A := Lib.hid (A.out.below b1 rfl)
  have B := Lib.hid (B.out.below b1 rfl)
  clear b1 A1 A2 A3 A4 A5 B1 B2 B3 B4 B5
  obtain ⟨A1, A2, A3, A4, A5⟩ := A.out
  obtain ⟨B1, B2, B3, B4, B5⟩ := B.out
  go_wp2_with fail
  refine (CK.out _).mono ?_; rintro e w2 ⟨rfl, b2⟩
  have K := Lib.hid (belP K.out b2)
  have A := Lib.hid (A.out.below b2 rfl)
  have B := Lib.hid (B.out.below b2 rfl)
  clear b2 A1 A2 A3 A4 A5 B1 B2 B3 B4 B5
  obtain ⟨A1, A2, A3, A4, A5⟩ := A.out
  obtain ⟨B1, B2, B3, B4, B5⟩ := B.out
  go_wp2_with fail
  refine (CE.out _).mono ?_; rintro e w3 ⟨rfl, b3⟩
  have K := Lib.hid (belP K.out b3)
  have A := Lib.hid (A.out.below b3 rfl)
  have B := Lib.hid (B.out.below b3 rfl)
  clear b3 A1 A2 A3 A4 A5 B1 B2 B3 B4 B5
  obtain ⟨A1, A2, A3, A4, A5⟩ := A.out
  obtain ⟨B1, B2, B3, B4, B5⟩ := B.out
  go_wp2
  go_ret2
  exact ⟨rfl, K.out⟩
set_option maxHeartbeats 2000000 in
set_option maxRecDepth 20000 in
theorem r13exp_yes (M Q x : ByteArray) (ng : Bool) (s : ByteArray) (w : World) (hs : M.size ≤ 60) (hi : IVal ng s) (hc : chkG M Q = 0) (he : EltG M Q x) :
    Calls Tryz.prog 20 #[.agg #[.string M, .string Q], .string x, .agg #[.bool ng, .string s]] w fun e w' => e = .returned (.tuple #[.string (E (pwN (V M) (V x) (IZ ng s))), .int .i64 0]) ∧ Below w.heap.size w w' := by
  have K := Lib.hid (belP (belA w (.cells #[.string M, .string Q] 24)) (belA _ (.cells #[.bool ng, .string s] 37)))
  have A := Lib.hid ((Two.new w (.string M) (.string Q) 24 _ rfl).alloc (.cells #[.bool ng, .string s] 37))
  have B := Lib.hid (Two.new (w.alloc (.cells #[.string M, .string Q] 24)) (.bool ng) (.string s) 37 (w.heap.size + 1) (by simp))
  obtain ⟨A1, A2, A3, A4, A5⟩ := A.out
  obtain ⟨B1, B2, B3, B4, B5⟩ := B.out
  have hx := he.1
  have HX := Lib.hid hx
  have HI := Lib.hid hi
  have CK := Lib.hid (fun W => (show Calls Tryz.prog 14 #[.agg #[.string M, .string Q]] W fun e w' => e = .returned (.int .i64 0) ∧ Below W.heap.size W w' by rw [← hc]; exact r13chk_any M Q W))
  have CE := Lib.hid (fun W => r13elt_t M Q x W hs hc he)
  have CR := Lib.hid (fun W => r13raw_yes M Q x ng s W hs hc he hi)
  generalize E (pwN (V M) (V x) (IZ ng s)) = y at *
  clear hx hi hc he hs
  go_enter Tryz.func20, Tryz.ntmps20
  go_wp2_with fail
  refine (rvalid_yes x _ HX.out).mono ?_; rintro e wx ⟨rfl, rfl⟩
  go_wp2_with fail
  refine (rivalid_t ng s _ HI.out).mono ?_; rintro e w1 ⟨rfl, b1⟩
  have K := Lib.hid (belP K.out b1)
  have A := Lib.hid (A.out.below b1 rfl)
  have B := Lib.hid (B.out.below b1 rfl)
  clear b1 A1 A2 A3 A4 A5 B1 B2 B3 B4 B5
  obtain ⟨A1, A2, A3, A4, A5⟩ := A.out
  obtain ⟨B1, B2, B3, B4, B5⟩ := B.out
  go_wp2_with fail
  refine (CK.out _).mono ?_; rintro e w2 ⟨rfl, b2⟩
  have K := Lib.hid (belP K.out b2)
  have A := Lib.hid (A.out.below b2 rfl)
  have B := Lib.hid (B.out.below b2 rfl)
  clear b2 A1 A2 A3 A4 A5 B1 B2 B3 B4 B5
  obtain ⟨A1, A2, A3, A4, A5⟩ := A.out
  obtain ⟨B1, B2, B3, B4, B5⟩ := B.out
  go_wp2_with fail
  refine (CE.out _).mono ?_; rintro e w3 ⟨rfl, b3⟩
  have K := Lib.hid (belP K.out b3)
  have A := Lib.hid (A.out.below b3 rfl)
  have B := Lib.hid (B.out.below b3 rfl)
  clear b3 A1 A2 A3 A4 A5 B1 B2 B3 B4 B5
  obtain ⟨A1, A2, A3, A4, A5⟩ := A.out
  obtain ⟨B1, B2, B3, B4, B5⟩ := B.out
  go_wp2_with fail
  refine (CR.out _).mono ?_; rintro e w4 ⟨rfl, b4⟩
  have K := Lib.hid (belP K.out b4)
  have A := Lib.hid (A.out.below b4 rfl)
  have B := Lib.hid (B.out.below b4 rfl)
  clear b4 A1 A2 A3 A4 A5 B1 B2 B3 B4 B5
  obtain ⟨A1, A2, A3, A4, A5⟩ := A.out
  obtain ⟨B1, B2, B3, B4, B5⟩ := B.out
  go_wp2
  go_ret2
  exact ⟨rfl, K.out⟩
theorem r13exp_any (M Q x : ByteArray) (ng : Bool) (s : ByteArray) (w : World) (hs : M.size ≤ 60) :
    Calls Tryz.prog 20 #[.agg #[.string M, .string Q], .string x, .agg #[.bool ng, .string s]] w fun e w' => e = .returned (.tuple #[.string (expG M Q x ng s).1, .int .i64 (expG M Q x ng s).2]) ∧ Below w.heap.size w w' := by
  by_cases hi : IVal ng s
  · by_cases hc : chkNs M Q 1 (fun _ => x) = 0
    · obtain ⟨hl, hg⟩ := chkNs_zero hc
      by_cases he : EltG M Q x
      · have := r13exp_yes M Q x ng s w hs hi hg he
        rwa [show expG M Q x ng s = (E (pwN (V M) (V x) (IZ ng s)), 0) by unfold expG; rw [if_neg (fun q => q hi), if_pos hc, if_pos he]]
      · have := r13exp_no M Q x ng s w hs (canL1.1 hl) hi hg he
        rwa [show expG M Q x ng s = (⟨#[]⟩, 13) by unfold expG; rw [if_neg (fun q => q hi), if_pos hc, if_neg he]]
    · rw [show expG M Q x ng s = (⟨#[]⟩, chkNs M Q 1 (fun _ => x)) by unfold expG; rw [if_neg (fun q => q hi), if_neg hc]]
      by_cases hx : Can x
      · have e := chkNs_ok (M := M) (Q := Q) (canL1.2 hx)
        rw [e] at hc ⊢
        exact r13exp_err M Q x ng s w hx hi _ rfl (by simpa using hc)
      · rw [chkNs_form (M := M) (Q := Q) (fun q => hx (canL1.1 q))]
        exact r13exp_f1 M Q x ng s w hx
  · rw [show expG M Q x ng s = (⟨#[]⟩, 3) by unfold expG; rw [if_pos hi]]
    by_cases hx : Can x
    · exact r13exp_f2 M Q x ng s w hx hi
    · exact r13exp_f1 M Q x ng s w hx
end Go.Proofs.YtogmgfdihmacpaaGreatDoor
