/-
  Elements: rsagroup.Has; package power: check, isElement, Has, Mul.
-/
import Derived.Test.YtogmgfdihmacpaaGreatDoorPW2
namespace Go.Proofs.YtogmgfdihmacpaaGreatDoor
open Go.RowKit
set_option linter.unusedVariables false

/-- An element of a group of unknown order. -/
def EltU (M x : ByteArray) : Prop := 0 < V x ∧ V x < V M ∧ Nat.gcd (V x) (V M) = 1
set_option maxHeartbeats 1000000 in
set_option maxRecDepth 20000 in
theorem uhas_yes (M Q x : ByteArray) (w : World) (hG : GrU M Q) (hx : Can x) (h : EltU M x) :
    Calls Tryz.prog 72 #[.agg #[.string M, .string Q], .string x] w fun e w' => e = .returned (.bool true) ∧ Below w.heap.size w w' := by
  obtain ⟨h2, h3, h4⟩ := h
  have hM := hG.1
  have hE2 := not_empty_of ((size_posV hx).1 h2)
  have hsg : sgn (V x) (V M) = -1 := by unfold sgn; rw [if_pos h3]
  have CC := Lib.hid (fun W => (show Calls Tryz.prog 61 #[.string x, .string M] W fun e w' => e = .returned (.int .i64 (-1)) ∧ W = w' by rw [← hsg]; exact cmp_yes x M W hx hM))
  have CE := Lib.hid (fun W => (show Calls Tryz.prog 92 #[.string x, .string M] W fun e w' => e = .returned (.tuple #[.string (E 1), .int .i64 0]) ∧ Below W.heap.size W w' by rw [← h4]; exact gcd_yes x M W hx hM))
  have CI := Lib.hid (fun W => isgr_t M Q W hG.1 hG.2.1 hG.2.2)
  have HX := Lib.hid hx
  have G := Lib.hid (Two.new w (.string M) (.string Q) 24 _ rfl)
  have K := Lib.hid (belA w (.cells #[.string M, .string Q] 24))
  obtain ⟨q1, q2, q3, q4, q5⟩ := G.out
  clear hM hx h2 h3 h4 hsg hG
  go_enter Tryz.func72, Tryz.ntmps72
  go_wp2_with fail
  refine (CI.out _).mono ?_; rintro e w1 ⟨rfl, b1⟩
  have K := Lib.hid (belP K.out b1)
  have G := Lib.hid (G.out.below b1 rfl)
  clear b1 q1 q2 q3 q4 q5
  obtain ⟨q1, q2, q3, q4, q5⟩ := G.out
  go_wp2_with fail
  refine (valid_yes x _ HX.out).mono ?_; rintro e wx ⟨rfl, rfl⟩
  go_wp2_with fail
  refine (CC.out _).mono ?_; rintro e wx ⟨rfl, rfl⟩
  go_wp2_with fail
  refine (CE.out _).mono ?_; rintro e w2 ⟨rfl, b2⟩
  have K := Lib.hid (belP K.out b2)
  have G := Lib.hid (G.out.below b2 rfl)
  clear b2 q1 q2 q3 q4 q5
  obtain ⟨q1, q2, q3, q4, q5⟩ := G.out
  go_wp2_with fail
  refine (of_any 1 _ (by omega)).mono ?_; rintro e w3 ⟨rfl, b3⟩
  have K := Lib.hid (belP K.out b3)
  have G := Lib.hid (G.out.below b3 rfl)
  clear b3 q1 q2 q3 q4 q5
  obtain ⟨q1, q2, q3, q4, q5⟩ := G.out
  go_wp2
  go_ret
  exact ⟨rfl, K.out⟩
set_option maxHeartbeats 1000000 in
set_option maxRecDepth 20000 in
theorem uhas_no (M Q x : ByteArray) (w : World) (h : ¬ (GrU M Q ∧ Can x ∧ EltU M x)) :
    Calls Tryz.prog 72 #[.agg #[.string M, .string Q], .string x] w fun e w' => e = .returned (.bool false) ∧ Below w.heap.size w w' := by
  have G := Lib.hid (Two.new w (.string M) (.string Q) 24 _ rfl)
  have K := Lib.hid (belA w (.cells #[.string M, .string Q] 24))
  obtain ⟨q1, q2, q3, q4, q5⟩ := G.out
  by_cases hG : GrU M Q
  · have hM := hG.1
    have CI := Lib.hid (fun W => isgr_t M Q W hG.1 hG.2.1 hG.2.2)
    by_cases hx : Can x
    · have HX := Lib.hid hx
      by_cases h2 : x.size = 0
      · have hE2 := empty_of h2
        clear hM hx h2 h hG
        go_enter Tryz.func72, Tryz.ntmps72
        go_wp2_with fail
        refine (CI.out _).mono ?_; rintro e w1 ⟨rfl, b1⟩
        have K := Lib.hid (belP K.out b1)
        have G := Lib.hid (G.out.below b1 rfl)
        clear b1 q1 q2 q3 q4 q5
        obtain ⟨q1, q2, q3, q4, q5⟩ := G.out
        go_wp2_with fail
        refine (valid_yes x _ HX.out).mono ?_; rintro e wx ⟨rfl, rfl⟩
        go_wp2
        go_ret
        exact ⟨rfl, K.out⟩
      · have hE2 := not_empty_of h2
        by_cases h3 : V x < V M
        · have hsg : sgn (V x) (V M) = -1 := by unfold sgn; rw [if_pos h3]
          have CC := Lib.hid (fun W => (show Calls Tryz.prog 61 #[.string x, .string M] W fun e w' => e = .returned (.int .i64 (-1)) ∧ W = w' by rw [← hsg]; exact cmp_yes x M W hx hM))
          obtain ⟨n, hn⟩ : ∃ n, n = Nat.gcd (V x) (V M) := ⟨_, rfl⟩
          have CE := Lib.hid (fun W => (show Calls Tryz.prog 92 #[.string x, .string M] W fun e w' => e = .returned (.tuple #[.string (E n), .int .i64 0]) ∧ Below W.heap.size W w' by rw [hn]; exact gcd_yes x M W hx hM))
          have hbe := E_bne (n := n) (m := 1) (by rw [hn]; exact fun q => h ⟨hG, hx, (size_posV hx).2 h2, h3, q⟩)
          clear hM hx h2 h3 hsg h hn hG
          go_enter Tryz.func72, Tryz.ntmps72
          go_wp2_with fail
          refine (CI.out _).mono ?_; rintro e w1 ⟨rfl, b1⟩
          have K := Lib.hid (belP K.out b1)
          have G := Lib.hid (G.out.below b1 rfl)
          clear b1 q1 q2 q3 q4 q5
          obtain ⟨q1, q2, q3, q4, q5⟩ := G.out
          go_wp2_with fail
          refine (valid_yes x _ HX.out).mono ?_; rintro e wx ⟨rfl, rfl⟩
          go_wp2_with fail
          refine (CC.out _).mono ?_; rintro e wx ⟨rfl, rfl⟩
          go_wp2_with fail
          refine (CE.out _).mono ?_; rintro e w2 ⟨rfl, b2⟩
          have K := Lib.hid (belP K.out b2)
          have G := Lib.hid (G.out.below b2 rfl)
          clear b2 q1 q2 q3 q4 q5
          obtain ⟨q1, q2, q3, q4, q5⟩ := G.out
          go_wp2_with fail
          refine (of_any 1 _ (by omega)).mono ?_; rintro e w3 ⟨rfl, b3⟩
          have K := Lib.hid (belP K.out b3)
          have G := Lib.hid (G.out.below b3 rfl)
          clear b3 q1 q2 q3 q4 q5
          obtain ⟨q1, q2, q3, q4, q5⟩ := G.out
          go_wp2
          go_ret
          exact ⟨rfl, K.out⟩
        · have hsg : 0 ≤ sgn (V x) (V M) := by unfold sgn; rw [if_neg h3]; split <;> omega
          obtain ⟨y, hy⟩ : ∃ y, y = sgn (V x) (V M) := ⟨_, rfl⟩
          rw [← hy] at hsg
          have CC := Lib.hid (fun W => (show Calls Tryz.prog 61 #[.string x, .string M] W fun e w' => e = .returned (.int .i64 y) ∧ W = w' by rw [hy]; exact cmp_yes x M W hx hM))
          clear hM hx h2 h3 h hy hG
          go_enter Tryz.func72, Tryz.ntmps72
          go_wp2_with fail
          refine (CI.out _).mono ?_; rintro e w1 ⟨rfl, b1⟩
          have K := Lib.hid (belP K.out b1)
          have G := Lib.hid (G.out.below b1 rfl)
          clear b1 q1 q2 q3 q4 q5
          obtain ⟨q1, q2, q3, q4, q5⟩ := G.out
          go_wp2_with fail
          refine (valid_yes x _ HX.out).mono ?_; rintro e wx ⟨rfl, rfl⟩
          go_wp2_with fail
          refine (CC.out _).mono ?_; rintro e wx ⟨rfl, rfl⟩
          go_wp2
          go_ret
          exact ⟨rfl, K.out⟩
    · have HX := Lib.hid hx
      clear hM hx h hG
      go_enter Tryz.func72, Tryz.ntmps72
      go_wp2_with fail
      refine (CI.out _).mono ?_; rintro e w1 ⟨rfl, b1⟩
      have K := Lib.hid (belP K.out b1)
      have G := Lib.hid (G.out.below b1 rfl)
      clear b1 q1 q2 q3 q4 q5
      obtain ⟨q1, q2, q3, q4, q5⟩ := G.out
      go_wp2_with fail
      refine (valid_no x _ HX.out).mono ?_; rintro e wx ⟨rfl, rfl⟩
      go_wp2
      go_ret
      exact ⟨rfl, K.out⟩
  · have CI := Lib.hid (fun W => isgr_f M Q W hG)
    clear h hG
    go_enter Tryz.func72, Tryz.ntmps72
    go_wp2_with fail
    refine (CI.out _).mono ?_; rintro e w1 ⟨rfl, b1⟩
    have K := Lib.hid (belP K.out b1)
    have G := Lib.hid (G.out.below b1 rfl)
    clear b1 q1 q2 q3 q4 q5
    obtain ⟨q1, q2, q3, q4, q5⟩ := G.out
    go_wp2
    go_ret
    exact ⟨rfl, K.out⟩

/-- An element of a well-formed group. -/
def EltG (M Q x : ByteArray) : Prop := Can x ∧ ((Q.size = 0 ∧ EltU M x) ∨ EltK M Q x)
theorem EltG.lt {M Q x : ByteArray} (h : EltG M Q x) : V x < V M := by
  rcases h.2 with h | h
  · exact h.2.2.1
  · exact h.2.2.1
theorem EltG.pos {M Q x : ByteArray} (h : EltG M Q x) : 0 < V x := by
  rcases h.2 with h | h
  · exact h.2.1
  · exact h.2.1
/-- isElement: which of the two it asks. -/
theorem iselt_core (M Q x : ByteArray) (b : Bool) (w : World) 
    (h0 : Q.size = 0 → ∀ w, Calls Tryz.prog 72 #[.agg #[.string M, .string Q], .string x] w fun e w' => e = .returned (.bool b) ∧ Below w.heap.size w w')
    (h1 : Q.size ≠ 0 → ∀ w, Calls Tryz.prog 73 #[.agg #[.string M, .string Q], .string x] w fun e w' => e = .returned (.bool b) ∧ Below w.heap.size w w') :
    Calls Tryz.prog 42 #[.agg #[.string M, .string Q], .string x] w fun e w' => e = .returned (.bool b) ∧ Below w.heap.size w w' := by
  have G := Lib.hid (Two.new w (.string M) (.string Q) 24 _ rfl)
  have K := Lib.hid (belA w (.cells #[.string M, .string Q] 24))
  obtain ⟨q1, q2, q3, q4, q5⟩ := G.out
  by_cases hQ : Q.size = 0
  · have H := Lib.hid (h0 hQ)
    have hE := empty_of hQ
    clear h0 h1 hQ
    go_enter Tryz.func42, Tryz.ntmps42
    go_wp2_with fail
    refine (H.out _).mono ?_; rintro e w1 ⟨rfl, b1⟩
    have K := Lib.hid (belP K.out b1)
    have G := Lib.hid (G.out.below b1 rfl)
    clear b1 q1 q2 q3 q4 q5
    obtain ⟨q1, q2, q3, q4, q5⟩ := G.out
    go_wp2
    go_ret
    exact ⟨rfl, K.out⟩
  · have H := Lib.hid (h1 hQ)
    have hE := not_empty_of hQ
    clear h0 h1 hQ
    go_enter Tryz.func42, Tryz.ntmps42
    go_wp2_with fail
    refine (H.out _).mono ?_; rintro e w1 ⟨rfl, b1⟩
    have K := Lib.hid (belP K.out b1)
    have G := Lib.hid (G.out.below b1 rfl)
    clear b1 q1 q2 q3 q4 q5
    obtain ⟨q1, q2, q3, q4, q5⟩ := G.out
    go_wp2
    go_ret
    exact ⟨rfl, K.out⟩
theorem wfG_u {M Q : ByteArray} (h : WfG M Q) (h0 : Q.size = 0) : FormU M := by
  rcases h with h | h
  · exact h.2
  · exact absurd h0 h.1
theorem wfG_k {M Q : ByteArray} (h : WfG M Q) (h0 : Q.size ≠ 0) : FormK M Q := by
  rcases h with h | h
  · exact absurd h.1 h0
  · exact h.2
theorem iselt_t (M Q x : ByteArray) (w : World) (hg : chkG M Q = 0) (h : EltG M Q x) :
    Calls Tryz.prog 42 #[.agg #[.string M, .string Q], .string x] w fun e w' => e = .returned (.bool true) ∧ Below w.heap.size w w' := by
  obtain ⟨hM, hQ, hw⟩ := chkG_zero hg
  refine iselt_core M Q x true w (fun h0 w => ?_) (fun h0 w => ?_)
  · refine uhas_yes M Q x w ⟨hM, h0, wfG_u hw h0⟩ h.1 ?_
    rcases h.2 with h | h
    · exact h.2
    · exact absurd h0 h.1
  · refine phas_yes M Q x w hM hQ h.1 ?_
    rcases h.2 with h | h
    · exact absurd h.1 h0
    · exact h
theorem iselt_f (M Q x : ByteArray) (w : World) (h : ¬ EltG M Q x) :
    Calls Tryz.prog 42 #[.agg #[.string M, .string Q], .string x] w fun e w' => e = .returned (.bool false) ∧ Below w.heap.size w w' := by
  refine iselt_core M Q x false w (fun h0 w => ?_) (fun h0 w => ?_)
  · exact uhas_no M Q x w (fun q => h ⟨q.2.1, .inl ⟨h0, q.2.2⟩⟩)
  · exact phas_no M Q x w (fun q => h ⟨q.1, .inr q.2.2.2⟩)

/-! ### power.check, Has, Mul -/
open Classical in
/-- The error of a group with numbers beside it. -/
noncomputable def chkNs (M Q : ByteArray) (k : Nat) (f : Nat → ByteArray) : Int := if CanL k f then chkG M Q else 3
theorem chkNs_ok {M Q : ByteArray} {k : Nat} {f : Nat → ByteArray} (h : CanL k f) : chkNs M Q k f = chkG M Q := by unfold chkNs; rw [if_pos h]
theorem chkNs_form {M Q : ByteArray} {k : Nat} {f : Nat → ByteArray} (h : ¬ CanL k f) : chkNs M Q k f = 3 := by unfold chkNs; rw [if_neg h]
/-- The error c is answered. -/
def ErrP (c : Int) (w : World) (e : Ending) (w' : World) : Prop := e = .returned (.int .i64 c) ∧ Below w.heap.size w w'
set_option maxHeartbeats 1000000 in
set_option maxRecDepth 20000 in
theorem pchkl_any (v : Value) (k : Nat) (f : Nat → ByteArray) (M Q : ByteArray) (w : World) (hv : SV w v k f) (hk : k ≤ 9223372036854775807) :
    Calls Tryz.prog 44 #[.agg #[.string M, .string Q], v] w fun e w' => ErrP (chkNs M Q k f) w e w' := by
  have hb := belA w (.cells #[.string M, .string Q] 24)
  have hv2 := hv.below hb
  obtain ⟨p, cap, rfl, hc⟩ := hv2
  have G := Lib.hid (Two.new w (.string M) (.string Q) 24 _ rfl)
  obtain ⟨q1, q2, q3, q4, q5⟩ := G.out
  have HC := Lib.hid hc; clear hc hv
  have K := Lib.hid hb; clear hb
  have HK := Lib.hid hk
  go_enter Tryz.func44, Tryz.ntmps44
  go_wp2
  generalize World.alloc w _ = W at *
  go_loop [9] (fun x => ∃ i : Nat, i ≤ k ∧ x = .int .i64 i ∧ Hid (∀ j, j < i → Can (f j))) (fun x => k - (intOf x).toNat)
  case atStart => exact ⟨0, by omega, rfl, fun j hj => absurd hj (by omega)⟩
  case round =>
    obtain ⟨i, hi, rfl, HI⟩ := hrel
    by_cases hlt : i < k
    · obtain ⟨a, rfl, ha, hcell⟩ := HC.out i hlt
      have hlti : (i : Int) < (k : Int) := by omega
      by_cases hcan : Can (f i)
      · have HN := Lib.hid (canL_up (k := k) HI.out hcan)
        have HCN := Lib.hid hcan; clear hcan
        go_wp2_with fail
        refine (valid_yes (f i) _ HCN.out).mono ?_; rintro e wx ⟨rfl, rfl⟩
        go_wp2
        go_round
        case rel => exact ⟨i + 1, by omega, by go_num, HN.out⟩
        case measure => simp [intOf]; omega
      · have HCN := Lib.hid hcan; clear hcan
        have HR := Lib.hid (chkNs_form (M := M) (Q := Q) (k := k) (f := f) (fun q => HCN.out (q i hlt)))
        go_wp2_with fail
        refine (valid_no (f i) _ HCN.out).mono ?_; rintro e wx ⟨rfl, rfl⟩
        go_wp2
        go_ret
        exact ⟨by rw [HR.out]; rfl, K.out⟩
    · obtain rfl : i = k := by omega
      have HR := Lib.hid (chkNs_ok (M := M) (Q := Q) HI.out)
      go_wp2_with fail
      refine (pgchk_any M Q _).mono ?_; rintro e w2 ⟨rfl, b2⟩
      have K := Lib.hid (belP K.out b2)
      have G := Lib.hid (G.out.below b2 rfl)
      clear b2 q1 q2 q3 q4 q5
      obtain ⟨q1, q2, q3, q4, q5⟩ := G.out
      go_wp2
      go_ret
      exact ⟨by rw [HR.out]; rfl, K.out⟩
/-- With one, with two numbers beside the group. -/
theorem pchk1 (M Q x : ByteArray) (W : World) (T : TypeId) (g : Nat) (hg : g = W.heap.size) (c : Int) (hc : chkNs M Q 1 (fun _ => x) = c) :
    Calls Tryz.prog 44 #[.agg #[.string M, .string Q], .slice (some ⟨g, 0, none⟩) 1 1] (W.alloc (.cells #[.string x] T)) fun e w' => e = .returned (.int .i64 c) ∧ Below (W.alloc (.cells #[.string x] T)).heap.size (W.alloc (.cells #[.string x] T)) w' := by
  subst hc hg
  exact pchkl_any _ 1 _ M Q _ (sv1_new W x T) (by omega)
theorem pchk2 (M Q a b : ByteArray) (W : World) (T : TypeId) (g : Nat) (hg : g = W.heap.size) (c : Int) (hc : chkNs M Q 2 (fun j => if j = 0 then a else b) = c) :
    Calls Tryz.prog 44 #[.agg #[.string M, .string Q], .slice (some ⟨g, 0, none⟩) 2 2] (W.alloc (.cells #[.string a, .string b] T)) fun e w' => e = .returned (.int .i64 c) ∧ Below (W.alloc (.cells #[.string a, .string b] T)).heap.size (W.alloc (.cells #[.string a, .string b] T)) w' := by
  subst hc hg
  exact pchkl_any _ 2 _ M Q _ (sv2_new W a b T) (by omega)

open Classical in
/-- Is it an element of a well-formed group? -/
noncomputable def hasB (M Q x : ByteArray) : Bool := decide (chkG M Q = 0 ∧ EltG M Q x)
open Classical in
theorem hasB_t {M Q x : ByteArray} (h : chkG M Q = 0 ∧ EltG M Q x) : hasB M Q x = true := by unfold hasB; exact decide_eq_true h
open Classical in
theorem hasB_f {M Q x : ByteArray} (h : ¬ (chkG M Q = 0 ∧ EltG M Q x)) : hasB M Q x = false := by unfold hasB; exact decide_eq_false h
set_option maxHeartbeats 1000000 in
set_option maxRecDepth 20000 in
theorem pwhas_any (M Q x : ByteArray) (w : World) :
    Calls Tryz.prog 15 #[.agg #[.string M, .string Q], .string x] w fun e w' => e = .returned (.bool (hasB M Q x)) ∧ Below w.heap.size w w' := by
  have G := Lib.hid (Two.new w (.string M) (.string Q) 24 _ rfl)
  have K := Lib.hid (belA w (.cells #[.string M, .string Q] 24))
  obtain ⟨q1, q2, q3, q4, q5⟩ := G.out
  obtain ⟨c, hc⟩ : ∃ c, c = chkG M Q := ⟨_, rfl⟩
  have CC := Lib.hid (fun W => (show Calls Tryz.prog 13 #[.agg #[.string M, .string Q]] W fun e w' => e = .returned (.int .i64 c) ∧ Below W.heap.size W w' by rw [hc]; exact pgchk_any M Q W))
  by_cases h0 : c = 0
  · subst h0
    obtain ⟨b, hb⟩ : ∃ b, b = hasB M Q x := ⟨_, rfl⟩
    have CE := Lib.hid (fun W => (show Calls Tryz.prog 42 #[.agg #[.string M, .string Q], .string x] W fun e w' => e = .returned (.bool b) ∧ Below W.heap.size W w' by
      by_cases he : EltG M Q x
      · rw [hb, hasB_t ⟨hc.symm, he⟩]; exact iselt_t M Q x W hc.symm he
      · rw [hb, hasB_f (M := M) (Q := Q) (x := x) (fun q => he q.2)]; exact iselt_f M Q x W he))
    rw [← hb]
    clear hc hb
    go_enter Tryz.func15, Tryz.ntmps15
    go_wp2_with fail
    refine (CC.out _).mono ?_; rintro e w1 ⟨rfl, b1⟩
    have K := Lib.hid (belP K.out b1)
    have G := Lib.hid (G.out.below b1 rfl)
    clear b1 q1 q2 q3 q4 q5
    obtain ⟨q1, q2, q3, q4, q5⟩ := G.out
    go_wp2_with fail
    refine (CE.out _).mono ?_; rintro e w2 ⟨rfl, b2⟩
    have K := Lib.hid (belP K.out b2)
    have G := Lib.hid (G.out.below b2 rfl)
    clear b2 q1 q2 q3 q4 q5
    obtain ⟨q1, q2, q3, q4, q5⟩ := G.out
    go_wp2
    go_ret
    exact ⟨rfl, K.out⟩
  · rw [hasB_f (M := M) (Q := Q) (x := x) (fun q => h0 (hc.trans q.1))]
    have hbq : (c == 0) = false := beq_eq_false_iff_ne.2 h0
    clear hc h0
    go_enter Tryz.func15, Tryz.ntmps15
    go_wp2_with fail
    refine (CC.out _).mono ?_; rintro e w1 ⟨rfl, b1⟩
    have K := Lib.hid (belP K.out b1)
    have G := Lib.hid (G.out.below b1 rfl)
    clear b1 q1 q2 q3 q4 q5
    obtain ⟨q1, q2, q3, q4, q5⟩ := G.out
    go_wp2
    go_ret
    exact ⟨rfl, K.out⟩
theorem wfG_pos {M Q : ByteArray} (h : WfG M Q) : 1 < V M := by
  rcases h with h | h
  · have := h.2.2; omega
  · exact h.2.1
theorem wfG_size {M Q : ByteArray} (hM : Can M) (h : WfG M Q) : 0 < M.size := by have := size_posV hM; have := wfG_pos h; omega
set_option maxHeartbeats 1000000 in
set_option maxRecDepth 20000 in
theorem pwmul_err (M Q a b : ByteArray) (c : Int) (w : World) (hc : chkNs M Q 2 (fun j => if j = 0 then a else b) = c) (h0 : (c != 0) = true) :
    Calls Tryz.prog 17 #[.agg #[.string M, .string Q], .string a, .string b] w fun e w' => e = .returned (.tuple #[.string ⟨#[]⟩, .int .i64 c]) ∧ Below w.heap.size w w' := by
  have CC := Lib.hid (fun W T g hgg => pchk2 M Q a b W T g hgg c hc)
  have G := Lib.hid (Two.new w (.string M) (.string Q) 24 _ rfl)
  obtain ⟨q1, q2, q3, q4, q5⟩ := G.out
  clear hc
  go_enter Tryz.func17, Tryz.ntmps17
  go_wp2_with fail
  refine (CC.out _ _ _ (by simp)).mono ?_; rintro e w1 ⟨rfl, b1⟩
  have G := Lib.hid (box_list b1).1
  have K := Lib.hid (box_list b1).2
  clear b1
  go_wp2
  go_ret2
  exact ⟨rfl, K.out⟩
set_option maxHeartbeats 1000000 in
set_option maxRecDepth 20000 in
theorem pwmul_yes (M Q a b : ByteArray) (w : World) (hg : chkG M Q = 0) (ha : EltG M Q a) (hb : EltG M Q b) :
    Calls Tryz.prog 17 #[.agg #[.string M, .string Q], .string a, .string b] w fun e w' => e = .returned (.tuple #[.string (E (V a * V b % V M)), .int .i64 0]) ∧ Below w.heap.size w w' := by
  obtain ⟨hM, hQ, hw⟩ := chkG_zero hg
  have CC := Lib.hid (fun W T g hgg => pchk2 M Q a b W T g hgg 0 ((chkNs_ok (canL2.2 ⟨ha.1, hb.1⟩)).trans hg))
  have CA := Lib.hid (fun W => iselt_t M Q a W hg ha)
  have CB := Lib.hid (fun W => iselt_t M Q b W hg hb)
  have CM := Lib.hid (fun W => mmul_ok a b M W ha.1 hb.1 hM (wfG_size hM hw))
  have G := Lib.hid (Two.new w (.string M) (.string Q) 24 _ rfl)
  obtain ⟨q1, q2, q3, q4, q5⟩ := G.out
  clear hM hQ hw hg ha hb
  go_enter Tryz.func17, Tryz.ntmps17
  go_wp2_with fail
  refine (CC.out _ _ _ (by simp)).mono ?_; rintro e w1 ⟨rfl, b1⟩
  have G := Lib.hid (box_list b1).1
  have K := Lib.hid (box_list b1).2
  clear b1 q1 q2 q3 q4 q5
  obtain ⟨q1, q2, q3, q4, q5⟩ := G.out
  go_wp2_with fail
  refine (CA.out _).mono ?_; rintro e w2 ⟨rfl, b2⟩
  have K := Lib.hid (belP K.out b2)
  have G := Lib.hid (G.out.below b2 rfl)
  clear b2 q1 q2 q3 q4 q5
  obtain ⟨q1, q2, q3, q4, q5⟩ := G.out
  go_wp2_with fail
  refine (CB.out _).mono ?_; rintro e w3 ⟨rfl, b3⟩
  have K := Lib.hid (belP K.out b3)
  have G := Lib.hid (G.out.below b3 rfl)
  clear b3 q1 q2 q3 q4 q5
  obtain ⟨q1, q2, q3, q4, q5⟩ := G.out
  go_wp2_with fail
  refine (CM.out _).mono ?_; rintro e w4 ⟨rfl, b4⟩
  have K := Lib.hid (belP K.out b4)
  have G := Lib.hid (G.out.below b4 rfl)
  clear b4 q1 q2 q3 q4 q5
  obtain ⟨q1, q2, q3, q4, q5⟩ := G.out
  go_wp2
  go_ret2
  exact ⟨rfl, K.out⟩
set_option maxHeartbeats 1000000 in
set_option maxRecDepth 20000 in
theorem pwmul_no (M Q a b : ByteArray) (w : World) (hg : chkG M Q = 0) (ca : Can a) (cb : Can b) (h : ¬ (EltG M Q a ∧ EltG M Q b)) :
    Calls Tryz.prog 17 #[.agg #[.string M, .string Q], .string a, .string b] w fun e w' => e = .returned (.tuple #[.string ⟨#[]⟩, .int .i64 13]) ∧ Below w.heap.size w w' := by
  have CC := Lib.hid (fun W T g hgg => pchk2 M Q a b W T g hgg 0 ((chkNs_ok (canL2.2 ⟨ca, cb⟩)).trans hg))
  have G := Lib.hid (Two.new w (.string M) (.string Q) 24 _ rfl)
  obtain ⟨q1, q2, q3, q4, q5⟩ := G.out
  by_cases ha : EltG M Q a
  · have CA := Lib.hid (fun W => iselt_t M Q a W hg ha)
    have CB := Lib.hid (fun W => iselt_f M Q b W (fun q => h ⟨ha, q⟩))
    clear ha hg ca cb h
    go_enter Tryz.func17, Tryz.ntmps17
    go_wp2_with fail
    refine (CC.out _ _ _ (by simp)).mono ?_; rintro e w1 ⟨rfl, b1⟩
    have G := Lib.hid (box_list b1).1
    have K := Lib.hid (box_list b1).2
    clear b1 q1 q2 q3 q4 q5
    obtain ⟨q1, q2, q3, q4, q5⟩ := G.out
    go_wp2_with fail
    refine (CA.out _).mono ?_; rintro e w2 ⟨rfl, b2⟩
    have K := Lib.hid (belP K.out b2)
    have G := Lib.hid (G.out.below b2 rfl)
    clear b2 q1 q2 q3 q4 q5
    obtain ⟨q1, q2, q3, q4, q5⟩ := G.out
    go_wp2_with fail
    refine (CB.out _).mono ?_; rintro e w3 ⟨rfl, b3⟩
    have K := Lib.hid (belP K.out b3)
    have G := Lib.hid (G.out.below b3 rfl)
    clear b3 q1 q2 q3 q4 q5
    obtain ⟨q1, q2, q3, q4, q5⟩ := G.out
    go_wp2
    go_ret2
    exact ⟨rfl, K.out⟩
  · have CA := Lib.hid (fun W => iselt_f M Q a W ha)
    clear ha hg ca cb h
    go_enter Tryz.func17, Tryz.ntmps17
    go_wp2_with fail
    refine (CC.out _ _ _ (by simp)).mono ?_; rintro e w1 ⟨rfl, b1⟩
    have G := Lib.hid (box_list b1).1
    have K := Lib.hid (box_list b1).2
    clear b1 q1 q2 q3 q4 q5
    obtain ⟨q1, q2, q3, q4, q5⟩ := G.out
    go_wp2_with fail
    refine (CA.out _).mono ?_; rintro e w2 ⟨rfl, b2⟩
    have K := Lib.hid (belP K.out b2)
    have G := Lib.hid (G.out.below b2 rfl)
    clear b2 q1 q2 q3 q4 q5
    obtain ⟨q1, q2, q3, q4, q5⟩ := G.out
    go_wp2
    go_ret2
    exact ⟨rfl, K.out⟩
open Classical in
/-- What Mul answers. -/
noncomputable def mulG (M Q a b : ByteArray) : ByteArray × Int :=
  if chkNs M Q 2 (fun j => if j = 0 then a else b) = 0 then (if EltG M Q a ∧ EltG M Q b then (E (V a * V b % V M), 0) else (⟨#[]⟩, 13)) else (⟨#[]⟩, chkNs M Q 2 (fun j => if j = 0 then a else b))
theorem chkNs_zero {M Q : ByteArray} {k : Nat} {f : Nat → ByteArray} (h : chkNs M Q k f = 0) : CanL k f ∧ chkG M Q = 0 := by
  unfold chkNs at h
  split at h
  · exact ⟨‹_›, h⟩
  · omega
theorem pwmul_any (M Q a b : ByteArray) (w : World) :
    Calls Tryz.prog 17 #[.agg #[.string M, .string Q], .string a, .string b] w fun e w' => e = .returned (.tuple #[.string (mulG M Q a b).1, .int .i64 (mulG M Q a b).2]) ∧ Below w.heap.size w w' := by
  by_cases hc : chkNs M Q 2 (fun j => if j = 0 then a else b) = 0
  · obtain ⟨hl, hg⟩ := chkNs_zero hc
    have hab := canL2.1 hl
    by_cases he : EltG M Q a ∧ EltG M Q b
    · have := pwmul_yes M Q a b w hg he.1 he.2
      rwa [show mulG M Q a b = (E (V a * V b % V M), 0) by unfold mulG; rw [if_pos hc, if_pos he]]
    · have := pwmul_no M Q a b w hg hab.1 hab.2 he
      rwa [show mulG M Q a b = (⟨#[]⟩, 13) by unfold mulG; rw [if_pos hc, if_neg he]]
  · have := pwmul_err M Q a b _ w rfl (by simpa using hc)
    rwa [show mulG M Q a b = (⟨#[]⟩, chkNs M Q 2 (fun j => if j = 0 then a else b)) by unfold mulG; rw [if_neg hc]]
end Go.Proofs.YtogmgfdihmacpaaGreatDoor
