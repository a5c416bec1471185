/-
  Layer 13's statements: Checks, Multiplies, Exps, Products.
-/
import Derived.Test.YtogmgfdihmacpaaGreatDoorLaw13a
namespace Go.Proofs.YtogmgfdihmacpaaGreatDoor
open Go.RowKit Go.Deep
set_option linter.unusedVariables false

/-- Small (layer 9's word). -/
def FewG (M Q : ByteArray) (k : Nat) (f : Nat → ByteArray) : Prop := (∀ j, j < k → (f j).size ≤ 20) ∧ M.size ≤ 8 ∧ Q.size ≤ 10
theorem few_up {f : Nat → ByteArray} {i : Nat} (h : ∀ j, j < i → (f j).size ≤ 20) (hi : (f i).size ≤ 20) : ∀ j, j < i + 1 → (f j).size ≤ 20 := fun j hj => by
  by_cases e : j = i
  · rw [e]; exact hi
  · exact h j (by omega)
set_option maxHeartbeats 4000000 in
set_option maxRecDepth 100000 in
theorem few9_any (v : Value) (k : Nat) (f : Nat → ByteArray) (M Q : ByteArray) (w : World) (hv : SV w v k f) (hk : k ≤ 9223372036854775807) (hM : M.size ≤ 9223372036854775807) (hQ : Q.size ≤ 9223372036854775807) (hfs : ∀ j, j < k → (f j).size ≤ 9223372036854775807) :
    Calls Tryz.prog 11 #[.agg #[.string M, .string Q], v] w fun e w' => YnP (FewG M Q k f) w e w' := by
  have hb := belA w (.cells #[.string M, .string Q] 24)
  have hv2 := hv.below hb
  obtain ⟨p, cap, rfl, hc⟩ := hv2
  have G := Lib.hid (Two.new w (.string M) (.string Q) 24 _ rfl)
  obtain ⟨q1, q2, q3, q4, q5⟩ := G.out
  have HC := Lib.hid hc; clear hc hv
  have K := Lib.hid hb; clear hb
  have HK := Lib.hid hk
  have HFS := Lib.hid hfs; clear hfs
  go_enter Tryz.func11, Tryz.ntmps11
  go_wp2
  generalize World.alloc w _ = W at *
  go_loop [5] (fun x => ∃ i : Nat, i ≤ k ∧ x = .int .i64 i ∧ Hid (∀ j, j < i → (f j).size ≤ 20)) (fun x => k - (intOf x).toNat)
  case atStart => exact ⟨0, by omega, rfl, fun j hj => absurd hj (by omega)⟩
  case round =>
    obtain ⟨i, hi, rfl, HI⟩ := hrel
    by_cases hlt : i < k
    · obtain ⟨a, rfl, ha, hcell⟩ := HC.out i hlt
      have hlti : (i : Int) < (k : Int) := by omega
      have hsz := HFS.out i hlt
      by_cases hs : (f i).size ≤ 20
      · have HN := Lib.hid (few_up HI.out hs)
        have hd : decide ((20 : Int) < (f i).size) = false := decide_eq_false (by omega)
        have hd2 : ¬ (20 : Int) < (f i).size := by omega
        go_wp2
        go_round
        case rel => exact ⟨i + 1, by omega, by go_num, HN.out⟩
        case measure => simp [intOf]; omega
      · have hd : decide ((20 : Int) < (f i).size) = true := decide_eq_true (by omega)
        have hd2 : (20 : Int) < (f i).size := by omega
        have HR := Lib.hid (fun (q : FewG M Q k f) => hs (q.1 i hlt))
        go_wp2
        go_ret
        exact YnP.mk_f HR.out K.out
    · obtain rfl : i = k := by omega
      by_cases h1 : M.size ≤ 8
      · have hd1 : decide ((M.size : Int) ≤ 8) = true := decide_eq_true (by omega)
        by_cases h2 : Q.size ≤ 10
        · have hd2 : decide ((Q.size : Int) ≤ 10) = true := decide_eq_true (by omega)
          have HR := Lib.hid (show FewG M Q i f from ⟨HI.out, h1, h2⟩)
          go_wp2
          go_ret
          exact YnP.mk_t HR.out K.out
        · have hd2 : decide ((Q.size : Int) ≤ 10) = false := decide_eq_false (by omega)
          have HR := Lib.hid (fun (q : FewG M Q i f) => h2 q.2.2)
          go_wp2
          go_ret
          exact YnP.mk_f HR.out K.out
      · have hd1 : decide ((M.size : Int) ≤ 8) = false := decide_eq_false (by omega)
        have HR := Lib.hid (fun (q : FewG M Q i f) => h1 q.2.1)
        go_wp2
        go_ret
        exact YnP.mk_f HR.out K.out
theorem few9_1 (M Q x : ByteArray) (W : World) (T : TypeId) (g : Nat) (hg : g = W.heap.size) (hM : M.size ≤ 9223372036854775807) (hQ : Q.size ≤ 9223372036854775807) (hx : x.size ≤ 9223372036854775807) :
    Calls Tryz.prog 11 #[.agg #[.string M, .string Q], .slice (some ⟨g, 0, none⟩) 1 1] (W.alloc (.cells #[.string x] T)) fun e w' => YnP (x.size ≤ 20 ∧ M.size ≤ 8 ∧ Q.size ≤ 10) (W.alloc (.cells #[.string x] T)) e w' := by
  subst hg
  refine (few9_any _ 1 _ M Q _ (sv1_new W x T) (by omega) hM hQ (fun _ _ => hx)).mono ?_
  rintro e w' ⟨⟨b, rfl, hb⟩, hw⟩
  exact ⟨⟨b, rfl, hb.trans ⟨fun q => ⟨q.1 0 (by omega), q.2⟩, fun q => ⟨fun _ _ => q.1, q.2⟩⟩⟩, hw⟩
theorem few9_2 (M Q a b : ByteArray) (W : World) (T : TypeId) (g : Nat) (hg : g = W.heap.size) (hM : M.size ≤ 9223372036854775807) (hQ : Q.size ≤ 9223372036854775807) (ha : a.size ≤ 9223372036854775807) (hb : b.size ≤ 9223372036854775807) :
    Calls Tryz.prog 11 #[.agg #[.string M, .string Q], .slice (some ⟨g, 0, none⟩) 2 2] (W.alloc (.cells #[.string a, .string b] T)) fun e w' => YnP ((a.size ≤ 20 ∧ b.size ≤ 20) ∧ M.size ≤ 8 ∧ Q.size ≤ 10) (W.alloc (.cells #[.string a, .string b] T)) e w' := by
  subst hg
  refine (few9_any _ 2 _ M Q _ (sv2_new W a b T) (by omega) hM hQ (fun j hj => by rcases (show j = 0 ∨ j = 1 by omega) with rfl | rfl; exact ha; exact hb)).mono ?_
  rintro e w' ⟨⟨c, rfl, hc⟩, hw⟩
  exact ⟨⟨c, rfl, hc.trans ⟨fun q => ⟨⟨q.1 0 (by omega), q.1 1 (by omega)⟩, q.2⟩, fun q => ⟨fun j hj => by rcases (show j = 0 ∨ j = 1 by omega) with rfl | rfl; exact q.1.1; exact q.1.2, q.2⟩⟩⟩, hw⟩
set_option maxHeartbeats 4000000 in
set_option maxRecDepth 100000 in
theorem law_PowerChecks (M Q x : ByteArray) (lM : M.size ≤ maxLen) (lQ : Q.size ≤ maxLen) (lx : x.size ≤ maxLen) (w : World) :
    Calls Tryz.prog 3 #[.agg #[.string M, .string Q], .string x] w fun e w' => e = .returned (.bool true) ∧ Below w.heap.size w w' := by
  unfold maxLen at lM lQ lx
  have CF := Lib.hid (fun W T g hg => few9_1 M Q x W T g hg (by omega) (by omega) (by omega))
  by_cases hf : x.size ≤ 20 ∧ M.size ≤ 8 ∧ Q.size ≤ 10
  · have CT := Lib.hid (fun W T g hg => (CF.out W T g hg).mono fun _ _ q => q.yes hf)
    obtain ⟨c, hc⟩ : ∃ c, c = chkG M Q := ⟨_, rfl⟩
    obtain ⟨b, hb⟩ : ∃ b, b = hasB M Q x := ⟨_, rfl⟩
    have C1 := Lib.hid (fun W => (show Calls Tryz.prog 13 #[.agg #[.string M, .string Q]] W fun e w' => e = .returned (.int .i64 c) ∧ Below W.heap.size W w' by rw [hc]; exact pgchk_any M Q W))
    have C2 := Lib.hid (fun W => (show Calls Tryz.prog 14 #[.agg #[.string M, .string Q]] W fun e w' => e = .returned (.int .i64 c) ∧ Below W.heap.size W w' by rw [hc]; exact r13chk_any M Q W))
    have C3 := Lib.hid (fun W => (show Calls Tryz.prog 15 #[.agg #[.string M, .string Q], .string x] W fun e w' => e = .returned (.bool b) ∧ Below W.heap.size W w' by rw [hb]; exact pwhas_any M Q x W))
    have C4 := Lib.hid (fun W => (show Calls Tryz.prog 16 #[.agg #[.string M, .string Q], .string x] W fun e w' => e = .returned (.bool b) ∧ Below W.heap.size W w' by rw [hb]; exact r13has_any M Q x W (by omega)))
    have hcc : (c == c) = true := by simp
    have hbb : (b == b) = true := by simp
    have G := Lib.hid (Two.new w (.string M) (.string Q) 24 _ rfl)
    obtain ⟨q1, q2, q3, q4, q5⟩ := G.out
    clear hf hc hb CF lM lQ lx
    go_enter Tryz.func3, Tryz.ntmps3
    go_wp2_with fail
    refine (CT.out _ _ _ (by simp)).mono ?_; rintro e w1 ⟨rfl, b1⟩
    have S0 := Lib.hid (GrS.mk_ (box_list b1).1 (box_list b1).2)
    clear b1 q1 q2 q3 q4 q5
    go_wp2_with fail
    first
    | (go_region_held3 (fun W => W.cell? ⟨w.heap.size, 0, none⟩ = some (.string M) ∧ W.cell? ⟨w.heap.size, 1, none⟩ = some (.string Q) ∧ W.frozen? ⟨w.heap.size, 0, none⟩ = false ∧ W.frozen? ⟨w.heap.size, 1, none⟩ = false ∧ w.heap.size < W.heap.size ∧ Below w.heap.size w W) (first | assumption | exact GrS.drew S0.out | exact GrS.next (by assumption) b99)
        (first
        | (go_at_call 13; ((with_reducible refine (C1.out _).mono ?_); rintro e w99 ⟨rfl, b99⟩))
        | (go_at_call 14; ((with_reducible refine (C2.out _).mono ?_); rintro e w99 ⟨rfl, b99⟩))
        | (go_at_call 15; ((with_reducible refine (C3.out _).mono ?_); rintro e w99 ⟨rfl, b99⟩))
        | (go_at_call 16; ((with_reducible refine (C4.out _).mono ?_); rintro e w99 ⟨rfl, b99⟩))
        | (go_at_call 12; ((with_reducible refine (awake13 _).mono ?_); rintro e w99 ⟨rfl, b99⟩))))
    | fail
    all_goals go_wp2
    all_goals go_ret
    all_goals exact ⟨rfl, GrS.bel (by assumption)⟩
  · have CT := Lib.hid (fun W T g hg => (CF.out W T g hg).mono fun _ _ q => q.no hf)
    have G := Lib.hid (Two.new w (.string M) (.string Q) 24 _ rfl)
    obtain ⟨q1, q2, q3, q4, q5⟩ := G.out
    clear hf CF lM lQ lx
    go_enter Tryz.func3, Tryz.ntmps3
    go_wp2_with fail
    refine (CT.out _ _ _ (by simp)).mono ?_; rintro e w1 ⟨rfl, b1⟩
    have K := Lib.hid (box_list b1).2
    clear b1 q1 q2 q3 q4 q5
    go_wp2_with fail
    refine (awake13 _).mono ?_; rintro e w2 ⟨rfl, b2⟩
    have K := Lib.hid (belP K.out b2)
    clear b2
    go_wp2
    go_ret
    exact ⟨rfl, K.out⟩
set_option maxHeartbeats 4000000 in
set_option maxRecDepth 100000 in
theorem law_PowerMultiplies (M Q a b : ByteArray) (lM : M.size ≤ maxLen) (lQ : Q.size ≤ maxLen) (la : a.size ≤ maxLen) (lb : b.size ≤ maxLen) (w : World) :
    Calls Tryz.prog 4 #[.agg #[.string M, .string Q], .string a, .string b] w fun e w' => e = .returned (.bool true) ∧ Below w.heap.size w w' := by
  unfold maxLen at lM lQ la lb
  have CF := Lib.hid (fun W T g hg => few9_2 M Q a b W T g hg (by omega) (by omega) (by omega) (by omega))
  have G := Lib.hid (Two.new w (.string M) (.string Q) 24 _ rfl)
  obtain ⟨q1, q2, q3, q4, q5⟩ := G.out
  by_cases hf : (a.size ≤ 20 ∧ b.size ≤ 20) ∧ M.size ≤ 8 ∧ Q.size ≤ 10
  · have CT := Lib.hid (fun W T g hg => (CF.out W T g hg).mono fun _ _ q => q.yes hf)
    obtain ⟨⟨S, c⟩, hc⟩ : ∃ c, c = mulG M Q a b := ⟨_, rfl⟩
    have C1 := Lib.hid (fun W => pwmul_any M Q a b W)
    have C2 := Lib.hid (fun W => r13mul_any M Q a b W (by omega))
    rw [← hc] at C1 C2
    have hcc : (c == c) = true := by simp
    clear hf hc CF lM lQ la lb
    go_enter Tryz.func4, Tryz.ntmps4
    go_wp2_with fail
    refine (CT.out _ _ _ (by simp)).mono ?_; rintro e w1 ⟨rfl, b1⟩
    have G := Lib.hid (box_list b1).1
    have K := Lib.hid (box_list b1).2
    clear b1 q1 q2 q3 q4 q5
    obtain ⟨q1, q2, q3, q4, q5⟩ := G.out
    go_wp2_with fail
    refine (C1.out _).mono ?_; rintro e w2 ⟨rfl, b2⟩
    have K := Lib.hid (belP K.out b2)
    have G := Lib.hid (G.out.below b2 rfl)
    clear b2 q1 q2 q3 q4 q5
    obtain ⟨q1, q2, q3, q4, q5⟩ := G.out
    go_wp2_with fail
    refine (C2.out _).mono ?_; rintro e w3 ⟨rfl, b3⟩
    have K := Lib.hid (belP K.out b3)
    have G := Lib.hid (G.out.below b3 rfl)
    clear b3 q1 q2 q3 q4 q5
    obtain ⟨q1, q2, q3, q4, q5⟩ := G.out
    go_wp2_with fail
    refine (awake13 _).mono ?_; rintro e w4 ⟨rfl, b4⟩
    have K := Lib.hid (belP K.out b4)
    have G := Lib.hid (G.out.below b4 rfl)
    clear b4 q1 q2 q3 q4 q5
    obtain ⟨q1, q2, q3, q4, q5⟩ := G.out
    go_wp2
    go_ret
    exact ⟨rfl, K.out⟩
  · have CT := Lib.hid (fun W T g hg => (CF.out W T g hg).mono fun _ _ q => q.no hf)
    clear hf CF lM lQ la lb
    go_enter Tryz.func4, Tryz.ntmps4
    go_wp2_with fail
    refine (CT.out _ _ _ (by simp)).mono ?_; rintro e w1 ⟨rfl, b1⟩
    have K := Lib.hid (box_list b1).2
    clear b1 q1 q2 q3 q4 q5
    go_wp2_with fail
    refine (awake13 _).mono ?_; rintro e w2 ⟨rfl, b2⟩
    have K := Lib.hid (belP K.out b2)
    clear b2
    go_wp2
    go_ret
    exact ⟨rfl, K.out⟩
theorem box2_list {w w1 : World} {a0 a1 b0 b1 : Value} {T U V : TypeId} {vs : Array Value} (h : Below (((w.alloc (.cells #[a0, a1] T)).alloc (.cells #[b0, b1] V)).alloc (.cells vs U)).heap.size (((w.alloc (.cells #[a0, a1] T)).alloc (.cells #[b0, b1] V)).alloc (.cells vs U)) w1) :
    Two w1 w.heap.size a0 a1 ∧ Two w1 (w.heap.size + 1) b0 b1 ∧ Below w.heap.size w w1 :=
  ⟨(((Two.new w a0 a1 T _ rfl).alloc _).alloc _).below h rfl, ((Two.new _ b0 b1 V _ (by simp)).alloc _).below h rfl, belP (belP (belP (belA w _) (belA _ _)) (belA _ _)) h⟩
set_option maxHeartbeats 4000000 in
set_option maxRecDepth 100000 in
theorem law_PowerExps (M Q x : ByteArray) (ng : Bool) (s : ByteArray) (lM : M.size ≤ maxLen) (lQ : Q.size ≤ maxLen) (lx : x.size ≤ maxLen) (ls : s.size ≤ maxLen) (w : World) :
    Calls Tryz.prog 5 #[.agg #[.string M, .string Q], .string x, .agg #[.bool ng, .string s]] w fun e w' => e = .returned (.bool true) ∧ Below w.heap.size w w' := by
  unfold maxLen at lM lQ lx ls
  have CF := Lib.hid (fun W T g hg => few9_2 M Q x s W T g hg (by omega) (by omega) (by omega) (by omega))
  have A := Lib.hid ((Two.new w (.string M) (.string Q) 24 _ rfl).alloc (.cells #[.bool ng, .string s] 37))
  have B := Lib.hid (Two.new (w.alloc (.cells #[.string M, .string Q] 24)) (.bool ng) (.string s) 37 (w.heap.size + 1) (by simp))
  obtain ⟨A1, A2, A3, A4, A5⟩ := A.out
  obtain ⟨B1, B2, B3, B4, B5⟩ := B.out
  by_cases hf : (x.size ≤ 20 ∧ s.size ≤ 20) ∧ M.size ≤ 8 ∧ Q.size ≤ 10
  · have CT := Lib.hid (fun W T g hg => (CF.out W T g hg).mono fun _ _ q => q.yes hf)
    obtain ⟨⟨S, c⟩, hc⟩ : ∃ c, c = expG M Q x ng s := ⟨_, rfl⟩
    have C1 := Lib.hid (fun W => pwexp_any M Q x ng s W)
    have C2 := Lib.hid (fun W => r13exp_any M Q x ng s W (by omega))
    rw [← hc] at C1 C2
    have hcc : (c == c) = true := by simp
    clear hf hc CF lM lQ lx ls
    go_enter Tryz.func5, Tryz.ntmps5
    go_wp2_with fail
    refine (CT.out _ _ _ (by simp)).mono ?_; rintro e w1 ⟨rfl, b1⟩
    have A := Lib.hid (box2_list b1).1
    have B := Lib.hid (box2_list b1).2.1
    have K := Lib.hid (box2_list b1).2.2
    clear b1 A1 A2 A3 A4 A5 B1 B2 B3 B4 B5
    obtain ⟨A1, A2, A3, A4, A5⟩ := A.out
    obtain ⟨B1, B2, B3, B4, B5⟩ := B.out
    go_wp2_with fail
    refine (C1.out _).mono ?_; rintro e w2 ⟨rfl, b2⟩
    have K := Lib.hid (belP K.out b2)
    have A := Lib.hid (A.out.below b2 rfl)
    have B := Lib.hid (B.out.below b2 rfl)
    clear b2 A1 A2 A3 A4 A5 B1 B2 B3 B4 B5
    obtain ⟨A1, A2, A3, A4, A5⟩ := A.out
    obtain ⟨B1, B2, B3, B4, B5⟩ := B.out
    go_wp2_with fail
    refine (C2.out _).mono ?_; rintro e w3 ⟨rfl, b3⟩
    have K := Lib.hid (belP K.out b3)
    have A := Lib.hid (A.out.below b3 rfl)
    have B := Lib.hid (B.out.below b3 rfl)
    clear b3 A1 A2 A3 A4 A5 B1 B2 B3 B4 B5
    obtain ⟨A1, A2, A3, A4, A5⟩ := A.out
    obtain ⟨B1, B2, B3, B4, B5⟩ := B.out
    go_wp2_with fail
    refine (awake13 _).mono ?_; rintro e w4 ⟨rfl, b4⟩
    have K := Lib.hid (belP K.out b4)
    have A := Lib.hid (A.out.below b4 rfl)
    have B := Lib.hid (B.out.below b4 rfl)
    clear b4 A1 A2 A3 A4 A5 B1 B2 B3 B4 B5
    obtain ⟨A1, A2, A3, A4, A5⟩ := A.out
    obtain ⟨B1, B2, B3, B4, B5⟩ := B.out
    go_wp2
    go_ret
    exact ⟨rfl, K.out⟩
  · have CT := Lib.hid (fun W T g hg => (CF.out W T g hg).mono fun _ _ q => q.no hf)
    clear hf CF lM lQ lx ls
    go_enter Tryz.func5, Tryz.ntmps5
    go_wp2_with fail
    refine (CT.out _ _ _ (by simp)).mono ?_; rintro e w1 ⟨rfl, b1⟩
    have K := Lib.hid (box2_list b1).2.2
    clear b1 A1 A2 A3 A4 A5 B1 B2 B3 B4 B5
    go_wp2_with fail
    refine (awake13 _).mono ?_; rintro e w2 ⟨rfl, b2⟩
    have K := Lib.hid (belP K.out b2)
    clear b2
    go_wp2
    go_ret
    exact ⟨rfl, K.out⟩
end Go.Proofs.YtogmgfdihmacpaaGreatDoor
