/-
  Layer 13's statements: the chapter's examples (awake13), small arguments.
-/
import Derived.Test.YtogmgfdihmacpaaGreatDoorRW3
import Derived.Test.YtogmgfdihmacpaaGreatDoorPW8
namespace Go.Proofs.YtogmgfdihmacpaaGreatDoor
open Go.RowKit Go.Deep
set_option linter.unusedVariables false

theorem x_1 : Can ⟨#[1]⟩ ∧ V ⟨#[1]⟩ = 1 := E_can _ (by omega) (show E 1 = _ by kernel_rfl)
theorem x_2 : Can ⟨#[2]⟩ ∧ V ⟨#[2]⟩ = 2 := E_can _ (by omega) (show E 2 = _ by kernel_rfl)
theorem x_3 : Can ⟨#[3]⟩ ∧ V ⟨#[3]⟩ = 3 := E_can _ (by omega) (show E 3 = _ by kernel_rfl)
theorem x_4 : Can ⟨#[4]⟩ ∧ V ⟨#[4]⟩ = 4 := E_can _ (by omega) (show E 4 = _ by kernel_rfl)
theorem x_5 : Can ⟨#[5]⟩ ∧ V ⟨#[5]⟩ = 5 := E_can _ (by omega) (show E 5 = _ by kernel_rfl)
theorem x_7 : Can ⟨#[7]⟩ ∧ V ⟨#[7]⟩ = 7 := E_can _ (by omega) (show E 7 = _ by kernel_rfl)
theorem x_8 : Can ⟨#[8]⟩ ∧ V ⟨#[8]⟩ = 8 := E_can _ (by omega) (show E 8 = _ by kernel_rfl)
theorem x_11 : Can ⟨#[11]⟩ ∧ V ⟨#[11]⟩ = 11 := E_can _ (by omega) (show E 11 = _ by kernel_rfl)
theorem x_23 : Can ⟨#[23]⟩ ∧ V ⟨#[23]⟩ = 23 := E_can _ (by omega) (show E 23 = _ by kernel_rfl)
theorem x_77 : Can ⟨#[77]⟩ ∧ V ⟨#[77]⟩ = 77 := E_can _ (by omega) (show E 77 = _ by kernel_rfl)
theorem x_0 : Can ⟨#[]⟩ ∧ V ⟨#[]⟩ = 0 := E_can _ (by omega) (show E 0 = _ by kernel_rfl)
theorem g_23 : chkG ⟨#[23]⟩ ⟨#[11]⟩ = 0 := chkG_ok ⟨x_23.1, x_11.1⟩ (.inr ⟨by decide, by rw [x_23.2]; omega, by rw [x_11.2]; omega, by rw [x_23.2, x_11.2]⟩)
theorem g_77 : chkG ⟨#[77]⟩ ⟨#[]⟩ = 0 := chkG_ok ⟨x_77.1, x_0.1⟩ (.inl ⟨rfl, by rw [x_77.2], by rw [x_77.2]; omega⟩)
theorem g_8 : chkG ⟨#[8]⟩ ⟨#[]⟩ = 13 := chkG_bad ⟨x_8.1, x_0.1⟩ (by rintro (⟨-, q⟩ | ⟨q, -⟩); have := q.1; rw [x_8.2] at this; omega; exact q rfl)
theorem elt23 {x : ByteArray} {n : Nat} (h : Can x ∧ V x = n) (h0 : 0 < n) (h1 : n < 23) (h2 : n ^ 11 % 23 = 1) : EltG ⟨#[23]⟩ ⟨#[11]⟩ x :=
  ⟨h.1, .inr ⟨by decide, by rw [h.2]; exact h0, by rw [h.2, x_23.2]; exact h1, by rw [h.2, x_11.2, x_23.2]; exact h2⟩⟩
theorem elt77 {x : ByteArray} {n : Nat} (h : Can x ∧ V x = n) (h0 : 0 < n) (h1 : n < 77) (h2 : Nat.gcd n 77 = 1) : EltG ⟨#[77]⟩ ⟨#[]⟩ x :=
  ⟨h.1, .inl ⟨rfl, by rw [h.2]; exact h0, by rw [h.2, x_77.2]; exact h1, by rw [h.2, x_77.2]; exact h2⟩⟩
theorem iv_pos {s : ByteArray} {n : Nat} (h : Can s ∧ V s = n) : IVal false s ∧ IZ false s = n := ⟨⟨h.1, fun q => by cases q⟩, by unfold IZ; rw [sg_f, h.2]⟩
theorem iv_neg {s : ByteArray} {n : Nat} (h : Can s ∧ V s = n) (h0 : 0 < n) : IVal true s ∧ IZ true s = -n := ⟨⟨h.1, fun _ => (size_posV h.1).1 (by omega)⟩, by unfold IZ; rw [sg_t, h.2]⟩
theorem inv3 : invN 3 23 = 8 := invN_eq (by omega) (by decide)
theorem inv2 : invN 2 23 = 12 := invN_eq (by omega) (by decide)
/-- Two integers in a new list. -/
theorem ivs2_new (W : World) (g0 g1 : Bool) (a b : ByteArray) (T : TypeId) : IVs (W.alloc (.cells #[.bool g0, .string a, .bool g1, .string b] T)) (.slice (some ⟨W.heap.size, 0, none⟩) 2 2) 2 (fun j => if j = 0 then g0 else g1) (fun j => if j = 0 then a else b) := by
  refine ⟨_, _, rfl, fun j hj => ⟨_, rfl, by simp, ?_, ?_⟩⟩
  · rcases (show j = 0 ∨ j = 1 by omega) with rfl | rfl
    · show (W.alloc _).cell? ⟨W.heap.size, 0, none⟩ = _
      rw [World.cell?_alloc_new]; rfl
    · show (W.alloc _).cell? ⟨W.heap.size, 2, none⟩ = _
      rw [World.cell?_alloc_new]; rfl
  · rcases (show j = 0 ∨ j = 1 by omega) with rfl | rfl
    · show (W.alloc _).cell? ⟨W.heap.size, 1, none⟩ = _
      rw [World.cell?_alloc_new]; rfl
    · show (W.alloc _).cell? ⟨W.heap.size, 3, none⟩ = _
      rw [World.cell?_alloc_new]; rfl
theorem val2 {g0 g1 : Bool} {a b : ByteArray} (h0 : IVal g0 a) (h1 : IVal g1 b) : ValL 2 (fun j => if j = 0 then g0 else g1) (fun j => if j = 0 then a else b) := fun j hj => by
  rcases (show j = 0 ∨ j = 1 by omega) with rfl | rfl
  · exact h0
  · exact h1
theorem elt2 {M Q a b : ByteArray} (h0 : EltG M Q a) (h1 : EltG M Q b) : ∀ j, j < 2 → EltG M Q ((fun j => if j = 0 then a else b) j) := fun j hj => by
  rcases (show j = 0 ∨ j = 1 by omega) with rfl | rfl
  · exact h0
  · exact h1
theorem prod2_any (M Q a b s0 s1 r : ByteArray) (g0 g1 : Bool) (n : Nat) (W : World) (T : TypeId) (g gg : Nat) (hgb : g = W.heap.size) (hgg : gg = W.heap.size + 1) (hg : chkG M Q = 0) (ha : EltG M Q a) (hb : EltG M Q b) (h0 : IVal g0 s0) (h1 : IVal g1 s1)
    (hn : 1 % V M * pwN (V M) (V a) (IZ g0 s0) % V M * pwN (V M) (V b) (IZ g1 s1) % V M = n) (hr : E n = r) (T2 : TypeId) :
    Calls Tryz.prog 22 #[.agg #[.string M, .string Q], .slice (some ⟨g, 0, none⟩) 2 2, .slice (some ⟨gg, 0, none⟩) 2 2] ((W.alloc (.cells #[.string a, .string b] T)).alloc (.cells #[.bool g0, .string s0, .bool g1, .string s1] T2)) fun e w' => e = .returned (.tuple #[.string r, .int .i64 0]) ∧
      Below ((W.alloc (.cells #[.string a, .string b] T)).alloc (.cells #[.bool g0, .string s0, .bool g1, .string s1] T2)).heap.size ((W.alloc (.cells #[.string a, .string b] T)).alloc (.cells #[.bool g0, .string s0, .bool g1, .string s1] T2)) w' := by
  subst hgb hgg
  have hs : (W.alloc (.cells #[.string a, .string b] T)).heap.size = W.heap.size + 1 := by simp
  have h := pwprod_any M Q (.slice (some ⟨W.heap.size, 0, none⟩) 2 2) (.slice (some ⟨(W.alloc (.cells #[.string a, .string b] T)).heap.size, 0, none⟩) 2 2) 2 2 _ _ _ _ ((sv2_new W a b T).below (belA _ _)) (ivs2_new (W.alloc (.cells #[.string a, .string b] T)) g0 g1 s0 s1 T2) (by omega) (by omega)
  rw [prodG_yes (val2 h0 h1) hg (elt2 ha hb)] at h
  have e : prZ (V M) (fun j => V ((fun j => if j = 0 then a else b) j)) (fun j => IZ ((fun j => if j = 0 then g0 else g1) j) ((fun j => if j = 0 then s0 else s1) j)) 2 = n := hn
  rw [e, hr, hs] at h
  exact h
theorem box2P {w w1 : World} {a0 a1 b0 b1 : Value} {T U T1 T2 : TypeId} {vs us : Array Value} (h : Below ((((w.alloc (.cells #[a0, a1] T)).alloc (.cells #[b0, b1] U)).alloc (.cells vs T1)).alloc (.cells us T2)).heap.size ((((w.alloc (.cells #[a0, a1] T)).alloc (.cells #[b0, b1] U)).alloc (.cells vs T1)).alloc (.cells us T2)) w1) :
    Two w1 w.heap.size a0 a1 ∧ Two w1 (w.heap.size + 1) b0 b1 ∧ Below w.heap.size w w1 :=
  ⟨((((Two.new w a0 a1 T _ rfl).alloc _).alloc _).alloc _).below h rfl, (((Two.new _ b0 b1 U _ (by simp)).alloc _).alloc _).below h rfl, belP (belP (belP (belP (belA w _) (belA _ _)) (belA _ _)) (belA _ _)) h⟩
theorem box2Q {w w1 w2 : World} {a0 a1 b0 b1 : Value} {g h : Nat} {T1 T2 : TypeId} {vs us : Array Value} (hA : Two w1 g a0 a1) (hB : Two w1 h b0 b1) (hK : Below w.heap.size w w1) (q : Below ((w1.alloc (.cells vs T1)).alloc (.cells us T2)).heap.size ((w1.alloc (.cells vs T1)).alloc (.cells us T2)) w2) :
    Two w2 g a0 a1 ∧ Two w2 h b0 b1 ∧ Below w.heap.size w w2 :=
  ⟨((hA.alloc _).alloc _).below q rfl, ((hB.alloc _).alloc _).below q rfl, belP (belP (belP hK (belA _ _)) (belA _ _)) q⟩
theorem exa1 (W : World) : Calls Tryz.prog 19 #[.agg #[.string ⟨#[23]⟩, .string ⟨#[11]⟩], .string ⟨#[2]⟩, .agg #[.bool true, .string ⟨#[3]⟩]] W fun e w' => e = .returned (.tuple #[.string ⟨#[3]⟩, .int .i64 0]) ∧ Below W.heap.size W w' := by
  have h := pwexp_yes ⟨#[23]⟩ ⟨#[11]⟩ ⟨#[2]⟩ true ⟨#[3]⟩ W (iv_neg x_3 (by omega)).1 g_23 (elt23 x_2 (by omega) (by omega) (by decide))
  rwa [(iv_neg x_3 (by omega)).2, x_23.2, x_2.2, pwN_neg _ _ _ (by omega), inv2, show 12 ^ 3 % 23 = 3 by decide, show E 3 = ⟨#[3]⟩ by kernel_rfl] at h
theorem exa2 (W : World) : Calls Tryz.prog 24 #[.agg #[.string ⟨#[77]⟩, .string ⟨#[]⟩], .string ⟨#[5]⟩, .int .i64 8] W fun e w' => YesTb ⟨#[77]⟩ 8 2 5 W e w' := by
  have h := pnewt_yes ⟨#[77]⟩ ⟨#[]⟩ ⟨#[5]⟩ 8 2 W g_77 (by omega) (by omega) (by omega) (elt77 x_5 (by omega) (by omega) (by decide))
  rwa [x_5.2] at h
theorem nb2 : nbits 2 = 2 := by decide
theorem exa3 (v : Value) (W : World) (hv : TbV W v 2 (fun i j => E (5 ^ (16 ^ i * j) % V ⟨#[77]⟩))) : Calls Tryz.prog 26 #[.agg #[.string ⟨#[77]⟩, .int .i64 8, v], .string ⟨#[2]⟩] W fun e w' => e = .returned (.tuple #[.string ⟨#[25]⟩, .int .i64 0]) ∧ Below W.heap.size W w' := by
  have h := ptexp_yes ⟨#[77]⟩ ⟨#[2]⟩ 5 8 v 2 W hv x_2.1 x_77.1 (by rw [x_77.2]; omega) (by rw [x_2.2, nb2]; omega) (by omega) (by omega)
  rwa [x_2.2, x_77.2, show 5 ^ 2 % 77 = 25 by decide, show E 25 = ⟨#[25]⟩ by kernel_rfl] at h
theorem exa4 (W : World) : Calls Tryz.prog 15 #[.agg #[.string ⟨#[77]⟩, .string ⟨#[]⟩], .string ⟨#[5]⟩] W fun e w' => e = .returned (.bool true) ∧ Below W.heap.size W w' := by
  have h := pwhas_any ⟨#[77]⟩ ⟨#[]⟩ ⟨#[5]⟩ W
  rwa [hasB_t ⟨g_77, elt77 x_5 (by omega) (by omega) (by decide)⟩] at h
theorem exa5 (W : World) : Calls Tryz.prog 15 #[.agg #[.string ⟨#[77]⟩, .string ⟨#[]⟩], .string ⟨#[7]⟩] W fun e w' => e = .returned (.bool false) ∧ Below W.heap.size W w' := by
  have h := pwhas_any ⟨#[77]⟩ ⟨#[]⟩ ⟨#[7]⟩ W
  rwa [hasB_f (by rintro ⟨-, -, ⟨-, -, -, q⟩ | ⟨q, -⟩⟩; rw [x_7.2, x_77.2] at q; revert q; decide; exact q rfl)] at h
theorem exa6 (W : World) : Calls Tryz.prog 13 #[.agg #[.string ⟨#[8]⟩, .string ⟨#[]⟩]] W fun e w' => e = .returned (.int .i64 13) ∧ Below W.heap.size W w' := by
  have h := pgchk_any ⟨#[8]⟩ ⟨#[]⟩ W
  rwa [g_8] at h
set_option maxHeartbeats 4000000 in
set_option maxRecDepth 100000 in
theorem awake13 (w : World) : Calls Tryz.prog 12 #[] w fun e w' => e = .returned (.bool true) ∧ Below w.heap.size w w' := by
  have P1 := Lib.hid (fun W T g gg hgb hgg T2 => prod2_any ⟨#[23]⟩ ⟨#[11]⟩ ⟨#[4]⟩ ⟨#[3]⟩ ⟨#[2]⟩ ⟨#[1]⟩ ⟨#[13]⟩ false true 13 W T g gg hgb hgg g_23 (elt23 x_4 (by omega) (by omega) (by decide)) (elt23 x_3 (by omega) (by omega) (by decide)) (iv_pos x_2).1 (iv_neg x_1 (by omega)).1
    (by rw [(iv_pos x_2).2, (iv_neg x_1 (by omega)).2, x_23.2, x_4.2, x_3.2, pwN_nat, pwN_neg _ _ _ (by omega), inv3]) (by kernel_rfl) T2)
  have P2 := Lib.hid (fun W T g gg hgb hgg T2 => prod2_any ⟨#[77]⟩ ⟨#[]⟩ ⟨#[5]⟩ ⟨#[2]⟩ ⟨#[2]⟩ ⟨#[3]⟩ ⟨#[46]⟩ false false 46 W T g gg hgb hgg g_77 (elt77 x_5 (by omega) (by omega) (by decide)) (elt77 x_2 (by omega) (by omega) (by decide)) (iv_pos x_2).1 (iv_pos x_3).1
    (by rw [(iv_pos x_2).2, (iv_pos x_3).2, x_77.2, x_5.2, x_2.2, pwN_nat, pwN_nat]) (by kernel_rfl) T2)
  go_enter Tryz.func12, Tryz.ntmps12
  go_wp2_with fail
  refine (P1.out _ _ _ _ (by simp) (by simp) _).mono ?_; rintro e w1 ⟨rfl, b1⟩
  obtain ⟨hA, hB, hK⟩ := box2P b1
  have A := Lib.hid hA
  have B := Lib.hid hB
  have K := Lib.hid hK
  clear b1 hA hB hK
  obtain ⟨A1, A2, A3, A4, A5⟩ := A.out
  obtain ⟨B1, B2, B3, B4, B5⟩ := B.out
  go_wp2_with fail
  refine (exa1 _).mono ?_; rintro e w2 ⟨rfl, b2⟩
  have K := Lib.hid (belP K.out b2)
  have A := Lib.hid (A.out.below b2 rfl)
  have B := Lib.hid (B.out.below b2 rfl)
  clear b2 A1 A2 A3 A4 A5 B1 B2 B3 B4 B5
  obtain ⟨A1, A2, A3, A4, A5⟩ := A.out
  obtain ⟨B1, B2, B3, B4, B5⟩ := B.out
  go_wp2_with fail
  refine (P2.out _ _ _ _ (by simp) (by simp) _).mono ?_; rintro e w3 ⟨rfl, b3⟩
  obtain ⟨hA, hB, hK⟩ := box2Q A.out B.out K.out b3
  have A := Lib.hid hA
  have B := Lib.hid hB
  have K := Lib.hid hK
  clear b3 hA hB hK A1 A2 A3 A4 A5 B1 B2 B3 B4 B5
  obtain ⟨B1, B2, B3, B4, B5⟩ := B.out
  go_wp2_with fail
  refine (exa2 _).mono ?_; rintro e w4 ⟨q, c, rfl, hT, b4⟩
  have K := Lib.hid (belP K.out b4)
  have B := Lib.hid (B.out.below b4 rfl)
  have HT := Lib.hid (hT.below (belA w4 (.cells #[.string ⟨#[77]⟩, .int .i64 8, .slice q 2 c] 49)))
  clear b4 hT B1 B2 B3 B4 B5
  go_wp2_with fail
  refine (exa3 _ _ HT.out).mono ?_; rintro e w5 ⟨rfl, b5⟩
  have K := Lib.hid (belP (belP K.out (belA _ _)) b5)
  have B := Lib.hid ((B.out.alloc _).below b5 rfl)
  clear b5
  obtain ⟨B1, B2, B3, B4, B5⟩ := B.out
  go_wp2_with fail
  refine (exa4 _).mono ?_; rintro e w6 ⟨rfl, b6⟩
  have K := Lib.hid (belP K.out b6)
  have B := Lib.hid (B.out.below b6 rfl)
  clear b6 B1 B2 B3 B4 B5
  obtain ⟨B1, B2, B3, B4, B5⟩ := B.out
  go_wp2_with fail
  refine (exa5 _).mono ?_; rintro e w7 ⟨rfl, b7⟩
  have K := Lib.hid (belP K.out b7)
  have B := Lib.hid (B.out.below b7 rfl)
  clear b7 B1 B2 B3 B4 B5
  obtain ⟨B1, B2, B3, B4, B5⟩ := B.out
  go_wp2_with fail
  refine (exa6 _).mono ?_; rintro e w8 ⟨rfl, b8⟩
  have K := Lib.hid (belP K.out b8)
  have B := Lib.hid (B.out.below b8 rfl)
  clear b8 B1 B2 B3 B4 B5
  obtain ⟨B1, B2, B3, B4, B5⟩ := B.out
  go_wp2
  go_ret
  exact ⟨rfl, K.out⟩
end Go.Proofs.YtogmgfdihmacpaaGreatDoor
