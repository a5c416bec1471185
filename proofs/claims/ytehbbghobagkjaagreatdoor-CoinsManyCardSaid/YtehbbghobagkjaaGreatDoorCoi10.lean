/-
  Contracts of package coins, the tenth part: Signed.
-/
import Derived.Test.YtehbbghobagkjaaGreatDoorCoi9
import Derived.Test.YtehbbghobagkjaaGreatDoorIB
namespace Go.Proofs.YtehbbghobagkjaaGreatDoor
open Go.RowKit Go.Deep
set_option linter.unusedVariables false

/-- A refusal of a signed draw. -/
def NoSigned (c : Int) (w : World) (e : Ending) (w' : World) : Prop :=
  e = .returned (.tuple #[.agg #[.bool false, .string ⟨#[]⟩], .agg #[.slice none 0 0, .string ⟨#[]⟩, .int .i64 0], .int .i64 c]) ∧ Below w.heap.size w w'
/-- A signed draw. -/
def SignP (G : Bool) (X : ByteArray) (k : Nat) (f : Nat → ByteArray) (S : ByteArray) (t : Int) (w : World) (e : Ending) (w' : World) : Prop :=
  ∃ (g cap : Nat), e = .returned (.tuple #[.agg #[.bool G, .string X], .agg #[.slice (some ⟨g, 0, none⟩) k cap, .string S, .int .i64 t], .int .i64 0]) ∧ w.heap.size ≤ g ∧ SV w' (.slice (some ⟨g, 0, none⟩) k cap) k f ∧ Below w.heap.size w w'
theorem Two.below' {w w' : World} {g : Nat} {c0 c1 : Value} (h : Two w g c0 c1) (b : Below w.heap.size w w') : Two w' g c0 c1 := Two.below h b rfl
/-- The three boxes. -/
def Boxes3 (w w' : World) (T : Value) (S : ByteArray) (t : Int) : Prop :=
  Below w.heap.size w w' ∧ Three w' w.heap.size T (.string S) (.int .i64 t) ∧ Two w' (w.heap.size + 1) (.bool false) (.string ⟨#[]⟩) ∧ Three w' (w.heap.size + 1 + 1) (.slice none 0 0) (.string ⟨#[]⟩) (.int .i64 0)
theorem Boxes3.next {w a b : World} {T : Value} {S : ByteArray} {t : Int} (h : Boxes3 w a T S t) (k : Below a.heap.size a b) : Boxes3 w b T S t :=
  ⟨bel_of h.1 k, h.2.1.below k rfl, Two.below h.2.2.1 k rfl, h.2.2.2.below k rfl⟩
theorem Boxes3.close {w a : World} {T : Value} {S : ByteArray} {t : Int} (h : Boxes3 w a T S t) (x0 x1 y0 y1 y2 : Value) :
    Hid (Below w.heap.size w (((((a.setCell ⟨w.heap.size + 1, 0, none⟩ x0).setCell ⟨w.heap.size + 1, 1, none⟩ x1).setCell ⟨w.heap.size + 1 + 1, 0, none⟩ y0).setCell ⟨w.heap.size + 1 + 1, 1, none⟩ y1).setCell ⟨w.heap.size + 1 + 1, 2, none⟩ y2) ∧
      Two (((((a.setCell ⟨w.heap.size + 1, 0, none⟩ x0).setCell ⟨w.heap.size + 1, 1, none⟩ x1).setCell ⟨w.heap.size + 1 + 1, 0, none⟩ y0).setCell ⟨w.heap.size + 1 + 1, 1, none⟩ y1).setCell ⟨w.heap.size + 1 + 1, 2, none⟩ y2) (w.heap.size + 1) x0 x1 ∧
      Three (((((a.setCell ⟨w.heap.size + 1, 0, none⟩ x0).setCell ⟨w.heap.size + 1, 1, none⟩ x1).setCell ⟨w.heap.size + 1 + 1, 0, none⟩ y0).setCell ⟨w.heap.size + 1 + 1, 1, none⟩ y1).setCell ⟨w.heap.size + 1 + 1, 2, none⟩ y2) (w.heap.size + 1 + 1) y0 y1 y2) := by
  obtain ⟨hb, -, ⟨r0, r1, r2, r3, r4⟩, s0, s1, s2, s3, s4, s5, s6⟩ := h
  refine ⟨Below.set3 (bset hb (Nat.le_succ _)) (by omega) y0 y1 y2, ⟨?_, ?_, ?_, ?_, ?_⟩, ?_, ?_, ?_, ?_, ?_, ?_, ?_⟩ <;> simp [go_sem, r0, r1, r2, r3, r4, s0, s1, s2, s3, s4, s5, s6]
theorem Boxes3.new (w : World) (T : Value) (S : ByteArray) (t : Int) (T1 T2 T3 : TypeId) : Boxes3 w (((w.alloc (.cells #[T, .string S, .int .i64 t] T1)).alloc (.cells #[.bool false, .string ⟨#[]⟩] T2)).alloc (.cells #[.slice none 0 0, .string ⟨#[]⟩, .int .i64 0] T3)) T S t := by
  have b0 : Below w.heap.size w (w.alloc (.cells #[T, .string S, .int .i64 t] T1)) := (Below.refl _ _).alloc (Nat.le_refl _) _
  have b1 := b0.alloc b0.size (.cells #[.bool false, .string ⟨#[]⟩] T2)
  have b2 := b1.alloc b1.size (.cells #[.slice none 0 0, .string ⟨#[]⟩, .int .i64 0] T3)
  have e0 := ((Three.new w T (.string S) (.int .i64 t) T1 _ rfl).alloc (.cells #[.bool false, .string ⟨#[]⟩] T2)).alloc (.cells #[.slice none 0 0, .string ⟨#[]⟩, .int .i64 0] T3)
  have e1 := Two.below (Two.new (w.alloc (.cells #[T, .string S, .int .i64 t] T1)) (.bool false) (.string ⟨#[]⟩) T2 _ rfl) ((Below.refl _ _).alloc (Nat.le_refl _) (.cells #[.slice none 0 0, .string ⟨#[]⟩, .int .i64 0] T3)) rfl
  have e2 := Three.new ((w.alloc (.cells #[T, .string S, .int .i64 t] T1)).alloc (.cells #[.bool false, .string ⟨#[]⟩] T2)) (.slice none 0 0) (.string ⟨#[]⟩) (.int .i64 0) T3 _ rfl
  simp only [World.size_alloc] at e1 e2
  exact ⟨b2, e0, e1, e2⟩
set_option maxHeartbeats 1000000 in
set_option maxRecDepth 100000 in
theorem signed_bad (v : Value) (k : Nat) (f : Nat → ByteArray) (S : ByteArray) (t : Int) (n : ByteArray) (w : World) (hv : SV w v k f) (hk : k ≤ 9223372036854775807) {c : Int} (h : ChkT k f t n c) (hc : c ≠ 0) :
    Calls Tryz.prog 11 #[.agg #[v, .string S, .int .i64 t], .string n] w fun e w' => NoSigned c w e w' := by
  have HN := Lib.hid (Boxes3.new w v S t 24 36 24)
  obtain ⟨c', h', hcall⟩ := chk_any v k f S t n _ (hv.below HN.out.1) hk
  obtain rfl : c' = c := chkT_uniq h' h
  have CC := Lib.hid hcall
  obtain ⟨q0, q1, q2, q3, q4, q5, q6⟩ := HN.out.2.1
  obtain ⟨p, cap, rfl, -⟩ := hv
  clear hcall h h'
  have hcn : (c' == 0) = false := beq_eq_false_iff_ne.2 hc
  go_enter Tryz.func11, Tryz.ntmps11
  go_wp2_with fail
  refine CC.out.mono ?_; rintro e w1 ⟨rfl, b1⟩
  have HN1 := Lib.hid (HN.out.next b1)
  obtain ⟨hb, -, ⟨r0, r1, r2, r3, r4⟩, s0, s1, s2, s3, s4, s5, s6⟩ := HN1.out
  have HE := HN1.out.close (.bool false) (.string ⟨#[]⟩) (.slice none 0 0) (.string ⟨#[]⟩) (.int .i64 0)
  clear HN CC b1 hb HN1 q0 q1 q2 q3 q4 q5 q6
  go_wp2
  have he := HE.out
  clear HE r0 r1 r2 r3 r4 s0 s1 s2 s3 s4 s5 s6
  generalize World.setCell _ _ _ = W3 at he ⊢
  obtain ⟨h2, ⟨r0, r1, -⟩, m0, m1, m2, -⟩ := he
  exact bodyPost_ret (v := .tuple #[.agg #[.bool false, .string ⟨#[]⟩], .agg #[.slice none 0 0, .string ⟨#[]⟩, .int .i64 0], .int .i64 c']) (by simp [results, Tryz.results11, go_sem, r0, r1, m0, m1, m2]) rfl ⟨rfl, h2⟩
theorem SV.next {w a b : World} {g cap k : Nat} {f : Nat → ByteArray} (h : SV a (.slice (some ⟨g, 0, none⟩) k cap) k f) (b1 : Below a.heap.size a b) : SV b (.slice (some ⟨g, 0, none⟩) k cap) k f := h.below b1
theorem bel_alloc (w : World) (T : Obj) : Below w.heap.size w (w.alloc T) := (Below.refl _ _).alloc (Nat.le_refl _) _
set_option maxHeartbeats 4000000 in
set_option maxRecDepth 100000 in
theorem signed_some (v : Value) (k : Nat) (f : Nat → ByteArray) (S : ByteArray) (t : Nat) (n : ByteArray) (w : World) (hv : SV w v k f) (hk : k ≤ 1099511627776) (hwf : WF k f t) (hn : Can n) (hn0 : 0 < n.size) (hS : S.size ≤ 1099511627776) (htab : TabW w)
    (hl : V n + (V n - 1) < Lim) {x : ByteArray} (h : nextV k f S t (E (V n + (V n - 1))) = .tuple #[.string x, .int .i64 0]) (hx : Can x) :
    Calls Tryz.prog 11 #[.agg #[v, .string S, .int .i64 t], .string n] w fun e w' => SignP (ZG ((V x : Int) - ((V n - 1 : Nat) : Int))) (ZS ((V x : Int) - ((V n - 1 : Nat) : Int))) k f S ((t + 1 : Nat) : Int) w e w' := by
  have hp : V n ≠ 0 := fun q => by have := (V_zero_iff hn).1 q; omega
  have HN := Lib.hid (Boxes3.new w v S t 24 36 24)
  obtain ⟨c', h', hcall⟩ := chk_any v k f S t n _ (hv.below HN.out.1) (by omega)
  obtain rfl : c' = 0 := chkT_uniq h' (.inr (.inr ⟨rfl, hwf, hn, hn0⟩))
  have CC := Lib.hid hcall
  have hone : (1 : Nat) < Lim := small_lim (by omega)
  have CO := Lib.hid (fun W => of_any 1 W (by omega))
  have hM : V n - 1 < Lim := by omega
  obtain ⟨M, hMe⟩ : ∃ M, M = V n - 1 := ⟨_, rfl⟩
  have CS := Lib.hid (fun W => (show Calls Tryz.prog 27 #[.string n, .string (E 1)] W fun e w' => e = .returned (.tuple #[.string (E M), .int .i64 0]) ∧ Below W.heap.size W w' by
    have := sub_yes n (E 1) W hn (can_E' hone)
    rw [V_E, subN_yes (by omega), ← hMe] at this
    exact this))
  obtain ⟨N, hNe⟩ : ∃ N, N = V n + M := ⟨_, rfl⟩
  rw [← hMe, ← hNe] at hl h
  rw [← hMe] at hM
  have CA := Lib.hid (fun W => (show Calls Tryz.prog 28 #[.string n, .string (E M)] W fun e w' => e = .returned (.tuple #[.string (E N), .int .i64 0]) ∧ Below W.heap.size W w' by
    have := add_yes n (E M) W hn (can_E' hM)
    rw [V_E, ← hNe, okN_yes hl] at this
    exact this))
  have hN0 : 0 < (E N).size := by
    refine Nat.pos_of_ne_zero fun q => ?_
    have := (V_zero_iff (can_E' hl)).2 q
    rw [V_E] at this
    omega
  obtain ⟨t1, ht1⟩ : ∃ t1 : Int, t1 = ((t + 1 : Nat) : Int) := ⟨_, rfl⟩
  have CB := Lib.hid (fun W hV hT => (show Calls Tryz.prog 8 #[.agg #[v, .string S, .int .i64 t], .string (E N)] W fun e w' => DrawP x k f S t1 W e w' by
    rw [ht1]; exact below_some v k f S t (E N) W hV hk hwf (can_E' hl) hN0 hS hT h))
  have CF := Lib.hid (fun s W (hs : Can s) => from_yes s W hs)
  obtain ⟨z, hz⟩ : ∃ z : Int, z = (V x : Int) - (M : Int) := ⟨_, rfl⟩
  have hzl : z.natAbs < Lim := by have := V_lim hx; omega
  have CI := Lib.hid (fun W => (show Calls Tryz.prog 29 #[.agg #[.bool false, .string x], .agg #[.bool false, .string (E M)]] W fun e w' => e = .returned (.tuple #[.agg #[.bool (ZG z), .string (ZS z)], .int .i64 0]) ∧ Below W.heap.size W w' by
    have := isub_yes false false x (E M) W ⟨hx, fun q => by cases q⟩ ⟨can_E' hM, fun q => by cases q⟩
    rw [show IZ false x - IZ false (E M) = z by rw [hz]; simp [IZ, sg, V_E], zokN_yes hzl] at this
    exact this))
  have HX := Lib.hid hx
  have HM := Lib.hid (can_E' hM)
  rw [← hMe, ← hz, ← ht1]
  have HV := Lib.hid hv
  have HTab := Lib.hid htab
  obtain ⟨p, cap, rfl, -⟩ := hv
  obtain ⟨q0, q1, q2, q3, q4, q5, q6⟩ := HN.out.2.1
  clear hcall h' htab hwf hn hn0 hS hl hp hone hM hMe hNe hN0 ht1 hzl hz hx h
  go_enter Tryz.func11, Tryz.ntmps11
  go_wp2_with fail
  refine CC.out.mono ?_; rintro e w1 ⟨rfl, b1⟩
  have HN1 := Lib.hid (HN.out.next b1)
  clear HN CC b1 q0 q1 q2 q3 q4 q5 q6
  go_wp2_with fail
  refine (CO.out _).mono ?_; rintro e w2 ⟨rfl, b2⟩
  have HN2 := Lib.hid (HN1.out.next b2)
  clear HN1 CO b2
  go_wp2_with fail
  refine (CS.out _).mono ?_; rintro e w3 ⟨rfl, b3⟩
  have HN3 := Lib.hid (HN2.out.next b3)
  clear HN2 CS b3
  go_wp2_with fail
  refine (CA.out _).mono ?_; rintro e w4 ⟨rfl, b4⟩
  have HN4 := Lib.hid (HN3.out.next b4)
  clear HN3 CA b4
  obtain ⟨q0, q1, q2, q3, q4, q5, q6⟩ := HN4.out.2.1
  go_wp2_with fail
  refine (CB.out _ (HV.out.below HN4.out.1) (HTab.out.below HN4.out.1)).mono ?_; rintro e w5 ⟨g5, c5, rfl, hg5, hs5, b5⟩
  have hz5 : w.heap.size + 1 + 1 < w5.heap.size := (HN4.out.next b5).2.2.2.2.2.2.2.2.2
  have HN5 := Lib.hid ((HN4.out.next b5).next (bel_alloc w5 (.cells #[.slice (some ⟨g5, 0, none⟩) k c5, .string S, .int .i64 t1] 24)))
  have HG := Lib.hid (show w4.heap.size ≤ g5 from hg5)
  have HS5 := Lib.hid (hs5.below (bel_alloc w5 (.cells #[.slice (some ⟨g5, 0, none⟩) k c5, .string S, .int .i64 t1] 24)))
  have HT5 := Lib.hid (Three.new w5 (.slice (some ⟨g5, 0, none⟩) k c5) (.string S) (.int .i64 t1) 24 _ rfl)
  clear q0 q1 q2 q3 q4 q5 q6 CB hg5 hs5 b5
  go_wp2_with fail
  refine (CF.out _ _ HX.out).mono ?_; rintro e w6 ⟨rfl, b6⟩
  have HN6 := Lib.hid (HN5.out.next b6)
  have HS6 := Lib.hid (HS5.out.below b6)
  have HT6 := Lib.hid (HT5.out.below b6 rfl)
  clear HN5 HS5 HT5 b6
  go_wp2_with fail
  refine (CF.out _ _ HM.out).mono ?_; rintro e w7 ⟨rfl, b7⟩
  have HN7 := Lib.hid (HN6.out.next b7)
  have HS7 := Lib.hid (HS6.out.below b7)
  have HT7 := Lib.hid (HT6.out.below b7 rfl)
  clear HN6 HS6 HT6 b7
  go_wp2_with fail
  refine (CI.out _).mono ?_; rintro e w8 ⟨rfl, b8⟩
  have hz8 : w.heap.size + 1 + 1 < w8.heap.size := (HN7.out.next b8).2.2.2.2.2.2.2.2.2
  have b9 := bel_alloc w8 (.cells #[.bool (ZG z), .string (ZS z)] 36)
  have HN9 := Lib.hid ((HN7.out.next b8).next b9)
  have HS9 := Lib.hid ((HS7.out.below b8).below b9)
  have HT9 := Lib.hid ((HT7.out.below b8 rfl).below b9 rfl)
  have HI9 := Lib.hid (Two.new w8 (.bool (ZG z)) (.string (ZS z)) 36 _ rfl)
  clear HN7 HS7 HT7 b8 b9 CI CF
  obtain ⟨i0, i1, i2, i3, i4⟩ := HI9.out
  obtain ⟨j0, j1, j2, j3, j4, j5, j6⟩ := HT9.out
  obtain ⟨hb, -, ⟨r0, r1, r2, r3, r4⟩, s0, s1, s2, s3, s4, s5, s6⟩ := HN9.out
  clear hb
  have n1 : ¬ w.heap.size + 1 = w5.heap.size := by omega
  have n2 : ¬ w.heap.size + 1 + 1 = w5.heap.size := by omega
  have n3 : ¬ w.heap.size + 1 = w8.heap.size := by omega
  have n4 : ¬ w.heap.size + 1 + 1 = w8.heap.size := by omega
  have m1 : ¬ w5.heap.size = w.heap.size + 1 := by omega
  have m2 : ¬ w5.heap.size = w.heap.size + 1 + 1 := by omega
  have m3 : ¬ w8.heap.size = w.heap.size + 1 := by omega
  have m4 : ¬ w8.heap.size = w.heap.size + 1 + 1 := by omega
  have hg5 : w.heap.size + 1 + 1 < g5 := Nat.lt_of_lt_of_le HN4.out.2.2.2.2.2.2.2.2.2 HG.out
  have HE := HN9.out.close (.bool (ZG z)) (.string (ZS z)) (.slice (some ⟨g5, 0, none⟩) k c5) (.string S) (.int .i64 t1)
  have HF := Lib.hid (SV.set3 (b := w.heap.size + 1 + 1) ((HS9.out.set (p := ⟨w.heap.size + 1, 0, none⟩) (by show w.heap.size + 1 ≠ g5; omega) (.bool (ZG z))).set (p := ⟨w.heap.size + 1, 1, none⟩) (by show w.heap.size + 1 ≠ g5; omega) (.string (ZS z))) (by omega) (.slice (some ⟨g5, 0, none⟩) k c5) (.string S) (.int .i64 t1))
  have HGG := Lib.hid (show w.heap.size ≤ g5 by omega)
  go_wp2_with fail
  go_region
  clear n1 n2 n3 n4 m1 m2 m3 m4 r0 r1 r2 r3 r4 s0 s1 s2 s3 s4 s5 s6 j0 j1 j2 j3 j4 j5 j6 i0 i1 i2 i3 i4 HN9 HS9 HT9 HI9
  go_wp2
  have he := HE.out
  have hf := HF.out
  clear HE HF
  generalize World.setCell _ _ _ = W3 at he hf ⊢
  obtain ⟨h2, ⟨r0, r1, -⟩, m0, m1, m2, -⟩ := he
  exact bodyPost_ret (v := .tuple #[.agg #[.bool (ZG z), .string (ZS z)], .agg #[.slice (some ⟨g5, 0, none⟩) k c5, .string S, .int .i64 t1], .int .i64 0]) (by simp [results, Tryz.results11, go_sem, r0, r1, m0, m1, m2]) rfl ⟨_, _, rfl, HGG.out, hf, h2.drew⟩
set_option maxHeartbeats 4000000 in
set_option maxRecDepth 100000 in
theorem signed_none (v : Value) (k : Nat) (f : Nat → ByteArray) (S : ByteArray) (t : Nat) (n : ByteArray) (w : World) (hv : SV w v k f) (hk : k ≤ 1099511627776) (hwf : WF k f t) (hn : Can n) (hn0 : 0 < n.size) (hS : S.size ≤ 1099511627776) (htab : TabW w)
    (hl : V n + (V n - 1) < Lim) {x : ByteArray} {c : Int} (h : nextV k f S t (E (V n + (V n - 1))) = .tuple #[.string x, .int .i64 c]) (hc : c ≠ 0) :
    Calls Tryz.prog 11 #[.agg #[v, .string S, .int .i64 t], .string n] w fun e w' => NoSigned c w e w' := by
  have hp : V n ≠ 0 := fun q => by have := (V_zero_iff hn).1 q; omega
  have HN := Lib.hid (Boxes3.new w v S t 24 36 24)
  obtain ⟨c', h', hcall⟩ := chk_any v k f S t n _ (hv.below HN.out.1) (by omega)
  obtain rfl : c' = 0 := chkT_uniq h' (.inr (.inr ⟨rfl, hwf, hn, hn0⟩))
  have CC := Lib.hid hcall
  have hone : (1 : Nat) < Lim := small_lim (by omega)
  have CO := Lib.hid (fun W => of_any 1 W (by omega))
  have hM : V n - 1 < Lim := by omega
  obtain ⟨M, hMe⟩ : ∃ M, M = V n - 1 := ⟨_, rfl⟩
  have CS := Lib.hid (fun W => (show Calls Tryz.prog 27 #[.string n, .string (E 1)] W fun e w' => e = .returned (.tuple #[.string (E M), .int .i64 0]) ∧ Below W.heap.size W w' by
    have := sub_yes n (E 1) W hn (can_E' hone)
    rw [V_E, subN_yes (by omega), ← hMe] at this
    exact this))
  obtain ⟨N, hNe⟩ : ∃ N, N = V n + M := ⟨_, rfl⟩
  rw [← hMe, ← hNe] at hl h
  rw [← hMe] at hM
  have CA := Lib.hid (fun W => (show Calls Tryz.prog 28 #[.string n, .string (E M)] W fun e w' => e = .returned (.tuple #[.string (E N), .int .i64 0]) ∧ Below W.heap.size W w' by
    have := add_yes n (E M) W hn (can_E' hM)
    rw [V_E, ← hNe, okN_yes hl] at this
    exact this))
  have hN0 : 0 < (E N).size := by
    refine Nat.pos_of_ne_zero fun q => ?_
    have := (V_zero_iff (can_E' hl)).2 q
    rw [V_E] at this
    omega
  have CB := Lib.hid (fun W hV hT => (show Calls Tryz.prog 8 #[.agg #[v, .string S, .int .i64 t], .string (E N)] W fun e w' => NoTape c W e w' from
    below_none v k f S t (E N) W hV (by omega) hwf (can_E' hl) hN0 hS hT h hc))
  have hcn : (c == 0) = false := beq_eq_false_iff_ne.2 hc
  have HV := Lib.hid hv
  have HTab := Lib.hid htab
  obtain ⟨p, cap, rfl, -⟩ := hv
  obtain ⟨q0, q1, q2, q3, q4, q5, q6⟩ := HN.out.2.1
  clear hcall h' htab hwf hn hn0 hS hl hp hone hM hMe hNe hN0 h
  go_enter Tryz.func11, Tryz.ntmps11
  go_wp2_with fail
  refine CC.out.mono ?_; rintro e w1 ⟨rfl, b1⟩
  have HN1 := Lib.hid (HN.out.next b1)
  clear HN CC b1 q0 q1 q2 q3 q4 q5 q6
  go_wp2_with fail
  refine (CO.out _).mono ?_; rintro e w2 ⟨rfl, b2⟩
  have HN2 := Lib.hid (HN1.out.next b2)
  clear HN1 CO b2
  go_wp2_with fail
  refine (CS.out _).mono ?_; rintro e w3 ⟨rfl, b3⟩
  have HN3 := Lib.hid (HN2.out.next b3)
  clear HN2 CS b3
  go_wp2_with fail
  refine (CA.out _).mono ?_; rintro e w4 ⟨rfl, b4⟩
  have HN4 := Lib.hid (HN3.out.next b4)
  clear HN3 CA b4
  obtain ⟨q0, q1, q2, q3, q4, q5, q6⟩ := HN4.out.2.1
  go_wp2_with fail
  refine (CB.out _ (HV.out.below HN4.out.1) (HTab.out.below HN4.out.1)).mono ?_; rintro e w5 ⟨rfl, b5⟩
  have hz5 : w.heap.size + 1 + 1 < w5.heap.size := (HN4.out.next b5).2.2.2.2.2.2.2.2.2
  have HN5 := Lib.hid ((HN4.out.next b5).next (bel_alloc w5 (.cells #[.slice none 0 0, .string ⟨#[]⟩, .int .i64 0] 24)))
  clear q0 q1 q2 q3 q4 q5 q6 CB b5 HN4
  obtain ⟨hb, -, ⟨r0, r1, r2, r3, r4⟩, s0, s1, s2, s3, s4, s5, s6⟩ := HN5.out
  clear hb
  have HE := HN5.out.close (.bool false) (.string ⟨#[]⟩) (.slice none 0 0) (.string ⟨#[]⟩) (.int .i64 0)
  go_wp2
  have he := HE.out
  clear HE r0 r1 r2 r3 r4 s0 s1 s2 s3 s4 s5 s6
  generalize World.setCell _ _ _ = W3 at he ⊢
  obtain ⟨h2, ⟨r0, r1, -⟩, m0, m1, m2, -⟩ := he
  exact bodyPost_ret (v := .tuple #[.agg #[.bool false, .string ⟨#[]⟩], .agg #[.slice none 0 0, .string ⟨#[]⟩, .int .i64 0], .int .i64 c]) (by simp [results, Tryz.results11, go_sem, r0, r1, m0, m1, m2]) rfl ⟨rfl, h2⟩
set_option maxHeartbeats 4000000 in
set_option maxRecDepth 100000 in
theorem signed_long (v : Value) (k : Nat) (f : Nat → ByteArray) (S : ByteArray) (t : Nat) (n : ByteArray) (w : World) (hv : SV w v k f) (hk : k ≤ 1099511627776) (hwf : WF k f t) (hn : Can n) (hn0 : 0 < n.size) (hS : S.size ≤ 1099511627776) (htab : TabW w)
    (hl : ¬ V n + (V n - 1) < Lim) :
    Calls Tryz.prog 11 #[.agg #[v, .string S, .int .i64 t], .string n] w fun e w' => NoSigned 5 w e w' := by
  have hp : V n ≠ 0 := fun q => by have := (V_zero_iff hn).1 q; omega
  have HN := Lib.hid (Boxes3.new w v S t 24 36 24)
  obtain ⟨c', h', hcall⟩ := chk_any v k f S t n _ (hv.below HN.out.1) (by omega)
  obtain rfl : c' = 0 := chkT_uniq h' (.inr (.inr ⟨rfl, hwf, hn, hn0⟩))
  have CC := Lib.hid hcall
  have hone : (1 : Nat) < Lim := small_lim (by omega)
  have CO := Lib.hid (fun W => of_any 1 W (by omega))
  have hM : V n - 1 < Lim := by have := V_lim hn; omega
  obtain ⟨M, hMe⟩ : ∃ M, M = V n - 1 := ⟨_, rfl⟩
  have CS := Lib.hid (fun W => (show Calls Tryz.prog 27 #[.string n, .string (E 1)] W fun e w' => e = .returned (.tuple #[.string (E M), .int .i64 0]) ∧ Below W.heap.size W w' by
    have := sub_yes n (E 1) W hn (can_E' hone)
    rw [V_E, subN_yes (by omega), ← hMe] at this
    exact this))
  obtain ⟨N, hNe⟩ : ∃ N, N = V n + M := ⟨_, rfl⟩
  rw [← hMe, ← hNe] at hl
  rw [← hMe] at hM
  have CA := Lib.hid (fun W => (show Calls Tryz.prog 28 #[.string n, .string (E M)] W fun e w' => e = .returned (.tuple #[.string (E 0), .int .i64 5]) ∧ Below W.heap.size W w' by
    have := add_yes n (E M) W hn (can_E' hM)
    rw [V_E, ← hNe, okN_no hl] at this
    exact this))
  have HV := Lib.hid hv
  have HTab := Lib.hid htab
  obtain ⟨p, cap, rfl, -⟩ := hv
  obtain ⟨q0, q1, q2, q3, q4, q5, q6⟩ := HN.out.2.1
  clear hcall h' htab hwf hn hn0 hS hl hp hone hM hMe hNe
  go_enter Tryz.func11, Tryz.ntmps11
  go_wp2_with fail
  refine CC.out.mono ?_; rintro e w1 ⟨rfl, b1⟩
  have HN1 := Lib.hid (HN.out.next b1)
  clear HN CC b1 q0 q1 q2 q3 q4 q5 q6
  go_wp2_with fail
  refine (CO.out _).mono ?_; rintro e w2 ⟨rfl, b2⟩
  have HN2 := Lib.hid (HN1.out.next b2)
  clear HN1 CO b2
  go_wp2_with fail
  refine (CS.out _).mono ?_; rintro e w3 ⟨rfl, b3⟩
  have HN3 := Lib.hid (HN2.out.next b3)
  clear HN2 CS b3
  go_wp2_with fail
  refine (CA.out _).mono ?_; rintro e w4 ⟨rfl, b4⟩
  have HN4 := Lib.hid (HN3.out.next b4)
  clear HN3 CA b4
  obtain ⟨hb, -, ⟨r0, r1, r2, r3, r4⟩, s0, s1, s2, s3, s4, s5, s6⟩ := HN4.out
  clear hb
  have HE := HN4.out.close (.bool false) (.string ⟨#[]⟩) (.slice none 0 0) (.string ⟨#[]⟩) (.int .i64 0)
  go_wp2
  have he := HE.out
  clear HE r0 r1 r2 r3 r4 s0 s1 s2 s3 s4 s5 s6
  generalize World.setCell _ _ _ = W3 at he ⊢
  obtain ⟨h2, ⟨r0, r1, -⟩, m0, m1, m2, -⟩ := he
  exact bodyPost_ret (v := .tuple #[.agg #[.bool false, .string ⟨#[]⟩], .agg #[.slice none 0 0, .string ⟨#[]⟩, .int .i64 0], .int .i64 5]) (by simp [results, Tryz.results11, go_sem, r0, r1, m0, m1, m2]) rfl ⟨rfl, h2⟩
end Go.Proofs.YtehbbghobagkjaaGreatDoor
