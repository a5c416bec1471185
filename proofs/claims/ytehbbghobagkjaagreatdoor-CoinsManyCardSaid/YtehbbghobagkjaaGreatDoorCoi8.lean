/-
  Contracts of package coins, the eighth part: Left, behind.
-/
import Derived.Test.YtehbbghobagkjaaGreatDoorCoi7
namespace Go.Proofs.YtehbbghobagkjaaGreatDoor
open Go.RowKit Go.Deep
set_option linter.unusedVariables false

set_option maxHeartbeats 1000000 in
set_option maxRecDepth 100000 in
theorem left_no (v : Value) (k : Nat) (f : Nat → ByteArray) (S : ByteArray) (t : Int) (w : World) (hv : SV w v k f) (hk : k ≤ 9223372036854775807) (h : ¬ WF k f t) :
    Calls Tryz.prog 19 #[.agg #[v, .string S, .int .i64 t]] w fun e w' => e = .returned (.int .i64 0) ∧ Below w.heap.size w w' := by
  have hv2 : SV (w.alloc (.cells #[v, .string S, .int .i64 t] 24)) v k f := hv.below ((Below.refl _ _).alloc (Nat.le_refl _) _)
  have HV := Lib.hid hv2; clear hv2
  obtain ⟨p, cap, rfl, -⟩ := hv
  have HW := Lib.hid h; clear h
  obtain ⟨q0, q1, q2, q3, q4, q5, q6⟩ := Three.new w (.slice p k cap) (.string S) (.int .i64 t) 24 _ rfl
  go_enter Tryz.func19, Tryz.ntmps19
  go_wp2_with fail
  refine (wf_no _ k f S t _ HV.out hk HW.out).mono ?_; rintro e w1 ⟨rfl, b1⟩
  have B1 := Lib.hid (chk_box _ _ _ _ _ b1); clear b1
  go_wp2
  go_ret
  exact ⟨rfl, B1.out⟩
set_option maxHeartbeats 1000000 in
set_option maxRecDepth 100000 in
theorem left_yes (v : Value) (k : Nat) (f : Nat → ByteArray) (S : ByteArray) (t : Nat) (w : World) (hv : SV w v k f) (hk : k ≤ 9223372036854775807) (h : WF k f t) :
    Calls Tryz.prog 19 #[.agg #[v, .string S, .int .i64 t]] w fun e w' => e = .returned (.int .i64 ((k - t : Nat) : Int)) ∧ Below w.heap.size w w' := by
  have hv2 : SV (w.alloc (.cells #[v, .string S, .int .i64 t] 24)) v k f := hv.below ((Below.refl _ _).alloc (Nat.le_refl _) _)
  have HV := Lib.hid hv2; clear hv2
  obtain ⟨p, cap, rfl, -⟩ := hv
  have ht : (t : Int) ≤ 2147483647 := h.2.2
  have HW := Lib.hid h; clear h
  have HT := Lib.hid (Three.new w (.slice p k cap) (.string S) (.int .i64 t) 24 _ rfl)
  obtain ⟨q0, q1, q2, q3, q4, q5, q6⟩ := HT.out
  have hs : IntKind.i64.wrap ((k : Int) - (t : Int)) = (k : Int) - (t : Int) := IntWalk.i64_in _ (by omega)
  by_cases hlt : t < k
  · have hm : max ((k : Int) - (t : Int)) 0 = ((k - t : Nat) : Int) := by omega
    have hl : ((k : Int) - (t : Int) < 0) = False := by simp; omega
    have hl2 : ((k : Int) < (t : Int)) = False := by simp; omega
    clear hlt ht
    go_enter Tryz.func19, Tryz.ntmps19
    go_wp2_with fail
    refine (wf_yes _ k f S t _ HV.out hk HW.out).mono ?_; rintro e w1 ⟨rfl, b1⟩
    obtain ⟨r0, r1, r2, r3, r4, r5, r6⟩ := HT.out.below b1 rfl
    have B1 := Lib.hid (chk_box _ _ _ _ _ b1); clear b1 HT HV
    go_wp2
    go_ret
    exact ⟨rfl, B1.out⟩
  · have hm0 : ((k - t : Nat) : Int) = 0 := by omega
    rw [hm0]
    have hm : max ((k : Int) - (t : Int)) 0 = 0 := by omega
    clear hm0
    clear ht
    go_enter Tryz.func19, Tryz.ntmps19
    go_wp2_with fail
    refine (wf_yes _ k f S t _ HV.out hk HW.out).mono ?_; rintro e w1 ⟨rfl, b1⟩
    obtain ⟨r0, r1, r2, r3, r4, r5, r6⟩ := HT.out.below b1 rfl
    have B1 := Lib.hid (chk_box _ _ _ _ _ b1); clear b1 HT HV
    go_wp2
    go_ret
    exact ⟨rfl, B1.out⟩
/-- What a written result box says. -/
theorem box_end {w w1 w2 : World} {b g2 c2 k : Nat} {f : Nat → ByteArray} {c0 c1 x2 : Value} (b1 : Below w.heap.size w w1) (hT : Three w1 b c0 c1 x2) (hb : w.heap.size ≤ b) (hg : w1.heap.size ≤ g2) (hs : SV w2 (.slice (some ⟨g2, 0, none⟩) k c2) k f) (hb2 : Below w1.heap.size w1 w2) (x y z : Value) :
    Hid (w.heap.size ≤ g2 ∧ SV (((w2.setCell ⟨b, 0, none⟩ x).setCell ⟨b, 1, none⟩ y).setCell ⟨b, 2, none⟩ z) (.slice (some ⟨g2, 0, none⟩) k c2) k f ∧ Below w.heap.size w (((w2.setCell ⟨b, 0, none⟩ x).setCell ⟨b, 1, none⟩ y).setCell ⟨b, 2, none⟩ z) ∧ Three (((w2.setCell ⟨b, 0, none⟩ x).setCell ⟨b, 1, none⟩ y).setCell ⟨b, 2, none⟩ z) b x y z) := by
  have hT2 := hT.below hb2 rfl
  have hne : b ≠ g2 := by have := hT.2.2.2.2.2.2; omega
  exact ⟨Nat.le_trans b1.size hg, hs.set3 hne x y z, Below.set3 (b1.trans (hb2.mono b1.size)) hb x y z, hT2.set3 x y z⟩
set_option maxHeartbeats 4000000 in
set_option maxRecDepth 100000 in
theorem behind_any (v : Value) (k : Nat) (f : Nat → ByteArray) (S : ByteArray) (t d : Nat) (w : World) (hv : SV w v k f) (hk : k ≤ 1099511627776) (ht : t ≤ 2147483647) (hd : d ≤ 2147483647) :
    Calls Tryz.prog 23 #[.agg #[v, .string S, .int .i64 t], .int .i64 d] w fun e w' => TapeP k f S ((t + d : Nat) : Int) w e w' := by
  have hadd : IntKind.i64.wrap ((t : Int) + (d : Int)) = ((t + d : Nat) : Int) := by rw [IntWalk.i64_in _ (by omega)]; omega
  clear ht hd
  obtain ⟨s, hs⟩ : ∃ s, s = t + d := ⟨_, rfl⟩
  rw [← hs] at hadd ⊢
  clear hs
  have b0 : Below w.heap.size w (w.alloc (.cells #[v, .string S, .int .i64 t] 24)) := (Below.refl _ _).alloc (Nat.le_refl _) _
  have b1 : Below w.heap.size w ((w.alloc (.cells #[v, .string S, .int .i64 t] 24)).alloc (.cells #[.slice none 0 0, .string ⟨#[]⟩, .int .i64 0] 24)) := b0.alloc b0.size _
  have hv2 := hv.below b1.drew
  have hT0 := ((Three.new w v (.string S) (.int .i64 t) 24 _ rfl).alloc (.cells #[.slice none 0 0, .string ⟨#[]⟩, .int .i64 0] 24)).draw 1
  have hT1 := (Three.new (w.alloc (.cells #[v, .string S, .int .i64 t] 24)) (.slice none 0 0) (.string ⟨#[]⟩) (.int .i64 0) 24 _ rfl).draw 1
  simp only [World.size_alloc] at hT1
  obtain ⟨p, cap, rfl, -⟩ := hv
  have HV := Lib.hid hv2; clear hv2 b0
  have HB := Lib.hid b1.drew; clear b1
  have HT0 := Lib.hid hT0
  have HT1 := Lib.hid hT1
  clear hT0 hT1
  obtain ⟨q0, q1, q2, q3, q4, q5, q6⟩ := HT0.out
  obtain ⟨u0, u1, u2, u3, u4, u5, u6⟩ := HT1.out
  have cf := copied_any (.slice p k cap) k f _ HV.out hk
  have CF := Lib.hid cf
  clear cf
  go_enter Tryz.func23, Tryz.ntmps23
  go_wp2
  go_region_with (first
    | (go_at_call 36; refine (CF.out).mono ?_; rintro e w2 ⟨g2, c2, rfl, hg2, hs2, hb2⟩; obtain ⟨r0, r1, r2, r3, r4, r5, r6⟩ := HT0.out.below hb2 rfl; obtain ⟨s0, s1, s2, s3, s4, s5, s6⟩ := HT1.out.below hb2 rfl; have HE := box_end HB.out HT1.out (Nat.le_succ _) hg2 hs2 hb2 (.slice (some ⟨g2, 0, none⟩) k c2) (.string S) (.int .i64 s); clear hg2 hs2 hb2))
  all_goals (
    go_wp2
    have he := HE.out
    clear HE
    generalize World.setCell _ _ _ = W3 at he ⊢
    obtain ⟨h0, h1, h2, m0, m1, m2, m3, m4, m5, m6⟩ := he
    exact bodyPost_ret (v := .agg #[.slice (some ⟨g2, 0, none⟩) k c2, .string S, .int .i64 s]) (by simp [results, Tryz.results23, go_sem, m0, m1, m2]) rfl ⟨_, _, rfl, h0, h1, h2⟩)
end Go.Proofs.YtehbbghobagkjaaGreatDoor
