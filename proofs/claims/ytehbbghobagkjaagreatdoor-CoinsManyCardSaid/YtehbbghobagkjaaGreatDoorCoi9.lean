/-
  Contracts of package coins, the ninth part: Below.
-/
import Derived.Test.YtehbbghobagkjaaGreatDoorCoi8
namespace Go.Proofs.YtehbbghobagkjaaGreatDoor
open Go.RowKit Go.Deep
set_option linter.unusedVariables false

/-- A refusal with a tape. -/
def NoTape (c : Int) (w : World) (e : Ending) (w' : World) : Prop :=
  e = .returned (.tuple #[.string ⟨#[]⟩, .agg #[.slice none 0 0, .string ⟨#[]⟩, .int .i64 0], .int .i64 c]) ∧ Below w.heap.size w w'
/-- A draw and the tape behind it. -/
def DrawP (x : ByteArray) (k : Nat) (f : Nat → ByteArray) (S : ByteArray) (t : Int) (w : World) (e : Ending) (w' : World) : Prop :=
  ∃ (g cap : Nat), e = .returned (.tuple #[.string x, .agg #[.slice (some ⟨g, 0, none⟩) k cap, .string S, .int .i64 t], .int .i64 0]) ∧ w.heap.size ≤ g ∧ SV w' (.slice (some ⟨g, 0, none⟩) k cap) k f ∧ Below w.heap.size w w'
theorem box2_below (w : World) (T U : Obj) : Below w.heap.size w ((w.alloc T).alloc U) := by
  have b0 : Below w.heap.size w (w.alloc T) := (Below.refl _ _).alloc (Nat.le_refl _) _
  exact b0.alloc b0.size _
theorem box2_first (w : World) (c0 c1 c2 : Value) (T : TypeId) (U : Obj) : Three ((w.alloc (.cells #[c0, c1, c2] T)).alloc U) w.heap.size c0 c1 c2 := (Three.new w c0 c1 c2 T _ rfl).alloc _
theorem box2_second (w : World) (c0 c1 c2 : Value) (T : TypeId) (U : Obj) : Three ((w.alloc U).alloc (.cells #[c0, c1, c2] T)) (w.heap.size + 1) c0 c1 c2 := by
  have := Three.new (w.alloc U) c0 c1 c2 T _ rfl
  simp only [World.size_alloc] at this ⊢
  exact this
theorem bel_of {w w1 w2 : World} (b1 : Below w.heap.size w w1) (b2 : Below w1.heap.size w1 w2) : Below w.heap.size w w2 := b1.trans (b2.mono b1.size)
theorem chkT_uniq {k : Nat} {f : Nat → ByteArray} {t : Int} {n : ByteArray} {c d : Int} (h : ChkT k f t n c) (h' : ChkT k f t n d) : c = d := by
  rcases h with ⟨rfl, h⟩ | ⟨rfl, h1, h2, h3⟩ | ⟨rfl, h1, h2, h3⟩ <;> rcases h' with ⟨rfl, h'⟩ | ⟨rfl, k1, k2, k3⟩ | ⟨rfl, k1, k2, k3⟩
  · rfl
  · exact absurd ⟨k1, k2⟩ h
  · exact absurd ⟨k1, k2⟩ h
  · exact absurd ⟨h1, h2⟩ h'
  · rfl
  · omega
  · exact absurd ⟨h1, h2⟩ h'
  · omega
  · rfl
set_option maxHeartbeats 1000000 in
set_option maxRecDepth 100000 in
theorem below_bad (v : Value) (k : Nat) (f : Nat → ByteArray) (S : ByteArray) (t : Int) (n : ByteArray) (w : World) (hv : SV w v k f) (hk : k ≤ 9223372036854775807) {c : Int} (h : ChkT k f t n c) (hc : c ≠ 0) :
    Calls Tryz.prog 8 #[.agg #[v, .string S, .int .i64 t], .string n] w fun e w' => NoTape c w e w' := by
  have b1 := box2_below w (.cells #[v, .string S, .int .i64 t] 24) (.cells #[.slice none 0 0, .string ⟨#[]⟩, .int .i64 0] 24)
  obtain ⟨c', h', hcall⟩ := chk_any v k f S t n _ (hv.below b1) hk
  obtain rfl : c' = c := chkT_uniq h' h
  have CC := Lib.hid hcall
  have HB := Lib.hid b1
  have HT1 := Lib.hid (box2_second w (.slice none 0 0) (.string ⟨#[]⟩) (.int .i64 0) 24 (.cells #[v, .string S, .int .i64 t] 24))
  have hT0 := box2_first w v (.string S) (.int .i64 t) 24 (.cells #[.slice none 0 0, .string ⟨#[]⟩, .int .i64 0] 24)
  obtain ⟨p, cap, rfl, -⟩ := hv
  obtain ⟨q0, q1, q2, q3, q4, q5, q6⟩ := hT0
  clear hcall b1 h h'
  have hcn : (c' == 0) = false := beq_eq_false_iff_ne.2 hc
  go_enter Tryz.func8, Tryz.ntmps8
  go_wp2_with fail
  refine CC.out.mono ?_; rintro e w1 ⟨rfl, b1⟩
  obtain ⟨s0, s1, s2, s3, s4, s5, s6⟩ := HT1.out.below b1 rfl
  have HE := Lib.hid (And.intro (Below.set3 (b := w.heap.size + 1) (bel_of HB.out b1) (Nat.le_succ _) (.slice none 0 0) (.string ⟨#[]⟩) (.int .i64 0)) (Three.set3 (HT1.out.below b1 rfl) (.slice none 0 0) (.string ⟨#[]⟩) (.int .i64 0)))
  clear HB HT1 CC b1
  go_wp2
  have he := HE.out
  clear HE
  generalize World.setCell _ _ _ = W3 at he ⊢
  obtain ⟨h2, m0, m1, m2, m3, m4, m5, m6⟩ := he
  exact bodyPost_ret (v := .tuple #[.string ⟨#[]⟩, .agg #[.slice none 0 0, .string ⟨#[]⟩, .int .i64 0], .int .i64 c']) (by simp [results, Tryz.results8, go_sem, m0, m1, m2]) rfl ⟨rfl, h2⟩
/-- Next, behind a good check. -/
theorem next_any (v : Value) (k : Nat) (f : Nat → ByteArray) (S : ByteArray) (t : Nat) (n : ByteArray) (w : World) (hv : SV w v k f) (hk : k ≤ 9223372036854775807) (hwf : WF k f t) (hn : Can n) (hn0 : 0 < n.size) (hS : S.size ≤ 1099511627776) (htab : TabW w) :
    Calls Tryz.prog 22 #[.agg #[v, .string S, .int .i64 t], .string n] w fun e w' => e = .returned (nextV k f S t n) ∧ Below w.heap.size w w' := by
  have ht : t ≤ 2147483647 := by have := hwf.2.2; omega
  by_cases hlt : t < k
  · exact next_explicit v k f S t n w hv hk hwf.1 hn hlt ht
  · by_cases h : t = 2147483647 ∨ S.size = 0
    · exact next_none v k f S t n w hv hk hlt ht h
    · exact next_seed v k f S t n w hv hk hn hn0 hlt (by omega) (fun q => h (.inr q)) hS htab
set_option maxHeartbeats 2000000 in
set_option maxRecDepth 100000 in
theorem below_none (v : Value) (k : Nat) (f : Nat → ByteArray) (S : ByteArray) (t : Nat) (n : ByteArray) (w : World) (hv : SV w v k f) (hk : k ≤ 9223372036854775807) (hwf : WF k f t) (hn : Can n) (hn0 : 0 < n.size) (hS : S.size ≤ 1099511627776) (htab : TabW w)
    {x : ByteArray} {c : Int} (h : nextV k f S t n = .tuple #[.string x, .int .i64 c]) (hc : c ≠ 0) :
    Calls Tryz.prog 8 #[.agg #[v, .string S, .int .i64 t], .string n] w fun e w' => NoTape c w e w' := by
  have b1 := box2_below w (.cells #[v, .string S, .int .i64 t] 24) (.cells #[.slice none 0 0, .string ⟨#[]⟩, .int .i64 0] 24)
  obtain ⟨c', h', hcall⟩ := chk_any v k f S t n _ (hv.below b1) hk
  obtain rfl : c' = 0 := chkT_uniq h' (.inr (.inr ⟨rfl, hwf, hn, hn0⟩))
  have CC := Lib.hid hcall
  have CN := Lib.hid (fun W hV hT => h ▸ next_any v k f S t n W hV hk hwf hn hn0 hS hT)
  have HB := Lib.hid b1
  have HV := Lib.hid hv
  have HTab := Lib.hid htab
  have HT1 := Lib.hid (box2_second w (.slice none 0 0) (.string ⟨#[]⟩) (.int .i64 0) 24 (.cells #[v, .string S, .int .i64 t] 24))
  have HT0 := Lib.hid (box2_first w v (.string S) (.int .i64 t) 24 (.cells #[.slice none 0 0, .string ⟨#[]⟩, .int .i64 0] 24))
  obtain ⟨p, cap, rfl, -⟩ := hv
  obtain ⟨q0, q1, q2, q3, q4, q5, q6⟩ := HT0.out
  clear hcall b1 h h' htab hwf hn hn0 hS
  have hcn : (c == 0) = false := beq_eq_false_iff_ne.2 hc
  go_enter Tryz.func8, Tryz.ntmps8
  go_wp2_with fail
  refine CC.out.mono ?_; rintro e w1 ⟨rfl, b1⟩
  have HB1 := Lib.hid (bel_of HB.out b1)
  have HT01 := Lib.hid (HT0.out.below b1 rfl)
  have HT11 := Lib.hid (HT1.out.below b1 rfl)
  clear q0 q1 q2 q3 q4 q5 q6 b1 HB HT0 HT1 CC
  obtain ⟨q0, q1, q2, q3, q4, q5, q6⟩ := HT01.out
  go_wp2_with fail
  refine (CN.out _ (HV.out.below HB1.out) (HTab.out.below HB1.out)).mono ?_; rintro e w2 ⟨rfl, b2⟩
  have HB2 := Lib.hid (bel_of HB1.out b2)
  have HT12 := Lib.hid (HT11.out.below b2 rfl)
  clear q0 q1 q2 q3 q4 q5 q6 b2 HB1 HT01 HT11 CN
  obtain ⟨s0, s1, s2, s3, s4, s5, s6⟩ := HT12.out
  have HE := Lib.hid (And.intro (Below.set3 (b := w.heap.size + 1) HB2.out (Nat.le_succ _) (.slice none 0 0) (.string ⟨#[]⟩) (.int .i64 0)) (Three.set3 HT12.out (.slice none 0 0) (.string ⟨#[]⟩) (.int .i64 0)))
  clear HB2 HT12
  go_wp2
  have he := HE.out
  clear HE
  generalize World.setCell _ _ _ = W3 at he ⊢
  obtain ⟨h2, m0, m1, m2, m3, m4, m5, m6⟩ := he
  exact bodyPost_ret (v := .tuple #[.string ⟨#[]⟩, .agg #[.slice none 0 0, .string ⟨#[]⟩, .int .i64 0], .int .i64 c]) (by simp [results, Tryz.results8, go_sem, m0, m1, m2]) rfl ⟨rfl, h2⟩
set_option maxHeartbeats 2000000 in
set_option maxRecDepth 100000 in
theorem below_some (v : Value) (k : Nat) (f : Nat → ByteArray) (S : ByteArray) (t : Nat) (n : ByteArray) (w : World) (hv : SV w v k f) (hk : k ≤ 1099511627776) (hwf : WF k f t) (hn : Can n) (hn0 : 0 < n.size) (hS : S.size ≤ 1099511627776) (htab : TabW w)
    {x : ByteArray} (h : nextV k f S t n = .tuple #[.string x, .int .i64 0]) :
    Calls Tryz.prog 8 #[.agg #[v, .string S, .int .i64 t], .string n] w fun e w' => DrawP x k f S ((t + 1 : Nat) : Int) w e w' := by
  have b1 := box2_below w (.cells #[v, .string S, .int .i64 t] 24) (.cells #[.slice none 0 0, .string ⟨#[]⟩, .int .i64 0] 24)
  obtain ⟨c', h', hcall⟩ := chk_any v k f S t n _ (hv.below b1) (by omega)
  obtain rfl : c' = 0 := chkT_uniq h' (.inr (.inr ⟨rfl, hwf, hn, hn0⟩))
  have CC := Lib.hid hcall
  have CN := Lib.hid (fun W hV hT => h ▸ next_any v k f S t n W hV (by omega) hwf hn hn0 hS hT)
  have ht : t ≤ 2147483647 := by have := hwf.2.2; omega
  obtain ⟨t1, ht1⟩ : ∃ t1 : Int, t1 = ((t + 1 : Nat) : Int) := ⟨_, rfl⟩
  have CB := Lib.hid (fun W hV => (show Calls Tryz.prog 23 #[.agg #[v, .string S, .int .i64 t], .int .i64 ((1 : Nat) : Int)] W fun e w' => TapeP k f S t1 W e w' by rw [ht1]; exact behind_any v k f S t 1 W hV hk ht (by omega)))
  rw [← ht1]
  clear ht1
  have HB := Lib.hid b1
  have HV := Lib.hid hv
  have HTab := Lib.hid htab
  have HT1 := Lib.hid (box2_second w (.slice none 0 0) (.string ⟨#[]⟩) (.int .i64 0) 24 (.cells #[v, .string S, .int .i64 t] 24))
  have HT0 := Lib.hid (box2_first w v (.string S) (.int .i64 t) 24 (.cells #[.slice none 0 0, .string ⟨#[]⟩, .int .i64 0] 24))
  obtain ⟨p, cap, rfl, -⟩ := hv
  obtain ⟨q0, q1, q2, q3, q4, q5, q6⟩ := HT0.out
  clear hcall b1 h h' htab hwf hn hn0 hS ht
  go_enter Tryz.func8, Tryz.ntmps8
  go_wp2_with fail
  refine CC.out.mono ?_; rintro e w1 ⟨rfl, b1⟩
  have HB1 := Lib.hid (bel_of HB.out b1)
  have HT01 := Lib.hid (HT0.out.below b1 rfl)
  have HT11 := Lib.hid (HT1.out.below b1 rfl)
  clear q0 q1 q2 q3 q4 q5 q6 b1 HB HT0 HT1 CC
  obtain ⟨q0, q1, q2, q3, q4, q5, q6⟩ := HT01.out
  go_wp2_with fail
  refine (CN.out _ (HV.out.below HB1.out) (HTab.out.below HB1.out)).mono ?_; rintro e w2 ⟨rfl, b2⟩
  have HB2 := Lib.hid (bel_of HB1.out b2)
  have HT02 := Lib.hid (HT01.out.below b2 rfl)
  have HT12 := Lib.hid (HT11.out.below b2 rfl)
  clear q0 q1 q2 q3 q4 q5 q6 b2 HB1 HT01 HT11 CN
  obtain ⟨q0, q1, q2, q3, q4, q5, q6⟩ := HT02.out
  go_wp2_with fail
  refine (CB.out _ (HV.out.below HB2.out)).mono ?_; rintro e w3 ⟨g3, c3, rfl, hg3, hs3, b3⟩
  obtain ⟨s0, s1, s2, s3, s4, s5, s6⟩ := HT12.out.below b3 rfl
  have HE := box_end HB2.out HT12.out (Nat.le_succ _) hg3 hs3 b3 (.slice (some ⟨g3, 0, none⟩) k c3) (.string S) (.int .i64 t1)
  clear HB2 HT02 HT12 hg3 hs3 b3 q0 q1 q2 q3 q4 q5 q6
  go_wp2
  have he := HE.out
  clear HE
  generalize World.setCell _ _ _ = W3 at he ⊢
  obtain ⟨h0, h1, h2, m0, m1, m2, m3, m4, m5, m6⟩ := he
  exact bodyPost_ret (v := .tuple #[.string x, .agg #[.slice (some ⟨g3, 0, none⟩) k c3, .string S, .int .i64 t1], .int .i64 0]) (by simp [results, Tryz.results8, go_sem, m0, m1, m2]) rfl ⟨_, _, rfl, h0, h1, h2⟩
end Go.Proofs.YtehbbghobagkjaaGreatDoor
