/-
  Contracts of package coins, the sixth part: next.
-/
import Derived.Test.YtehbbghobagkjaaGreatDoorCoi5
import Derived.Deep.RegionWith
namespace Go.Proofs.YtehbbghobagkjaaGreatDoor
open Go.RowKit Go.Deep
set_option linter.unusedVariables false

/-- What next answers. -/
def nextV (k : Nat) (f : Nat → ByteArray) (S : ByteArray) (t : Nat) (n : ByteArray) : Value :=
  if t < k then (if V (f t) < V n then (if t = 2147483647 then .tuple #[.string ⟨#[]⟩, .int .i64 14] else .tuple #[.string (f t), .int .i64 0]) else .tuple #[.string ⟨#[]⟩, .int .i64 2])
  else (if t = 2147483647 ∨ S.size = 0 then .tuple #[.string ⟨#[]⟩, .int .i64 14] else FBv (firstN S.data.toList t (V n) 0 256))
theorem nextV_form (k : Nat) (f : Nat → ByteArray) (S : ByteArray) (t : Nat) (n : ByteArray) : ∃ (x : ByteArray) (c : Int), nextV k f S t n = .tuple #[.string x, .int .i64 c] := by
  unfold nextV
  split
  · split
    · split
      · exact ⟨_, _, rfl⟩
      · exact ⟨_, _, rfl⟩
    · exact ⟨_, _, rfl⟩
  · split
    · exact ⟨_, _, rfl⟩
    · cases firstN S.data.toList t (V n) 0 256 with
      | none => exact ⟨_, _, rfl⟩
      | some x => exact ⟨_, _, rfl⟩
theorem candB_new (W : World) (S : ByteArray) (t bits : Nat) (h : TabW W) (hS : S.size ≤ 1099511627776) (ht : t ≤ 4294967295) (hb : 0 < bits) :
    CandB (((W.alloc (.cells #[.string S] 9)).alloc (.cells #[.int .i64 t] 3)).alloc (.cells #[.int .i64 bits] 3)) W.heap.size (W.heap.size + 1) (W.heap.size + 1 + 1) S t bits := by
  have e0 := Boxed.new W 9 (.string S)
  have e1 := Boxed.new (W.alloc (.cells #[.string S] 9)) 3 (.int .i64 t)
  have e2 := Boxed.new ((W.alloc (.cells #[.string S] 9)).alloc (.cells #[.int .i64 t] 3)) 3 (.int .i64 bits)
  simp only [World.size_alloc] at e1 e2
  exact ⟨((e0.alloc _).alloc _).cell, (e1.alloc _).cell, e2.cell, ((h.alloc _).alloc _).alloc _, hS, ht, hb⟩
theorem nbits_pos {n : ByteArray} (hc : Can n) (h : 0 < n.size) : 0 < nbits (V n) := by
  have h0 : V n ≠ 0 := fun q => by have := (V_zero_iff hc).1 q; omega
  unfold nbits
  rw [if_neg h0]; omega
theorem sgn_ge {a b : Nat} (h : ¬ a < b) : 0 ≤ sgn a b := by unfold sgn; rw [if_neg h]; split <;> omega
theorem sgn_lt0 {a b : Nat} (h : a < b) : sgn a b = -1 := by unfold sgn; rw [if_pos h]

set_option maxHeartbeats 2000000 in
set_option maxRecDepth 20000 in
theorem next_explicit (v : Value) (k : Nat) (f : Nat → ByteArray) (S : ByteArray) (t : Nat) (n : ByteArray) (w : World) (hv : SV w v k f) (hk : k ≤ 9223372036854775807) (hw : ∀ j, j < k → Can (f j)) (hn : Can n) (hlt : t < k) (ht : t ≤ 2147483647) :
    Calls Tryz.prog 22 #[.agg #[v, .string S, .int .i64 t], .string n] w fun e w' => e = .returned (nextV k f S t n) ∧ Below w.heap.size w w' := by
  have hv2 : SV (w.alloc (.cells #[v, .string S, .int .i64 t] 24)) v k f := hv.below ((Below.refl _ _).alloc (Nat.le_refl _) _)
  have HB := Lib.hid (show Below w.heap.size w (w.alloc (.cells #[v, .string S, .int .i64 t] 24)) from (Below.refl _ _).alloc (Nat.le_refl _) _)
  obtain ⟨p, cap, rfl, hc⟩ := hv2
  obtain ⟨a, rfl, ha, hcell⟩ := hc t hlt
  have hcan := hw t hlt
  clear hc hv hw
  obtain ⟨q0, q1, q2, q3, q4, q5, q6⟩ := Three.new w (.slice (some a) k cap) (.string S) (.int .i64 t) 24 _ rfl
  have hlti : (t : Int) < (k : Int) := by omega
  obtain ⟨x, hx⟩ : ∃ x, x = f t := ⟨_, rfl⟩
  rw [← hx] at hcell hcan
  have HX := Lib.hid hcan; clear hcan
  have HN := Lib.hid hn; clear hn
  by_cases hcmp : V x < V n
  · by_cases hend : t = 2147483647
    · have hV : nextV k f S t n = .tuple #[.string ⟨#[]⟩, .int .i64 14] := by unfold nextV; rw [if_pos hlt, ← hx, if_pos hcmp, if_pos hend]
      rw [hV]
      have hs := sgn_lt0 hcmp
      have hei : ((t : Int) == 2147483647) = true := by rw [beq_iff_eq]; omega
      clear hx hcmp hV hlt ht hend
      go_enter Tryz.func22, Tryz.ntmps22
      go_wp2_with fail
      refine (cmp_yes x n _ HX.out HN.out).mono ?_; rintro e wx ⟨rfl, rfl⟩
      rw [hs]
      go_wp2
      go_ret2
      exact ⟨rfl, HB.out⟩
    · have hV : nextV k f S t n = .tuple #[.string x, .int .i64 0] := by unfold nextV; rw [if_pos hlt, ← hx, if_pos hcmp, if_neg hend]
      rw [hV]
      have hs := sgn_lt0 hcmp
      have hei : ((t : Int) == 2147483647) = false := by rw [beq_eq_false_iff_ne]; omega
      have hei2 : ¬ (t : Int) = 2147483647 := by omega
      clear hx hcmp hV hlt ht hend
      go_enter Tryz.func22, Tryz.ntmps22
      go_wp2_with fail
      refine (cmp_yes x n _ HX.out HN.out).mono ?_; rintro e wx ⟨rfl, rfl⟩
      rw [hs]
      go_wp2
      go_ret2
      exact ⟨rfl, HB.out⟩
  · have hV : nextV k f S t n = .tuple #[.string ⟨#[]⟩, .int .i64 2] := by unfold nextV; rw [if_pos hlt, ← hx, if_neg hcmp]
    rw [hV]
    obtain ⟨z, hz, hz0⟩ : ∃ z, sgn (V x) (V n) = z ∧ 0 ≤ z := ⟨_, rfl, sgn_ge hcmp⟩
    clear hx hcmp hV hlt ht
    go_enter Tryz.func22, Tryz.ntmps22
    go_wp2_with fail
    refine (cmp_yes x n _ HX.out HN.out).mono ?_; rintro e wx ⟨rfl, rfl⟩
    rw [hz]
    go_wp2
    go_ret2
    exact ⟨rfl, HB.out⟩
set_option maxHeartbeats 2000000 in
set_option maxRecDepth 20000 in
theorem next_none (v : Value) (k : Nat) (f : Nat → ByteArray) (S : ByteArray) (t : Nat) (n : ByteArray) (w : World) (hv : SV w v k f) (hk : k ≤ 9223372036854775807) (hlt : ¬ t < k) (ht : t ≤ 2147483647) (h : t = 2147483647 ∨ S.size = 0) :
    Calls Tryz.prog 22 #[.agg #[v, .string S, .int .i64 t], .string n] w fun e w' => e = .returned (nextV k f S t n) ∧ Below w.heap.size w w' := by
  have hV : nextV k f S t n = .tuple #[.string ⟨#[]⟩, .int .i64 14] := by unfold nextV; rw [if_neg hlt, if_pos h]
  rw [hV]
  have HB := Lib.hid (show Below w.heap.size w (w.alloc (.cells #[v, .string S, .int .i64 t] 24)) from (Below.refl _ _).alloc (Nat.le_refl _) _)
  obtain ⟨p, cap, rfl, hc⟩ := hv
  obtain ⟨q0, q1, q2, q3, q4, q5, q6⟩ := Three.new w (.slice p k cap) (.string S) (.int .i64 t) 24 _ rfl
  have hlti : ¬ (t : Int) < (k : Int) := by omega
  clear hc hV
  by_cases hend : t = 2147483647
  · subst hend
    clear h ht hlt
    go_enter Tryz.func22, Tryz.ntmps22
    go_wp2
    go_ret2
    exact ⟨rfl, HB.out⟩
  · have h0 : S.size = 0 := h.resolve_left hend
    have hE := empty_of h0
    have hei : ((t : Int) == 2147483647) = false := by rw [beq_eq_false_iff_ne]; omega
    have hei2 : ¬ (t : Int) = 2147483647 := by omega
    clear h ht hlt hend h0
    go_enter Tryz.func22, Tryz.ntmps22
    go_wp2
    go_ret2
    exact ⟨rfl, HB.out⟩
set_option maxHeartbeats 4000000 in
set_option maxRecDepth 20000 in
theorem next_seed (v : Value) (k : Nat) (f : Nat → ByteArray) (S : ByteArray) (t : Nat) (n : ByteArray) (w : World) (hv : SV w v k f) (hk : k ≤ 9223372036854775807) (hn : Can n) (hn0 : 0 < n.size) (hlt : ¬ t < k) (ht : t < 2147483647) (h0 : S.size ≠ 0) (hS : S.size ≤ 1099511627776) (htab : TabW w) :
    Calls Tryz.prog 22 #[.agg #[v, .string S, .int .i64 t], .string n] w fun e w' => e = .returned (nextV k f S t n) ∧ Below w.heap.size w w' := by
  have hV : nextV k f S t n = FBv (firstN S.data.toList t (V n) 0 256) := by unfold nextV; rw [if_neg hlt, if_neg (fun q => by rcases q with q | q <;> omega)]
  rw [hV]
  have HB := Lib.hid (show Below w.heap.size w (w.alloc (.cells #[v, .string S, .int .i64 t] 24)) from (Below.refl _ _).alloc (Nat.le_refl _) _)
  have HT := Lib.hid (htab.alloc (.cells #[v, .string S, .int .i64 t] 24)); clear htab
  obtain ⟨p, cap, rfl, hc⟩ := hv
  obtain ⟨q0, q1, q2, q3, q4, q5, q6⟩ := Three.new w (.slice p k cap) (.string S) (.int .i64 t) 24 _ rfl
  have hlti : ¬ (t : Int) < (k : Int) := by omega
  have hei : ((t : Int) == 2147483647) = false := by rw [beq_eq_false_iff_ne]; omega
  have hei2 : ¬ (t : Int) = 2147483647 := by omega
  have hE := not_empty_of h0
  have HN := Lib.hid hn
  have HP := Lib.hid (nbits_pos hn hn0)
  have HS := Lib.hid hS; clear hS
  have Ht := Lib.hid (show t ≤ 4294967295 by omega)
  have hcb := candB_new (w.alloc (.cells #[.slice p k cap, .string S, .int .i64 t] 24)) S t (nbits (V n)) HT.out HS.out Ht.out HP.out
  simp only [World.size_alloc] at hcb
  have HCB := Lib.hid (show CandB (((((w.alloc (.cells #[.slice p k cap, .string S, .int .i64 t] 24)).alloc (.cells #[.string S] 9)).alloc (.cells #[.int .i64 t] 3)).alloc (.cells #[.int .i64 (nbits (V n))] 3)).drew) (w.heap.size + 1) (w.heap.size + 1 + 1) (w.heap.size + 1 + 1 + 1) S t (nbits (V n)) from hcb)
  clear hcb
  have hbx : Below w.heap.size w (((((w.alloc (.cells #[.slice p k cap, .string S, .int .i64 t] 24)).alloc (.cells #[.string S] 9)).alloc (.cells #[.int .i64 t] 3)).alloc (.cells #[.int .i64 (nbits (V n))] 3)).drew) :=
    ((((HB.out.alloc (by simp only [World.size_alloc]; omega) _).alloc (by simp only [World.size_alloc]; omega) _).alloc (by simp only [World.size_alloc]; omega) _)).drew
  have HBX := Lib.hid hbx
  have HBZ := Lib.hid (show ∀ w3, Below _ _ w3 → Below w.heap.size w w3 from fun w3 b => hbx.trans (b.mono hbx.size))
  clear hbx
  clear hc hV hn hn0 h0 hlt ht
  obtain ⟨o, ho⟩ : ∃ o, o = firstN S.data.toList t (V n) 0 256 := ⟨_, rfl⟩
  have cf := fun wb Bs Bt Bb hB w hw => firstBelow_any n HN.out wb Bs Bt Bb S t hB w hw
  rw [← ho] at cf ⊢
  have CF := Lib.hid cf
  clear ho cf
  obtain ⟨x, c, hx⟩ : ∃ (x : ByteArray) (c : Int), FBv o = .tuple #[.string x, .int .i64 c] := by cases o with | none => exact ⟨_, _, rfl⟩ | some y => exact ⟨_, _, rfl⟩
  rw [hx] at CF ⊢
  clear hx
  go_enter Tryz.func22, Tryz.ntmps22
  go_wp2
  go_region_with (first
    | (go_at_call 43; refine (bits_yes n _ HN.out).mono ?_; rintro e wx ⟨rfl, rfl⟩)
    | (go_at_call 42; refine (candidates_any S t _ _).mono ?_; rintro e wx ⟨he, rfl⟩; subst he)
    | (go_at_call 41; refine (CF.out _ _ _ _ HCB.out _ (Below.refl _ _)).mono ?_; rintro e w3 ⟨rfl, b3⟩))
  all_goals (go_wp2; go_ret2; exact ⟨rfl, HBZ.out _ b3⟩)
end Go.Proofs.YtehbbghobagkjaaGreatDoor
