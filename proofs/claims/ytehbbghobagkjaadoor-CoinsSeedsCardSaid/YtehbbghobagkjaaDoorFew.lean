/-
  Layer 6's statements: what a small tape is.
-/
import Derived.Test.YtehbbghobagkjaaDoorRC1
namespace Go.Proofs.YtehbbghobagkjaaDoor
open Go.RowKit Go.Deep
set_option linter.unusedVariables false

/-- A small tape. -/
def FewP (k : Nat) (f : Nat → ByteArray) (S : ByteArray) (b : Bool) : Prop := b = true → k ≤ 40 ∧ S.size ≤ 100 ∧ ∀ j, j < k → (f j).size ≤ 140
set_option maxHeartbeats 1000000 in
set_option maxRecDepth 20000 in
theorem few_any (v : Value) (k : Nat) (f : Nat → ByteArray) (S : ByteArray) (t : Int) (w : World) (hv : SV w v k f) (hk : k ≤ 9223372036854775807) :
    Calls Tryd.prog 8 #[.agg #[v, .string S, .int .i64 t]] w fun e w' => (∃ b : Bool, e = .returned (.bool b) ∧ FewP k f S b) ∧ Below w.heap.size w w' := by
  have hb : Below w.heap.size w (w.alloc (.cells #[v, .string S, .int .i64 t] 24)) := (Below.refl _ _).alloc (Nat.le_refl _) _
  have hv2 := hv.below hb
  obtain ⟨p, cap, rfl, hc⟩ := hv2
  have hT := Three.new w (.slice p k cap) (.string S) (.int .i64 t) 24 _ rfl
  obtain ⟨q0, q1, q2, q3, q4, q5, q6⟩ := hT
  have HC := Lib.hid hc; clear hc hv
  have HB := Lib.hid hb; clear hb
  have HK := Lib.hid hk
  go_enter Tryd.func8, Tryd.ntmps8
  go_wp2
  generalize World.alloc w _ = W at *
  go_loop [3] (fun x => ∃ i : Nat, i ≤ k ∧ i ≤ 40 ∧ x = .int .i64 i ∧ Hid (∀ j, j < i → (f j).size ≤ 140)) (fun x => 40 - (intOf x).toNat)
  case atStart => exact ⟨0, by omega, by omega, rfl, fun j hj => absurd hj (by omega)⟩
  case round =>
    obtain ⟨i, hi, hi40, rfl, HI⟩ := hrel
    by_cases hlt : i < k
    · have hlti : (i : Int) < (k : Int) := by omega
      have hd1 : decide ((i : Int) < (k : Int)) = true := decide_eq_true hlti
      by_cases h40 : i < 40
      · obtain ⟨a, rfl, ha, hcell⟩ := HC.out i hlt
        have hd2 : decide ((i : Int) < 40) = true := decide_eq_true (by omega)
        by_cases hs : (f i).size ≤ 140
        · have HN := Lib.hid (all_upto (P := fun j => (f j).size ≤ 140) HI.out hs)
          have hs2 : ¬ (140 : Int) < (f i).size := by omega
          go_wp2
          go_round
          case rel => exact ⟨i + 1, by omega, by omega, by go_num, HN.out⟩
          case measure => simp [intOf]; omega
        · have hs2 : (140 : Int) < (f i).size := by omega
          go_wp2
          go_ret
          first | exact ⟨⟨false, rfl, fun q => by cases q⟩, HB.out⟩ | exact ⟨.inl ⟨rfl, fun q => by cases q⟩, HB.out⟩
      · obtain rfl : i = 40 := by omega
        have hd2 : decide (((40 : Nat) : Int) < 40) = false := rfl
        have hd3 : decide ((k : Int) ≤ 40) = false := decide_eq_false (by omega)
        go_wp2
        go_ret
        first | exact ⟨⟨false, rfl, fun q => by cases q⟩, HB.out⟩ | exact ⟨.inl ⟨rfl, fun q => by cases q⟩, HB.out⟩
    · obtain rfl : i = k := by omega
      have hd1 : decide ((i : Int) < (i : Int)) = false := decide_eq_false (by omega)
      have hd3 : decide ((i : Int) ≤ 40) = true := decide_eq_true (by omega)
      by_cases hS : S.size ≤ 100
      · have HR := Lib.hid (show FewP i f S true from fun _ => ⟨hi40, hS, HI.out⟩)
        have hd4 : decide ((S.size : Int) ≤ 100) = true := decide_eq_true (by omega)
        go_wp2
        go_ret
        first | exact ⟨⟨true, rfl, HR.out⟩, HB.out⟩ | exact ⟨.inr ⟨rfl, HR.out⟩, HB.out⟩
      · have hd4 : decide ((S.size : Int) ≤ 100) = false := decide_eq_false (by omega)
        go_wp2
        go_ret
        first | exact ⟨⟨false, rfl, fun q => by cases q⟩, HB.out⟩ | exact ⟨.inl ⟨rfl, fun q => by cases q⟩, HB.out⟩
end Go.Proofs.YtehbbghobagkjaaDoor
