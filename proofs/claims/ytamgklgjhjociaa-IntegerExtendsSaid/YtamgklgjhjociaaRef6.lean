/-
  Contracts of the reference of layer 1: DivMod, Common, Gcd.
-/
import Derived.Test.YtamgklgjhjociaaRef5
import Derived.Deep.LoopGhost
namespace Go.Proofs.Ytamgklgjhjociaa
open Go.RowKit
set_option linter.unusedVariables false

set_option maxHeartbeats 400000 in
theorem rdivMod_no (s t : ByteArray) (w : World) (h : ¬ (Can s ∧ Can t)) :
    Calls Try.prog 62 #[.string s, .string t] w fun e w' => e = .returned (.tuple #[.string (E 0), .string (E 0), .int .i64 3]) ∧ w = w' := by
  by_cases hc : Can s
  · have hd : ¬ Can t := fun q => h ⟨hc, q⟩
    have HC := Lib.hid hc; clear hc h
    have HD := Lib.hid hd; clear hd
    go_enter Try.func62, Try.ntmps62
    go_wp2_with fail
    refine (rvalid_yes s _ HC.out).mono ?_; rintro e w' ⟨rfl, rfl⟩
    go_wp2_with fail
    refine (rvalid_no t _ HD.out).mono ?_; rintro e w' ⟨rfl, rfl⟩
    go_wp2
    go_ret3
    exact ⟨rfl, rfl⟩
  · have HC := Lib.hid hc; clear hc h
    go_enter Try.func62, Try.ntmps62
    go_wp2_with fail
    refine (rvalid_no s _ HC.out).mono ?_; rintro e w' ⟨rfl, rfl⟩
    go_wp2
    go_ret3
    exact ⟨rfl, rfl⟩
set_option maxHeartbeats 1000000 in
theorem rdivMod_yes (s t : ByteArray) (w : World) (hs : Can s) (ht : Can t) :
    Calls Try.prog 62 #[.string s, .string t] w fun e w' => e = .returned (divN (V s) (V t)) ∧ Below w.heap.size w w' := by
  by_cases h0 : t.size = 0
  · have hE := empty_of h0
    have hz : divN (V s) (V t) = .tuple #[.string (E 0), .string (E 0), .int .i64 11] := by unfold divN; rw [if_pos ((V_zero_iff ht).2 h0)]
    rw [hz]
    have HS := Lib.hid hs; clear hs
    have HT := Lib.hid ht; clear ht hz h0
    go_enter Try.func62, Try.ntmps62
    go_wp2_with fail
    refine (rvalid_yes s _ HS.out).mono ?_; rintro e w' ⟨rfl, rfl⟩
    go_wp2_with fail
    refine (rvalid_yes t _ HT.out).mono ?_; rintro e w' ⟨rfl, rfl⟩
    go_wp2
    go_ret3
    exact ⟨rfl, Below.refl _ _⟩
  · have hE := not_empty_of h0
    have hv0 : V t ≠ 0 := fun e => h0 ((V_zero_iff ht).1 e)
    have hz := divN_pos (a := V s) (b := V t) (by omega)
    rw [hz]
    have h1 := hs.1
    have h2 := ht.1
    have hdp : 0 < V t := by omega
    have HS := Lib.hid hs; clear hs
    have HT := Lib.hid ht; clear ht hz h0 hv0
    go_enter Try.func62, Try.ntmps62
    go_wp2_with fail
    refine (rvalid_yes s _ HS.out).mono ?_; rintro e w' ⟨rfl, rfl⟩
    go_wp2_with fail
    refine (rvalid_yes t _ HT.out).mono ?_; rintro e w' ⟨rfl, rfl⟩
    go_wp2_with fail
    refine (rover_any s t _ (by omega) (by omega) HS.out.2 HT.out.2 hdp).mono ?_; rintro e w' ⟨rfl, b1⟩
    go_wp2
    go_ret3
    exact ⟨rfl, b1⟩

/-- The number of a string value. -/
def nv : Value → Nat
  | .string s => V s
  | _ => 0
theorem nv_E (n : Nat) : nv (.string (E n)) = n := V_E n
theorem E_pos_size {n : Nat} (h : 0 < n) : (E n).size ≠ 0 := fun q => by
  have := V_empty q
  rw [V_E] at this
  omega

end Go.Proofs.Ytamgklgjhjociaa
