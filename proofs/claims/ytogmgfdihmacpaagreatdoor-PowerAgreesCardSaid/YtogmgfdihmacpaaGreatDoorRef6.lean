/-
  Contracts of the reference of layer 1: DivMod, Common, Gcd.
-/
import Derived.Test.YtogmgfdihmacpaaGreatDoorRef5
import Derived.Deep.LoopGhost
namespace Go.Proofs.YtogmgfdihmacpaaGreatDoor
open Go.RowKit
set_option linter.unusedVariables false

set_option maxHeartbeats 400000 in
theorem rdivMod_no (s t : ByteArray) (w : World) (h : ¬ (Can s ∧ Can t)) :
    Calls Tryz.prog 123 #[.string s, .string t] w fun e w' => e = .returned (.tuple #[.string (E 0), .string (E 0), .int .i64 3]) ∧ w = w' := by
  by_cases hc : Can s
  · have hd : ¬ Can t := fun q => h ⟨hc, q⟩
    have HC := Lib.hid hc; clear hc h
    have HD := Lib.hid hd; clear hd
    go_enter Tryz.func123, Tryz.ntmps123
    go_wp2_with fail
    refine (rvalid_yes s _ HC.out).mono ?_; rintro e w' ⟨rfl, rfl⟩
    go_wp2_with fail
    refine (rvalid_no t _ HD.out).mono ?_; rintro e w' ⟨rfl, rfl⟩
    go_wp2
    go_ret3
    exact ⟨rfl, rfl⟩
  · have HC := Lib.hid hc; clear hc h
    go_enter Tryz.func123, Tryz.ntmps123
    go_wp2_with fail
    refine (rvalid_no s _ HC.out).mono ?_; rintro e w' ⟨rfl, rfl⟩
    go_wp2
    go_ret3
    exact ⟨rfl, rfl⟩
set_option maxHeartbeats 1000000 in
theorem rdivMod_yes (s t : ByteArray) (w : World) (hs : Can s) (ht : Can t) :
    Calls Tryz.prog 123 #[.string s, .string t] w fun e w' => e = .returned (divN (V s) (V t)) ∧ Below w.heap.size w w' := by
  by_cases h0 : t.size = 0
  · have hE := empty_of h0
    have hz : divN (V s) (V t) = .tuple #[.string (E 0), .string (E 0), .int .i64 11] := by unfold divN; rw [if_pos ((V_zero_iff ht).2 h0)]
    rw [hz]
    have HS := Lib.hid hs; clear hs
    have HT := Lib.hid ht; clear ht hz h0
    go_enter Tryz.func123, Tryz.ntmps123
    go_wp2_with fail
    refine (rvalid_yes s _ HS.out).mono ?_; rintro e w' ⟨rfl, rfl⟩
    go_wp2_with fail
    refine (rvalid_yes t _ HT.out).mono ?_; rintro e w' ⟨rfl, rfl⟩
    go_wp2
    go_ret3
    exact ⟨rfl, Below.refl _ _⟩
  · have hE := not_empty_of h0
    have hv0 : V t ≠ 0 := fun e => h0 ((V_zero_iff ht).1 e)
    have hz := divN_pos (a := V s) (b := V t) (by omega)
    rw [hz]
    have h1 := hs.1
    have h2 := ht.1
    have hdp : 0 < V t := by omega
    have HS := Lib.hid hs; clear hs
    have HT := Lib.hid ht; clear ht hz h0 hv0
    go_enter Tryz.func123, Tryz.ntmps123
    go_wp2_with fail
    refine (rvalid_yes s _ HS.out).mono ?_; rintro e w' ⟨rfl, rfl⟩
    go_wp2_with fail
    refine (rvalid_yes t _ HT.out).mono ?_; rintro e w' ⟨rfl, rfl⟩
    go_wp2_with fail
    refine (rover_any s t _ (by omega) (by omega) HS.out.2 HT.out.2 hdp).mono ?_; rintro e w' ⟨rfl, b1⟩
    go_wp2
    go_ret3
    exact ⟨rfl, b1⟩

/-- The number of a string value. -/
def nv : Value → Nat
  | .string s => V s
  | _ => 0
theorem nv_E (n : Nat) : nv (.string (E n)) = n := V_E n
theorem E_pos_size {n : Nat} (h : 0 < n) : (E n).size ≠ 0 := fun q => by
  have := V_empty q
  rw [V_E] at this
  omega

set_option maxHeartbeats 1000000 in
theorem rcommon_any (x y : Nat) (w : World) (hx : x < Lim) (hy : y < Lim) :
    Calls Tryz.prog 75 #[.string (E x), .string (E y)] w fun e w' => e = .returned (.string (E (x.gcd y))) ∧ Below w.heap.size w w' := by
  have HX := Lib.hid hx; clear hx
  have HY := Lib.hid hy; clear hy
  go_enter Tryz.func75, Tryz.ntmps75
  go_wp2
  go_loopw [0, 1] (fun u v wr => ∃ a b : Nat, u = .string (E a) ∧ v = .string (E b) ∧ a < Lim ∧ b < Lim ∧ a.gcd b = x.gcd y ∧ Below w.heap.size w wr) (fun _ v _ => nv v)
  case atStart => exact ⟨x, y, rfl, rfl, HX.out, HY.out, rfl, Below.refl _ _⟩
  case round =>
    obtain ⟨a, b, rfl, rfl, ha, hb, hg, hbel⟩ := hrel
    have h1 := (E_size_lim a).2 ha
    have h2 := (E_size_lim b).2 hb
    have HA := Lib.hid ha; clear ha
    have HB := Lib.hid hb; clear hb
    have HG := Lib.hid hg; clear hg
    by_cases h0 : b = 0
    · have hE := empty_of (s := E b) (by rw [h0]; rfl)
      have hR : a = x.gcd y := by rw [← HG.out, h0, Nat.gcd_zero_right]
      have HR := Lib.hid hR; clear hR h0
      go_wp2
      go_ret
      exact ⟨by rw [← HR.out]; rfl, hbel⟩
    · have hpos : 0 < b := by omega
      have hE := not_empty_of (E_pos_size hpos)
      clear h0
      go_wp2_with fail
      refine (rover_any (E a) (E b) _ (by omega) (by omega) (can_E_ _) (can_E_ _) (by rw [V_E]; exact hpos)).mono ?_; rintro e w3 ⟨rfl, b3⟩
      rw [V_E, V_E]
      have hbf := bnext hbel b3
      have HPOS := Lib.hid hpos; clear hpos
      go_wp2
      go_roundw
      case rel => exact ⟨b, a % b, rfl, rfl, HB.out, Nat.lt_trans (Nat.mod_lt _ HPOS.out) HB.out, by rw [← HG.out, Nat.gcd_comm b, ← Nat.gcd_rec, Nat.gcd_comm], hbf⟩
      case measure =>
        show nv (.string (E (a % b))) < nv (.string (E b))
        rw [nv_E, nv_E]; exact Nat.mod_lt _ HPOS.out

end Go.Proofs.YtogmgfdihmacpaaGreatDoor
