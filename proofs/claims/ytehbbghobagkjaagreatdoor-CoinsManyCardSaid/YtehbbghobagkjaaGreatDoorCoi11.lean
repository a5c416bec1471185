/-
  Contracts of package coins, the eleventh part: the examples of the chapter.
-/
import Derived.Test.YtehbbghobagkjaaGreatDoorCoi10
namespace Go.Proofs.YtehbbghobagkjaaGreatDoor
open Go.RowKit Go.Deep
set_option linter.unusedVariables false

theorem small_can {n : Nat} (h : n < 18446744073709551616) : Can (E n) := can_E' (small_lim h)
theorem small_size {n : Nat} (h : n < 18446744073709551616) (h0 : 0 < n) : 0 < (E n).size := by
  refine Nat.pos_of_ne_zero fun q => ?_
  have := (V_zero_iff (small_can h)).2 q
  rw [V_E] at this
  omega
/-- The values 5 and 9; the value 0. -/
def f59 (j : Nat) : ByteArray := if j = 0 then E 5 else E 9
def f0 (_ : Nat) : ByteArray := E 0
theorem wf59 : WF 2 f59 ((0 : Nat) : Int) := by
  refine ⟨fun j _ => ?_, by omega, by omega⟩
  unfold f59
  split
  · exact small_can (by omega)
  · exact small_can (by omega)
theorem wf0 : WF 1 f0 ((0 : Nat) : Int) := ⟨fun j _ => small_can (by omega), by omega, by omega⟩
theorem wfS : WF 0 f0 ((0 : Nat) : Int) := ⟨fun j hj => absurd hj (by omega), by omega, by omega⟩
theorem ex_next10 : nextV 2 f59 ⟨#[]⟩ 0 (E 10) = .tuple #[.string (E 5), .int .i64 0] := by
  unfold nextV
  rw [if_pos (by omega), if_pos (by rw [show f59 0 = E 5 from rfl, V_E, V_E]; omega), if_neg (by omega), show f59 0 = E 5 from rfl]
theorem ex_next5 : nextV 2 f59 ⟨#[]⟩ 0 (E 5) = .tuple #[.string ⟨#[]⟩, .int .i64 2] := by
  unfold nextV
  rw [if_pos (by omega), if_neg (by rw [show f59 0 = E 5 from rfl, V_E]; omega)]
theorem ex_next0 : nextV 1 f0 ⟨#[]⟩ 0 (E 5) = .tuple #[.string (E 0), .int .i64 0] := by
  unfold nextV
  rw [if_pos (by omega), if_pos (by rw [show f0 0 = E 0 from rfl, V_E, V_E]; omega), if_neg (by omega), show f0 0 = E 0 from rfl]
/-- The letters of the example's seed. -/
def seedB : ByteArray := ⟨#[115, 101, 101, 100]⟩
theorem ex_nextS : nextV 0 f0 seedB 0 (E 1) = .tuple #[.string (E 0), .int .i64 0] := by
  unfold nextV
  rw [if_neg (by omega), if_neg (fun q => q.elim (fun h => by omega) (fun h => absurd h (by decide))), V_E]
  rw [show seedB.data.toList = seedL from rfl, first_seed]
  rfl
theorem ex_below10 (v : Value) (w : World) (hv : SV w v 2 f59) (htab : TabW w) :
    Calls Tryz.prog 8 #[.agg #[v, .string ⟨#[]⟩, .int .i64 0], .string (E 10)] w fun e w' => DrawP (E 5) 2 f59 ⟨#[]⟩ 1 w e w' :=
  below_some v 2 f59 ⟨#[]⟩ 0 (E 10) w hv (by omega) wf59 (small_can (by omega)) (small_size (by omega) (by omega)) (by show 0 ≤ _; omega) htab ex_next10
theorem ex_below5 (v : Value) (w : World) (hv : SV w v 2 f59) (htab : TabW w) :
    Calls Tryz.prog 8 #[.agg #[v, .string ⟨#[]⟩, .int .i64 0], .string (E 5)] w fun e w' => NoTape 2 w e w' :=
  below_none v 2 f59 ⟨#[]⟩ 0 (E 5) w hv (by omega) wf59 (small_can (by omega)) (small_size (by omega) (by omega)) (by show 0 ≤ _; omega) htab ex_next5 (by omega)
theorem ex_signed (v : Value) (w : World) (hv : SV w v 1 f0) (htab : TabW w) :
    Calls Tryz.prog 11 #[.agg #[v, .string ⟨#[]⟩, .int .i64 0], .string (E 3)] w fun e w' => SignP true ⟨#[2]⟩ 1 f0 ⟨#[]⟩ 1 w e w' := by
  have h := signed_some v 1 f0 ⟨#[]⟩ 0 (E 3) w hv (by omega) wf0 (small_can (by omega)) (small_size (by omega) (by omega)) (by show 0 ≤ _; omega) htab
    (by rw [V_E]; exact small_lim (by omega)) (x := E 0) (by rw [V_E]; exact ex_next0) (small_can (by omega))
  rw [V_E, V_E] at h
  rw [← l_2]
  exact h
theorem ex_seed (w : World) (htab : TabW w) :
    Calls Tryz.prog 8 #[.agg #[.slice none 0 0, .string seedB, .int .i64 0], .string (E 1)] w fun e w' => DrawP ⟨#[]⟩ 0 f0 seedB 1 w e w' :=
  below_some _ 0 f0 seedB 0 (E 1) w (SV.nil w f0) (by omega) wfS (small_can (by omega)) (small_size (by omega) (by omega)) (by show 4 ≤ _; omega) htab ex_nextS
theorem ex_of2 (w : World) : Calls Tryz.prog 20 #[.int .i64 (-2)] w fun e w' => e = .returned (.agg #[.bool true, .string ⟨#[2]⟩]) ∧ Below w.heap.size w w' := by
  have h := iof_any (-2) w (by omega) (by omega)
  rw [show Z (-2) = .agg #[.bool true, .string ⟨#[2]⟩] by rw [← l_2]; rfl] at h
  exact h
theorem ex_left (v : Value) (w : World) (hv : SV w v 2 f59) :
    Calls Tryz.prog 19 #[.agg #[v, .string ⟨#[]⟩, .int .i64 1]] w fun e w' => e = .returned (.int .i64 1) ∧ Below w.heap.size w w' :=
  left_yes v 2 f59 ⟨#[]⟩ 1 w hv (by omega) ⟨wf59.1, by omega, by omega⟩
end Go.Proofs.YtehbbghobagkjaaGreatDoor
