/-
  The statement ModularJoins: for every input the Go function dominolaw03.ModularJoins returns true and leaves its arguments as they were. No condition.
-/
import Derived.Test.YtjbcicgbemepbaaGreatDoorRows
import Derived.Test.YtjbcicgbemepbaaGreatDoorLB
import Derived.WalkKit
import Derived.ProofKit
import Derived.OpenShut
import Derived.ShutString
import Derived.Lib.SmallJoins
import Derived.Below
import Derived.Test.YtjbcicgbemepbaaGreatDoorCards
import Derived.Test.YtjbcicgbemepbaaGreatDoorTie
import Derived.LaidMore
import Derived.Lay
import Derived.SevenTiedAt
import Derived.Stop.Joined
namespace Go.Proofs.YtjbcicgbemepbaaGreatDoor.modularJoins
open Go.ChangeShapes Go.WideShapes Go.ChangeAt Go.RowKit Go.Joins
open Go.ChangeMaps (open_string shut_string)
set_option linter.unusedVariables false

theorem own : ownKnob Tryz.prog.godebug = none := by kernel_rfl
theorem four42 : Tryz.prog.cellsOf 42 = 4 := by kernel_rfl

set_option maxRecDepth 100000 in
theorem lifted (os : Os) (started : os.Started) (H : Type) (enc : TypeId × Value → H) :
    ReturnsInHanded {} Tryz.checked os 6 .any (fun w args => (Rows.modularJoinsSpec.pre enc Tryz.prog Tryz.f6 Rows.modularJoinsRow.domain false w args ∧ laidMetH Tryz.prog Rows.modularJoinsRow.laid w) ∧ sizedMet enc Tryz.prog Tryz.f6 (OpenSpec.ofChange Rows.modularJoinsSpec) false w args) (Rows.modularJoinsSpec.post enc Tryz.prog Tryz.f6 false true false false) := by
  refine returnsInHanded_of_change_and (C := Tryz.checked) (X := fun w _ => laidMetH Tryz.prog Rows.modularJoinsRow.laid w) (fun _ _ _ hh h => h.of_heap hh) own started (by kernel_rfl) Tryz.func6
    (ChangeSpec.witness_shaped (enc := enc) (C := Tryz.checked) (os := os) (X := fun w _ => laidMetH Tryz.prog Rows.modularJoinsRow.laid w) false (World.laidAll Tryz.prog os Rows.modularJoinsRow.laid) #[.agg #[.string ByteArray.empty, .string ByteArray.empty, .string ByteArray.empty, .string ByteArray.empty]] 8 (World.laidAll_os _ _ _)
      (World.shaped_of_ZipB (by kernel_rfl) (by kernel_rfl)) (by kernel_rfl) (by kernel_rfl) (by kernel_rfl)
      (by rw [MakeChecks.laidMetH_plain _ _ _ (by kernel_rfl)]; exact laidMet_laidAll _ (by kernel_rfl) (by kernel_rfl))) ?_
  intro W base args ds gs before hval0 hW hcnd _ hL _
  have hval : ∀ (j : Nat) t v, Tryz.f6.params[j]? = some t → args[j]? = some v → Value.okWide Tryz.prog W .any base t v := hval0
  have hW' := hW
  obtain ⟨p, q, hA0, hV, rfl, hfz, hnd⟩ := hW
  have hA : DataW.TrodAll enc Tryz.prog W 0 (fun _ => true) true Tryz.f6.params.toList args.toList ds p := hA0
  rw [Tryz.params6] at hA hval
  obtain ⟨v0, vs0, d0, ds0, p0, q0, hargs, rfl, rfl, h0, r0⟩ := trodAll_cons hA
  obtain ⟨rfl, rfl, rfl⟩ := trodAll_nil r0
  obtain rfl : args = #[v0] := by cases args; simp_all
  obtain ⟨rfl, rfl⟩ := trodVars_none hV
  obtain ⟨c0a, c0b, c0c, c0d, y0a, y0b, y0c, y0d, m0, rfl, rfl, rfl, hy0a, hy0b, hy0c, hy0d⟩ := open_agg4 Tryz.underlying42 (by kernel_rfl) four42 (hval 0 42 v0 rfl rfl) h0
  obtain ⟨a0a, e0a, rfl, w0a⟩ := DataW.trod_string Tryz.underlying22 hy0a
  obtain ⟨a0b, e0b, rfl, w0b⟩ := DataW.trod_string Tryz.underlying22 hy0b
  obtain ⟨a0c, e0c, rfl, w0c⟩ := DataW.trod_string Tryz.underlying22 hy0c
  obtain ⟨a0d, e0d, rfl, w0d⟩ := DataW.trod_string Tryz.underlying22 hy0d
  simp at e0a e0b e0c e0d
  subst e0a e0b e0c e0d
  clear hA0 hval0
  simp only [List.append_nil] at hW'
  have reads0 : ∀ (W' : World) (sp : Nat → Bool), DataW.Trod enc Tryz.prog W' 0 sp true 42 (.agg #[.string a0a, .string a0b, .string a0c, .string a0d]) (.agg [.lit (.string a0a.data.toList), .lit (.string a0b.data.toList), .lit (.string a0c.data.toList), .lit (.string a0d.data.toList)]) [] := fun W' sp =>
    shut_agg4 (y0 := (.lit (.string a0a.data.toList), [])) (y1 := (.lit (.string a0b.data.toList), [])) (y2 := (.lit (.string a0c.data.toList), [])) (y3 := (.lit (.string a0d.data.toList), [])) Tryz.underlying42 (by kernel_rfl) four42 ⟨1, by simp [DataW.trod, Tryz.underlying22, w0a]⟩ ⟨1, by simp [DataW.trod, Tryz.underlying22, w0b]⟩ ⟨1, by simp [DataW.trod, Tryz.underlying22, w0c]⟩ ⟨1, by simp [DataW.trod, Tryz.underlying22, w0d]⟩
  refine (Go.Proofs.YtjbcicgbemepbaaGreatDoor.law_ModularJoins a0a a0b a0c a0d w0a w0b w0c w0d W).mono fun e W' ⟨he, bel⟩ => ?_
  subst he
  exact ⟨_, rfl, _, _, _, [], [], [], hW', (trodAll_cons_mk (shut_bool Tryz.underlying4 _) trodAll_mk0), (trodAll_cons_mk (reads0 _ _) trodAll_mk0), rfl, bel.frame _, fun h => by cases h⟩

theorem over : Rows.modularJoinsRow.holds Tryz.pinned (OpenSpec.ofChange Rows.modularJoinsSpec) :=
  OpenClaim.holds_of_wide 6 Tryz.f6 rfl rfl rfl rfl rfl rfl rfl ⟨rfl, rfl, rfl, rfl, rfl⟩ rfl rfl rfl rfl rfl (by kernel_rfl) Tryz.func6 (by kernel_rfl)
    (of_decide_eq_true (by kernel_rfl)) (by unfold Func.isWrapper; first | (rw [if_pos (by decide +kernel)]; kernel_rfl) | (rw [if_neg (by decide +kernel)]; exact ⟨rfl, rfl⟩))
    (fun os started H enc _ => lifted os started H enc)

theorem proved : Rows.ModularJoinsCardSaid :=
  Claim7.holds_tied_plain_at .later [] [.data, .pinned] true (true, "ce1f5c9dd6ff591e05a9992cdbb398dafe845997f09da34952ea523502596842") false over (fun _ h => by cases h) (by kernel_rfl) (fun _ h => by cases h) modularJoins_row_tie rfl ⟨rfl, rfl⟩ (by kernel_rfl) rfl
    (fun f fn hf hfn => by
      obtain rfl : f = 6 := Option.some.inj ((show Tryz.prog.funcNamed "domino/dominolaw03.ModularJoins" = some 6 by kernel_rfl).symm.trans hf) |>.symm
      obtain rfl : fn = Tryz.f6 := (Option.some.inj (Tryz.func6.symm.trans hfn)).symm
      exact ⟨by kernel_rfl, fun j t ht => by
        rw [Tryz.params6] at ht
        have hm : t ∈ [42] := by simpa using Array.mem_of_getElem? ht
        have hall : ([42].all fun u => !Tryz.prog.wantsStandIn u) = true := by kernel_rfl
        exact (show Tryz.prog.wantsStandIn t = false by simpa using List.all_eq_true.1 hall t hm)⟩)
    (by kernel_rfl)
end Go.Proofs.YtjbcicgbemepbaaGreatDoor.modularJoins
