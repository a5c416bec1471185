/-
  The statement CoinsRepeat: for every input the Go function dominolaw06.CoinsRepeat returns true and leaves its arguments as they were. No condition.
-/
import Derived.Test.YtehbbghobagkjaaDoorRows
import Derived.Test.YtehbbghobagkjaaDoorLaw6f
import Derived.WalkKit
import Derived.ProofKit
import Derived.OpenShut
import Derived.ShutString
import Derived.Lib.SmallJoins
import Derived.Below
import Derived.Carry
import Derived.Test.YtehbbghobagkjaaDoorLT
import Derived.Test.YtehbbghobagkjaaDoorCards
import Derived.Test.YtehbbghobagkjaaDoorTie
import Derived.LaidMore
import Derived.Lay
import Derived.SevenTiedAt
import Derived.Stop.Joined
namespace Go.Proofs.YtehbbghobagkjaaDoor.coinsRepeat
open Go.ChangeShapes Go.WideShapes Go.ChangeAt Go.RowKit Go.Joins
open Go.ChangeMaps (open_string shut_string)
set_option linter.unusedVariables false

theorem own : ownKnob Tryd.prog.godebug = none := by kernel_rfl
theorem laidOut : laidOutB Tryd.prog = true := by kernel_rfl
theorem one33 : Tryd.prog.cellsOf 33 = 1 := by kernel_rfl
theorem three24 : Tryd.prog.cellsOf 24 = 3 := by kernel_rfl

set_option maxRecDepth 100000 in
theorem lifted (os : Os) (started : os.Started) (H : Type) (enc : TypeId × Value → H) :
    ReturnsInHanded {} Tryd.checked os 5 .any (fun w args => (Rows.coinsRepeatSpec.pre enc Tryd.prog Tryd.f5 Rows.coinsRepeatRow.domain false w args ∧ laidMetH Tryd.prog Rows.coinsRepeatRow.laid w) ∧ sizedMet enc Tryd.prog Tryd.f5 (OpenSpec.ofChange Rows.coinsRepeatSpec) false w args) (Rows.coinsRepeatSpec.post enc Tryd.prog Tryd.f5 false true false false) := by
  refine returnsInHanded_of_change_and (C := Tryd.checked) (X := fun w _ => laidMetH Tryd.prog Rows.coinsRepeatRow.laid w) (fun _ _ _ hh h => h.of_heap hh) own started (by kernel_rfl) Tryd.func5
    (ChangeSpec.witness_shaped (enc := enc) (C := Tryd.checked) (os := os) (X := fun w _ => laidMetH Tryd.prog Rows.coinsRepeatRow.laid w) false (World.laidAll Tryd.prog os Rows.coinsRepeatRow.laid) #[.agg #[.slice none 0 0, .string ByteArray.empty, .int .i64 0], .string ByteArray.empty, .int .u8 0] 8 (World.laidAll_os _ _ _)
      (World.shaped_of_ZipB (by kernel_rfl) (by kernel_rfl)) (by kernel_rfl) (by kernel_rfl) (by kernel_rfl)
      (by rw [MakeChecks.laidMetH_plain _ _ _ (by kernel_rfl)]; exact laidMet_laidAll _ (by kernel_rfl) (by kernel_rfl))) ?_
  intro W base args ds gs before hval0 hW hcnd _ hL _
  have hval : ∀ (j : Nat) t v, Tryd.f5.params[j]? = some t → args[j]? = some v → Value.okWide Tryd.prog W .any base t v := hval0
  have hW' := hW
  obtain ⟨p, q, hA0, hV, rfl, hfz, hnd⟩ := hW
  have hA : DataW.TrodAll enc Tryd.prog W 0 (fun _ => true) true Tryd.f5.params.toList args.toList ds p := hA0
  rw [Tryd.params5] at hA hval
  obtain ⟨v0, vs0, d0, ds0, p0, q0, hargs, rfl, rfl, h0, r0⟩ := trodAll_cons hA
  obtain ⟨v1, vs1, d1, ds1, p1, q1, rfl, rfl, rfl, h1, r1⟩ := trodAll_cons r0
  obtain ⟨v2, vs2, d2, ds2, p2, q2, rfl, rfl, rfl, h2, r2⟩ := trodAll_cons r1
  obtain ⟨rfl, rfl, rfl⟩ := trodAll_nil r2
  obtain rfl : args = #[v0, v1, v2] := by cases args; simp_all
  obtain ⟨rfl, rfl⟩ := trodVars_none hV
  have h0k := h0
  obtain ⟨c0a, c0b, c0c, y0a, y0b, y0c, m0, rfl, ed0, ep0, hy0a, hy0b, hy0c⟩ := open_agg3 Tryd.underlying24 (by kernel_rfl) three24 (hval 0 24 v0 rfl rfl) h0
  obtain ⟨kk0, ff0, sv0, km0, sm0⟩ := sv_open Tryd.underlying22 Tryd.underlying33 one33 hy0a
  obtain ⟨as0, eb0, gb0, ws0⟩ := DataW.trod_string Tryd.underlying9 hy0b
  obtain ⟨at0, ec0, gc0, wt0⟩ := DataW.trod_int Tryd.underlying3 hy0c
  simp at eb0 ec0
  subst eb0 ec0
  obtain ⟨a1, rfl, rfl, rfl, w1⟩ := open_string Tryd.underlying33 (hval 1 33 v1 rfl rfl) h1
  obtain ⟨a2, rfl, rfl, rfl, w2⟩ := open_int Tryd.underlying5 (hval 2 5 v2 rfl rfl) h2
  clear hA0 hval0
  have hlt : ∀ x ∈ p0, x.block < W.heap.size := fun x hx => hW'.lt x (by simpa using hx)
  have hL2 : laidMet Tryd.prog Rows.coinsRepeatRow.laid W := by rw [← MakeChecks.laidMetH_plain _ _ _ (by kernel_rfl)]; exact hL
  have htab : TabW W := tabW_laid 2 (by kernel_rfl) hL2
  refine (Go.Proofs.YtehbbghobagkjaaDoor.law_CoinsRepeat _ kk0 ff0 as0 at0 a1 a2 ws0 wt0 w1 w2 W sv0 km0 htab).mono fun e W' ⟨he, bel⟩ => ?_
  subst he
  exact ⟨_, rfl, _, _, _, [], (p0 ++ ([] ++ ([] ++ []))), [], hW', (trodAll_cons_mk (shut_bool Tryd.underlying4 _) trodAll_mk0), (trodAll_cons_mk (Below.trod laidOut (by kernel_rfl) (of_decide_eq_true (by kernel_rfl)) h0k bel (fun x hx => hlt x (by simp [hx]))) (trodAll_cons_mk (shut_string Tryd.underlying33 w1) (trodAll_cons_mk (shut_int Tryd.underlying5 w2) trodAll_mk0))), rfl, bel.frame _, fun h => by cases h⟩

theorem over : Rows.coinsRepeatRow.holds Tryd.pinned (OpenSpec.ofChange Rows.coinsRepeatSpec) :=
  OpenClaim.holds_of_wide 5 Tryd.f5 rfl rfl rfl rfl rfl rfl rfl ⟨rfl, rfl, rfl, rfl, rfl⟩ rfl rfl rfl rfl rfl (by kernel_rfl) Tryd.func5 (by kernel_rfl)
    (of_decide_eq_true (by kernel_rfl)) (by unfold Func.isWrapper; first | (rw [if_pos (by decide +kernel)]; kernel_rfl) | (rw [if_neg (by decide +kernel)]; exact ⟨rfl, rfl⟩))
    (fun os started H enc _ => lifted os started H enc)

theorem proved : Rows.CoinsRepeatCardSaid :=
  Claim7.holds_tied_plain_at .later [] [.data, .data, .data, .data, .pinned] true (true, "83ae63e5d8ce7d6245d78a4df46a2a9b5326573400c3f03b64e306a0cc8a2f81") false over (fun _ h => by cases h) (by kernel_rfl) (fun _ h => by cases h) coinsRepeat_row_tie rfl ⟨rfl, rfl⟩ (by kernel_rfl) rfl
    (fun f fn hf hfn => by
      obtain rfl : f = 5 := Option.some.inj ((show Tryd.prog.funcNamed "domino/dominolaw06.CoinsRepeat" = some 5 by kernel_rfl).symm.trans hf) |>.symm
      obtain rfl : fn = Tryd.f5 := (Option.some.inj (Tryd.func5.symm.trans hfn)).symm
      exact ⟨by kernel_rfl, fun j t ht => by
        rw [Tryd.params5] at ht
        have hm : t ∈ [24, 33, 5] := by simpa using Array.mem_of_getElem? ht
        have hall : ([24, 33, 5].all fun u => !Tryd.prog.wantsStandIn u) = true := by kernel_rfl
        exact (show Tryd.prog.wantsStandIn t = false by simpa using List.all_eq_true.1 hall t hm)⟩)
    (by kernel_rfl)
end Go.Proofs.YtehbbghobagkjaaDoor.coinsRepeat
