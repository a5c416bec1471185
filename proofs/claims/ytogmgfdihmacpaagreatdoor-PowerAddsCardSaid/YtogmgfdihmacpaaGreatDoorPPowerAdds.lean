/-
  The statement PowerAdds: for every input the Go function dominolaw13.PowerAdds returns true and leaves its arguments as they were. No condition.
-/
import Derived.Test.YtogmgfdihmacpaaGreatDoorRows
import Derived.Test.YtogmgfdihmacpaaGreatDoorLaw13g
import Derived.WalkKit
import Derived.ProofKit
import Derived.OpenShut
import Derived.ShutString
import Derived.Lib.SmallJoins
import Derived.Below
import Derived.Test.YtogmgfdihmacpaaGreatDoorCards
import Derived.Test.YtogmgfdihmacpaaGreatDoorTie
import Derived.LaidMore
import Derived.Lay
import Derived.SevenTiedAt
import Derived.Stop.Joined
namespace Go.Proofs.YtogmgfdihmacpaaGreatDoor.powerAdds
open Go.ChangeShapes Go.WideShapes Go.ChangeAt Go.RowKit Go.Joins
set_option linter.unusedVariables false

theorem okWide_arr {P : Program} {w : World} {r : Reach} {base n : Nat} {t e : TypeId} {v : Value} (ht : P.underlying t = some (.array n e)) (h : Value.okWide P w r base t v) : ∃ cs, v = .agg cs ∧ cs.size = P.cellsOf t := by
  simp only [Value.okWide, ht] at h
  obtain ⟨cs, h1, h2, _⟩ := h
  exact ⟨cs, h1, h2⟩
theorem open_ints2 {P : Program} {H : Type} {enc : TypeId × Value → H} {w : World} {base : Nat} {spare : Nat → Bool} {held : Bool} {r : Reach} {b0 : Nat} {t e : TypeId} {k : IntKind} {v : Value} {d : DataW H} {p : List MemPlace}
    (hs : P.underlying t = some (.array 2 e)) (hi : P.underlying e = some (.int k)) (hC : P.cellsOf t = 2) (hCe : P.cellsOf e = 1)
    (hv : Value.okWide P w r b0 t v) (h : DataW.Trod enc P w base spare held t v d p) :
    ∃ (a b : Int), v = .agg #[.int k a, .int k b] ∧ d = .agg [.lit (.int k a), .lit (.int k b)] ∧ p = [] ∧ (Lit.int k a).wf = true ∧ (Lit.int k b).wf = true := by
  obtain ⟨cs, rfl, hsz⟩ := okWide_arr hs hv
  obtain ⟨c0, c1, rfl⟩ := array2 (hsz.trans hC)
  obtain ⟨fuel, hx⟩ := h
  obtain ⟨xs, n, _, ex, hl, hlen, hel⟩ := DataW.trod_array hs hx
  have e0 := hel 0 (by omega)
  have e1 := hel 1 (by omega)
  rw [hCe] at e0 e1
  match xs, hlen with
  | [x0, x1], _ =>
    simp [Value.cells] at e0 e1
    obtain ⟨a, q0, rfl, w0⟩ := DataW.trod_int hi e0
    obtain ⟨b, q1, rfl, w1⟩ := DataW.trod_int hi e1
    simp at q0 q1
    subst q0 q1
    simp at ex
    exact ⟨a, b, rfl, ex.1, ex.2, w0, w1⟩
theorem shut_ints2 {P : Program} {H : Type} {enc : TypeId × Value → H} {w : World} {base : Nat} {spare : Nat → Bool} {held : Bool} {t e : TypeId} {k : IntKind} {a b : Int}
    (hs : P.underlying t = some (.array 2 e)) (hi : P.underlying e = some (.int k)) (hC : P.cellsOf t = 2) (hCe : P.cellsOf e = 1) (w0 : (Lit.int k a).wf = true) (w1 : (Lit.int k b).wf = true) :
    DataW.Trod enc P w base spare held t (.agg #[.int k a, .int k b]) (.agg [.lit (.int k a), .lit (.int k b)]) [] :=
  ⟨2, by simp [DataW.trod, Value.cells, hs, hi, hC, hCe, w0, w1, show List.range 2 = [0, 1] from rfl]⟩
theorem open_pairs2 {P : Program} {H : Type} {enc : TypeId × Value → H} {w : World} {base : Nat} {spare : Nat → Bool} {held : Bool} {r : Reach} {b0 : Nat} {t e tb ts : TypeId} {g0 g1 : Field} {v : Value} {d : DataW H} {p : List MemPlace}
    (hs : P.underlying t = some (.array 2 e)) (hi : P.underlying e = some (.struct #[g0, g1])) (hB : P.underlying tb = some .bool) (hS : P.underlying ts = some .string)
    (hC : P.cellsOf t = 4) (hCe : P.cellsOf e = 2) (hCb : P.cellsOf tb = 1) (hCs : P.cellsOf ts = 1) (hg : g0.offset = 0 ∧ g0.type = tb ∧ g1.offset = 1 ∧ g1.type = ts)
    (hv : Value.okWide P w r b0 t v) (h : DataW.Trod enc P w base spare held t v d p) :
    ∃ (n1 : Bool) (a1 : ByteArray) (n2 : Bool) (a2 : ByteArray), v = .agg #[.bool n1, .string a1, .bool n2, .string a2] ∧ d = .agg [.agg [.lit (.bool n1), .lit (.string a1.data.toList)], .agg [.lit (.bool n2), .lit (.string a2.data.toList)]] ∧ p = [] ∧
      a1.size ≤ maxLen ∧ a2.size ≤ maxLen := by
  obtain ⟨u0, k0, u1, k1⟩ := hg
  obtain ⟨cs, rfl, hsz⟩ := okWide_arr hs hv
  obtain ⟨c0, c1, c2, c3, rfl⟩ := array4 (hsz.trans hC)
  obtain ⟨fuel, hx⟩ := h
  obtain ⟨xs, n, _, ex, hl, hlen, hel⟩ := DataW.trod_array hs hx
  have e0 := hel 0 (by omega)
  have e1 := hel 1 (by omega)
  rw [hCe] at e0 e1
  match xs, hlen with
  | [x0, x1], _ =>
    simp [Value.cells] at e0 e1
    obtain ⟨y0, y1, m1, f1, _, f2, f3⟩ := trod_struct2 hi e0
    obtain ⟨z0, z1, m2, f4, _, f5, f6⟩ := trod_struct2 hi e1
    rw [u0, k0, hCb] at f2 f5
    rw [u1, k1, hCs] at f3 f6
    simp at f2 f3 f5 f6
    obtain ⟨n1, q0, rfl⟩ := DataW.trod_bool hB f2
    obtain ⟨a1, q1, rfl, w1⟩ := DataW.trod_string hS f3
    obtain ⟨n2, q2, rfl⟩ := DataW.trod_bool hB f5
    obtain ⟨a2, q3, rfl, w2⟩ := DataW.trod_string hS f6
    simp at q0 q1 q2 q3
    subst q0 q1 q2 q3
    subst f1 f4
    simp at ex
    exact ⟨n1, a1, n2, a2, rfl, ex.1, ex.2, w1, w2⟩
theorem shut_pairs2 {P : Program} {H : Type} {enc : TypeId × Value → H} {w : World} {base : Nat} {spare : Nat → Bool} {held : Bool} {t e tb ts : TypeId} {g0 g1 : Field} {n1 n2 : Bool} {a1 a2 : ByteArray}
    (hs : P.underlying t = some (.array 2 e)) (hi : P.underlying e = some (.struct #[g0, g1])) (hB : P.underlying tb = some .bool) (hS : P.underlying ts = some .string)
    (hC : P.cellsOf t = 4) (hCe : P.cellsOf e = 2) (hCb : P.cellsOf tb = 1) (hCs : P.cellsOf ts = 1) (hg : g0.offset = 0 ∧ g0.type = tb ∧ g1.offset = 1 ∧ g1.type = ts) (w1 : a1.size ≤ maxLen) (w2 : a2.size ≤ maxLen) :
    DataW.Trod enc P w base spare held t (.agg #[.bool n1, .string a1, .bool n2, .string a2]) (.agg [.agg [.lit (.bool n1), .lit (.string a1.data.toList)], .agg [.lit (.bool n2), .lit (.string a2.data.toList)]]) [] := by
  obtain ⟨u0, k0, u1, k1⟩ := hg
  exact ⟨3, by simp [DataW.trod, Value.cells, hs, hi, hC, hCe, u0, k0, u1, k1, hCb, hCs, hB, hS, w1, w2, show List.range 2 = [0, 1] from rfl]⟩
end Go.Proofs.YtogmgfdihmacpaaGreatDoor.powerAdds

namespace Go.Proofs.YtogmgfdihmacpaaGreatDoor.powerAdds
open Go.ChangeShapes Go.WideShapes Go.ChangeAt Go.RowKit Go.Joins
open Go.ChangeMaps (open_string shut_string)
set_option linter.unusedVariables false

theorem own : ownKnob Tryz.prog.godebug = none := by kernel_rfl
theorem cells24 : Tryz.prog.cellsOf 24 = 2 := by kernel_rfl
theorem arr59 : Tryz.prog.cellsOf 59 = 4 := by kernel_rfl
theorem arr37 : Tryz.prog.cellsOf 37 = 2 := by kernel_rfl
theorem arr4 : Tryz.prog.cellsOf 4 = 1 := by kernel_rfl
theorem arr22 : Tryz.prog.cellsOf 22 = 1 := by kernel_rfl

set_option maxRecDepth 100000 in
theorem lifted (os : Os) (started : os.Started) (H : Type) (enc : TypeId × Value → H) :
    ReturnsInHanded {} Tryz.checked os 9 .any (fun w args => (Rows.powerAddsSpec.pre enc Tryz.prog Tryz.f9 Rows.powerAddsRow.domain false w args ∧ laidMetH Tryz.prog Rows.powerAddsRow.laid w) ∧ sizedMet enc Tryz.prog Tryz.f9 (OpenSpec.ofChange Rows.powerAddsSpec) false w args) (Rows.powerAddsSpec.post enc Tryz.prog Tryz.f9 false true false false) := by
  refine returnsInHanded_of_change_and (C := Tryz.checked) (X := fun w _ => laidMetH Tryz.prog Rows.powerAddsRow.laid w) (fun _ _ _ hh h => h.of_heap hh) own started (by kernel_rfl) Tryz.func9
    (ChangeSpec.witness_shaped (enc := enc) (C := Tryz.checked) (os := os) (X := fun w _ => laidMetH Tryz.prog Rows.powerAddsRow.laid w) false (World.laidAll Tryz.prog os Rows.powerAddsRow.laid) #[.agg #[.string ByteArray.empty, .string ByteArray.empty], .string ByteArray.empty, .agg #[.bool false, .string ByteArray.empty, .bool false, .string ByteArray.empty]] 8 (World.laidAll_os _ _ _)
      (World.shaped_of_ZipB (by kernel_rfl) (by kernel_rfl)) (by kernel_rfl) (by kernel_rfl) (by kernel_rfl)
      (by rw [MakeChecks.laidMetH_plain _ _ _ (by kernel_rfl)]; exact laidMet_laidAll _ (by kernel_rfl) (by kernel_rfl))) ?_
  intro W base args ds gs before hval0 hW hcnd _ hL _
  have hval : ∀ (j : Nat) t v, Tryz.f9.params[j]? = some t → args[j]? = some v → Value.okWide Tryz.prog W .any base t v := hval0
  have hW' := hW
  obtain ⟨p, q, hA0, hV, rfl, hfz, hnd⟩ := hW
  have hA : DataW.TrodAll enc Tryz.prog W 0 (fun _ => true) true Tryz.f9.params.toList args.toList ds p := hA0
  rw [Tryz.params9] at hA hval
  obtain ⟨v0, vs0, d0, ds0, p0, q0, hargs, rfl, rfl, h0, r0⟩ := trodAll_cons hA
  obtain ⟨v1, vs1, d1, ds1, p1, q1, rfl, rfl, rfl, h1, r1⟩ := trodAll_cons r0
  obtain ⟨v2, vs2, d2, ds2, p2, q2, rfl, rfl, rfl, h2, r2⟩ := trodAll_cons r1
  obtain ⟨rfl, rfl, rfl⟩ := trodAll_nil r2
  obtain rfl : args = #[v0, v1, v2] := by cases args; simp_all
  obtain ⟨rfl, rfl⟩ := trodVars_none hV
  obtain ⟨c0a, c0b, y0a, y0b, m0, rfl, rfl, rfl, hy0a, hy0b⟩ := open_agg2 Tryz.underlying24 (by kernel_rfl) cells24 (hval 0 24 v0 rfl rfl) h0
  obtain ⟨a0a, e0a, rfl, w0a⟩ := DataW.trod_string Tryz.underlying22 hy0a
  obtain ⟨a0b, e0b, rfl, w0b⟩ := DataW.trod_string Tryz.underlying22 hy0b
  simp at e0a e0b
  subst e0a e0b
  obtain ⟨a1, rfl, rfl, rfl, w1⟩ := open_string Tryz.underlying22 (hval 1 22 v1 rfl rfl) h1
  obtain ⟨g2a, a2a, g2b, a2b, rfl, rfl, rfl, w2a, w2b⟩ := open_pairs2 Tryz.underlying59 Tryz.underlying37 Tryz.underlying4 Tryz.underlying22 arr59 arr37 arr4 arr22 ⟨rfl, rfl, rfl, rfl⟩ (hval 2 59 v2 rfl rfl) h2
  clear hA0 hval0
  simp only [List.append_nil] at hW'
  have reads0 : ∀ (W' : World) (sp : Nat → Bool), DataW.Trod enc Tryz.prog W' 0 sp true 24 (.agg #[.string a0a, .string a0b]) (.agg [.lit (.string a0a.data.toList), .lit (.string a0b.data.toList)]) [] := fun W' sp =>
    shut_agg2 (y0 := (.lit (.string a0a.data.toList), [])) (y1 := (.lit (.string a0b.data.toList), [])) Tryz.underlying24 (by kernel_rfl) cells24 ⟨1, by simp [DataW.trod, Tryz.underlying22, w0a]⟩ ⟨1, by simp [DataW.trod, Tryz.underlying22, w0b]⟩
  refine (Go.Proofs.YtogmgfdihmacpaaGreatDoor.law_PowerAdds a0a a0b a1 g2a a2a g2b a2b w0a w0b w1 w2a w2b W).mono fun e W' ⟨he, bel⟩ => ?_
  subst he
  exact ⟨_, rfl, _, _, _, [], [], [], hW', (trodAll_cons_mk (shut_bool Tryz.underlying4 _) trodAll_mk0), (trodAll_cons_mk (reads0 _ _) (trodAll_cons_mk (shut_string Tryz.underlying22 w1) (trodAll_cons_mk (shut_pairs2 Tryz.underlying59 Tryz.underlying37 Tryz.underlying4 Tryz.underlying22 arr59 arr37 arr4 arr22 ⟨rfl, rfl, rfl, rfl⟩ w2a w2b) trodAll_mk0))), rfl, bel.frame _, fun h => by cases h⟩

theorem over : Rows.powerAddsRow.holds Tryz.pinned (OpenSpec.ofChange Rows.powerAddsSpec) :=
  OpenClaim.holds_of_wide 9 Tryz.f9 rfl rfl rfl rfl rfl rfl rfl ⟨rfl, rfl, rfl, rfl, rfl⟩ rfl rfl rfl rfl rfl (by kernel_rfl) Tryz.func9 (by kernel_rfl)
    (of_decide_eq_true (by kernel_rfl)) (by unfold Func.isWrapper; first | (rw [if_pos (by decide +kernel)]; kernel_rfl) | (rw [if_neg (by decide +kernel)]; exact ⟨rfl, rfl⟩))
    (fun os started H enc _ => lifted os started H enc)

theorem proved : Rows.PowerAddsCardSaid :=
  Claim7.holds_tied_plain_at .later [] [.data, .pinned] true (true, "48a2d3222dea22192a58a80be55a9005bac7ac861fdd1122e3d7e77b5bbe0b57") false over (fun _ h => by cases h) (by kernel_rfl) (fun _ h => by cases h) powerAdds_row_tie rfl ⟨rfl, rfl⟩ (by kernel_rfl) rfl
    (fun f fn hf hfn => by
      obtain rfl : f = 9 := Option.some.inj ((show Tryz.prog.funcNamed "domino/dominolaw13.PowerAdds" = some 9 by kernel_rfl).symm.trans hf) |>.symm
      obtain rfl : fn = Tryz.f9 := (Option.some.inj (Tryz.func9.symm.trans hfn)).symm
      exact ⟨by kernel_rfl, fun j t ht => by
        rw [Tryz.params9] at ht
        have hm : t ∈ [24, 22, 59] := by simpa using Array.mem_of_getElem? ht
        have hall : ([24, 22, 59].all fun u => !Tryz.prog.wantsStandIn u) = true := by kernel_rfl
        exact (show Tryz.prog.wantsStandIn t = false by simpa using List.all_eq_true.1 hall t hm)⟩)
    (by kernel_rfl)
end Go.Proofs.YtogmgfdihmacpaaGreatDoor.powerAdds
