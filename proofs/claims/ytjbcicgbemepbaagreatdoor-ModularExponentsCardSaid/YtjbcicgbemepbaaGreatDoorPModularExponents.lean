/-
  The statement ModularExponents: for every input the Go function dominolaw03.ModularExponents returns true and leaves its arguments as they were. No condition.
-/
import Derived.Test.YtjbcicgbemepbaaGreatDoorRows
import Derived.Test.YtjbcicgbemepbaaGreatDoorLB
import Derived.WalkKit
import Derived.ProofKit
import Derived.OpenShut
import Derived.ShutString
import Derived.Lib.SmallJoins
import Derived.Below
import Derived.Test.YtjbcicgbemepbaaGreatDoorCards
import Derived.Test.YtjbcicgbemepbaaGreatDoorTie
import Derived.LaidMore
import Derived.Lay
import Derived.SevenTiedAt
import Derived.Stop.Joined
namespace Go.Proofs.YtjbcicgbemepbaaGreatDoor.modularExponents
open Go.ChangeShapes Go.WideShapes Go.ChangeAt Go.RowKit Go.Joins
set_option linter.unusedVariables false

theorem list5 {α : Type} {l : List α} (h : l.length = 5) : ∃ a b c d e, l = [a, b, c, d, e] := by
  match l, h with
  | [a, b, c, d, e], _ => exact ⟨a, b, c, d, e, rfl⟩
theorem open_numbers {P : Program} {H : Type} {enc : TypeId × Value → H} {w : World} {base : Nat} {spare : Nat → Bool} {held : Bool} {r : Reach} {b0 : Nat} {t ti ts tb : TypeId} {f0 f1 f2 f3 g0 g1 : Field} {v : Value} {d : DataW H} {p : List MemPlace}
    (hs : P.underlying t = some (.struct #[f0, f1, f2, f3])) (hi : P.underlying ti = some (.struct #[g0, g1])) (hS : P.underlying ts = some .string) (hB : P.underlying tb = some .bool)
    (hC : P.cellsOf t = 5) (hCi : P.cellsOf ti = 2) (hCs : P.cellsOf ts = 1) (hCb : P.cellsOf tb = 1)
    (hf : f0.offset = 0 ∧ f0.type = ts ∧ f1.offset = 1 ∧ f1.type = ts ∧ f2.offset = 2 ∧ f2.type = ti ∧ f3.offset = 4 ∧ f3.type = ts) (hg : g0.offset = 0 ∧ g0.type = tb ∧ g1.offset = 1 ∧ g1.type = ts)
    (hv : Value.okWide P w r b0 t v) (h : DataW.Trod enc P w base spare held t v d p) :
    ∃ (a b : ByteArray) (g : Bool) (e m : ByteArray), v = .agg #[.string a, .string b, .bool g, .string e, .string m] ∧
      d = .agg [.lit (.string a.data.toList), .lit (.string b.data.toList), .agg [.lit (.bool g), .lit (.string e.data.toList)], .lit (.string m.data.toList)] ∧ p = [] ∧
      a.size ≤ maxLen ∧ b.size ≤ maxLen ∧ e.size ≤ maxLen ∧ m.size ≤ maxLen := by
  obtain ⟨o0, t0, o1, t1, o2, t2, o3, t3⟩ := hf
  obtain ⟨u0, k0, u1, k1⟩ := hg
  obtain ⟨cs, rfl, hsz⟩ := okWide_struct hs hv
  obtain ⟨fuel, hx⟩ := h
  obtain ⟨xs, n, _, ex, hl, hlen, hel⟩ := DataW.trod_struct hs hx
  obtain ⟨l⟩ := cs
  obtain ⟨c0, c1, c2, c3, c4, rfl⟩ := list5 (l := l) (by simpa using hsz.trans hC)
  have e0 := hel 0 f0 rfl
  have e1 := hel 1 f1 rfl
  have e2 := hel 2 f2 rfl
  have e3 := hel 3 f3 rfl
  rw [o0, t0, hCs] at e0
  rw [o1, t1, hCs] at e1
  rw [o2, t2, hCi] at e2
  rw [o3, t3, hCs] at e3
  match xs, hlen with
  | [x0, x1, x2, x3], _ =>
    simp [Value.cells] at e0 e1 e2 e3
    obtain ⟨a, q0, rfl, w0⟩ := DataW.trod_string hS e0
    obtain ⟨b, q1, rfl, w1⟩ := DataW.trod_string hS e1
    obtain ⟨m, q3, rfl, w3⟩ := DataW.trod_string hS e3
    obtain ⟨y0, y1, n2, e4, _, f4, f5⟩ := trod_struct2 hi e2
    rw [u0, k0, hCb] at f4
    rw [u1, k1, hCs] at f5
    simp at f4 f5
    obtain ⟨g, q4, rfl⟩ := DataW.trod_bool hB f4
    obtain ⟨e, q5, rfl, w5⟩ := DataW.trod_string hS f5
    simp at q0 q1 q3 q4 q5
    subst q0 q1 q3 q4 q5
    subst e4
    simp at ex
    exact ⟨a, b, g, e, m, rfl, ex.1, ex.2, w0, w1, w5, w3⟩
theorem shut_numbers {P : Program} {H : Type} {enc : TypeId × Value → H} {w : World} {base : Nat} {spare : Nat → Bool} {held : Bool} {t ti ts tb : TypeId} {f0 f1 f2 f3 g0 g1 : Field} {a b e m : ByteArray} {g : Bool}
    (hs : P.underlying t = some (.struct #[f0, f1, f2, f3])) (hi : P.underlying ti = some (.struct #[g0, g1])) (hS : P.underlying ts = some .string) (hB : P.underlying tb = some .bool)
    (hC : P.cellsOf t = 5) (hCi : P.cellsOf ti = 2) (hCs : P.cellsOf ts = 1) (hCb : P.cellsOf tb = 1)
    (hf : f0.offset = 0 ∧ f0.type = ts ∧ f1.offset = 1 ∧ f1.type = ts ∧ f2.offset = 2 ∧ f2.type = ti ∧ f3.offset = 4 ∧ f3.type = ts) (hg : g0.offset = 0 ∧ g0.type = tb ∧ g1.offset = 1 ∧ g1.type = ts)
    (w0 : a.size ≤ maxLen) (w1 : b.size ≤ maxLen) (w2 : e.size ≤ maxLen) (w3 : m.size ≤ maxLen) :
    DataW.Trod enc P w base spare held t (.agg #[.string a, .string b, .bool g, .string e, .string m]) (.agg [.lit (.string a.data.toList), .lit (.string b.data.toList), .agg [.lit (.bool g), .lit (.string e.data.toList)], .lit (.string m.data.toList)]) [] := by
  obtain ⟨o0, t0, o1, t1, o2, t2, o3, t3⟩ := hf
  obtain ⟨u0, k0, u1, k1⟩ := hg
  have inner : DataW.trod enc P w base spare held 2 ti [.bool g, .string e] = some (.agg [.lit (.bool g), .lit (.string e.data.toList)], []) := by
    have := trod_struct2_mk (enc := enc) (w := w) (base := base) (spare := spare) (held := held) (n := 1) (cs := [.bool g, .string e]) (y0 := (.lit (.bool g), [])) (y1 := (.lit (.string e.data.toList), [])) hi (by simp [hCi])
      (by rw [u0, k0, hCb]; simp [DataW.trod, hB]) (by rw [u1, k1, hCs]; simp [DataW.trod, hS, w2])
    simpa using this
  have ts4 := trod_struct4_mk (enc := enc) (w := w) (base := base) (spare := spare) (held := held) (n := 2) (cs := [.string a, .string b, .bool g, .string e, .string m]) (y0 := (.lit (.string a.data.toList), [])) (y1 := (.lit (.string b.data.toList), [])) (y2 := (.agg [.lit (.bool g), .lit (.string e.data.toList)], [])) (y3 := (.lit (.string m.data.toList), [])) hs (by simp [hC])
    (by rw [o0, t0, hCs]; simp [DataW.trod, hS, w0]) (by rw [o1, t1, hCs]; simp [DataW.trod, hS, w1]) (by rw [o2, t2, hCi]; simpa using inner) (by rw [o3, t3, hCs]; simp [DataW.trod, hS, w3])
  exact ⟨_, by simpa [Value.cells] using ts4⟩
end Go.Proofs.YtjbcicgbemepbaaGreatDoor.modularExponents

namespace Go.Proofs.YtjbcicgbemepbaaGreatDoor.modularExponents
open Go.ChangeShapes Go.WideShapes Go.ChangeAt Go.RowKit Go.Joins
open Go.ChangeMaps (open_string shut_string)
set_option linter.unusedVariables false

theorem own : ownKnob Tryz.prog.godebug = none := by kernel_rfl
theorem five26 : Tryz.prog.cellsOf 26 = 5 := by kernel_rfl
theorem two24 : Tryz.prog.cellsOf 24 = 2 := by kernel_rfl

set_option maxRecDepth 100000 in
theorem lifted (os : Os) (started : os.Started) (H : Type) (enc : TypeId × Value → H) :
    ReturnsInHanded {} Tryz.checked os 9 .any (fun w args => (Rows.modularExponentsSpec.pre enc Tryz.prog Tryz.f9 Rows.modularExponentsRow.domain false w args ∧ laidMetH Tryz.prog Rows.modularExponentsRow.laid w) ∧ sizedMet enc Tryz.prog Tryz.f9 (OpenSpec.ofChange Rows.modularExponentsSpec) false w args) (Rows.modularExponentsSpec.post enc Tryz.prog Tryz.f9 false true false false) := by
  refine returnsInHanded_of_change_and (C := Tryz.checked) (X := fun w _ => laidMetH Tryz.prog Rows.modularExponentsRow.laid w) (fun _ _ _ hh h => h.of_heap hh) own started (by kernel_rfl) Tryz.func9
    (ChangeSpec.witness_shaped (enc := enc) (C := Tryz.checked) (os := os) (X := fun w _ => laidMetH Tryz.prog Rows.modularExponentsRow.laid w) false (World.laidAll Tryz.prog os Rows.modularExponentsRow.laid) #[.agg #[.string ByteArray.empty, .string ByteArray.empty, .bool false, .string ByteArray.empty, .string ByteArray.empty], .int .u16 0, .int .u16 0] 8 (World.laidAll_os _ _ _)
      (World.shaped_of_ZipB (by kernel_rfl) (by kernel_rfl)) (by kernel_rfl) (by kernel_rfl) (by kernel_rfl)
      (by rw [MakeChecks.laidMetH_plain _ _ _ (by kernel_rfl)]; exact laidMet_laidAll _ (by kernel_rfl) (by kernel_rfl))) ?_
  intro W base args ds gs before hval0 hW hcnd _ hL _
  have hval : ∀ (j : Nat) t v, Tryz.f9.params[j]? = some t → args[j]? = some v → Value.okWide Tryz.prog W .any base t v := hval0
  have hW' := hW
  obtain ⟨p, q, hA0, hV, rfl, hfz, hnd⟩ := hW
  have hA : DataW.TrodAll enc Tryz.prog W 0 (fun _ => true) true Tryz.f9.params.toList args.toList ds p := hA0
  rw [Tryz.params9] at hA hval
  obtain ⟨v0, vs0, d0, ds0, p0, q0, hargs, rfl, rfl, h0, r0⟩ := trodAll_cons hA
  obtain ⟨v1, vs1, d1, ds1, p1, q1, rfl, rfl, rfl, h1, r1⟩ := trodAll_cons r0
  obtain ⟨v2, vs2, d2, ds2, p2, q2, rfl, rfl, rfl, h2, r2⟩ := trodAll_cons r1
  obtain ⟨rfl, rfl, rfl⟩ := trodAll_nil r2
  obtain rfl : args = #[v0, v1, v2] := by cases args; simp_all
  obtain ⟨rfl, rfl⟩ := trodVars_none hV
  obtain ⟨a0a, a0b, a0g, a0e, a0m, rfl, rfl, rfl, w0a, w0b, w0e, w0m⟩ := open_numbers Tryz.underlying26 Tryz.underlying24 Tryz.underlying22 Tryz.underlying4 five26 two24 (by kernel_rfl) (by kernel_rfl) ⟨rfl, rfl, rfl, rfl, rfl, rfl, rfl, rfl⟩ ⟨rfl, rfl, rfl, rfl⟩ (hval 0 26 v0 rfl rfl) h0
  obtain ⟨a1, rfl, rfl, rfl, w1⟩ := open_int Tryz.underlying55 (hval 1 55 v1 rfl rfl) h1
  obtain ⟨a2, rfl, rfl, rfl, w2⟩ := open_int Tryz.underlying55 (hval 2 55 v2 rfl rfl) h2
  clear hA0 hval0
  simp only [List.append_nil] at hW'
  have reads0 : ∀ (W' : World) (sp : Nat → Bool), DataW.Trod enc Tryz.prog W' 0 sp true 26 (.agg #[.string a0a, .string a0b, .bool a0g, .string a0e, .string a0m]) (.agg [.lit (.string a0a.data.toList), .lit (.string a0b.data.toList), .agg [.lit (.bool a0g), .lit (.string a0e.data.toList)], .lit (.string a0m.data.toList)]) [] := fun W' sp =>
    shut_numbers Tryz.underlying26 Tryz.underlying24 Tryz.underlying22 Tryz.underlying4 five26 two24 (by kernel_rfl) (by kernel_rfl) ⟨rfl, rfl, rfl, rfl, rfl, rfl, rfl, rfl⟩ ⟨rfl, rfl, rfl, rfl⟩ w0a w0b w0e w0m
  refine (Go.Proofs.YtjbcicgbemepbaaGreatDoor.law_ModularExponents a0a a0b a0g a0e a0m a1 a2 w0a w0b w0e w0m w1 w2 W).mono fun e W' ⟨he, bel⟩ => ?_
  subst he
  exact ⟨_, rfl, _, _, _, [], [], [], hW', (trodAll_cons_mk (shut_bool Tryz.underlying4 _) trodAll_mk0), (trodAll_cons_mk (reads0 _ _) (trodAll_cons_mk (shut_int Tryz.underlying55 w1) (trodAll_cons_mk (shut_int Tryz.underlying55 w2) trodAll_mk0))), rfl, bel.frame _, fun h => by cases h⟩

theorem over : Rows.modularExponentsRow.holds Tryz.pinned (OpenSpec.ofChange Rows.modularExponentsSpec) :=
  OpenClaim.holds_of_wide 9 Tryz.f9 rfl rfl rfl rfl rfl rfl rfl ⟨rfl, rfl, rfl, rfl, rfl⟩ rfl rfl rfl rfl rfl (by kernel_rfl) Tryz.func9 (by kernel_rfl)
    (of_decide_eq_true (by kernel_rfl)) (by unfold Func.isWrapper; first | (rw [if_pos (by decide +kernel)]; kernel_rfl) | (rw [if_neg (by decide +kernel)]; exact ⟨rfl, rfl⟩))
    (fun os started H enc _ => lifted os started H enc)

theorem proved : Rows.ModularExponentsCardSaid :=
  Claim7.holds_tied_plain_at .later [] [.data, .pinned] true (true, "ce1f5c9dd6ff591e05a9992cdbb398dafe845997f09da34952ea523502596842") false over (fun _ h => by cases h) (by kernel_rfl) (fun _ h => by cases h) modularExponents_row_tie rfl ⟨rfl, rfl⟩ (by kernel_rfl) rfl
    (fun f fn hf hfn => by
      obtain rfl : f = 9 := Option.some.inj ((show Tryz.prog.funcNamed "domino/dominolaw03.ModularExponents" = some 9 by kernel_rfl).symm.trans hf) |>.symm
      obtain rfl : fn = Tryz.f9 := (Option.some.inj (Tryz.func9.symm.trans hfn)).symm
      exact ⟨by kernel_rfl, fun j t ht => by
        rw [Tryz.params9] at ht
        have hm : t ∈ [26, 55, 55] := by simpa using Array.mem_of_getElem? ht
        have hall : ([26, 55, 55].all fun u => !Tryz.prog.wantsStandIn u) = true := by kernel_rfl
        exact (show Tryz.prog.wantsStandIn t = false by simpa using List.all_eq_true.1 hall t hm)⟩)
    (by kernel_rfl)
end Go.Proofs.YtjbcicgbemepbaaGreatDoor.modularExponents
