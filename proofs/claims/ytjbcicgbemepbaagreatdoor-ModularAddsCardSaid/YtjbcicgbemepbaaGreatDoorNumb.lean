/-
  A struct of two strings, a struct of a bool and a string, and a string, by value: opened and shut.
-/
import Derived.Test.YtjbcicgbemepbaaGreatDoorChecked
import Derived.ProofKit
import Derived.Lib.SmallJoins
import Derived.OpenShut
import Derived.ShutString
namespace Go.Proofs.YtjbcicgbemepbaaGreatDoor
open Go.ChangeShapes Go.WideShapes Go.ChangeAt Go.RowKit Go.Joins
set_option linter.unusedVariables false

theorem list5 {α : Type} {l : List α} (h : l.length = 5) : ∃ a b c d e, l = [a, b, c, d, e] := by
  match l, h with
  | [a, b, c, d, e], _ => exact ⟨a, b, c, d, e, rfl⟩
theorem open_numbers {P : Program} {H : Type} {enc : TypeId × Value → H} {w : World} {base : Nat} {spare : Nat → Bool} {held : Bool} {r : Reach} {b0 : Nat} {t ti ts tb : TypeId} {f0 f1 f2 f3 g0 g1 : Field} {v : Value} {d : DataW H} {p : List MemPlace}
    (hs : P.underlying t = some (.struct #[f0, f1, f2, f3])) (hi : P.underlying ti = some (.struct #[g0, g1])) (hS : P.underlying ts = some .string) (hB : P.underlying tb = some .bool)
    (hC : P.cellsOf t = 5) (hCi : P.cellsOf ti = 2) (hCs : P.cellsOf ts = 1) (hCb : P.cellsOf tb = 1)
    (hf : f0.offset = 0 ∧ f0.type = ts ∧ f1.offset = 1 ∧ f1.type = ts ∧ f2.offset = 2 ∧ f2.type = ti ∧ f3.offset = 4 ∧ f3.type = ts) (hg : g0.offset = 0 ∧ g0.type = tb ∧ g1.offset = 1 ∧ g1.type = ts)
    (hv : Value.okWide P w r b0 t v) (h : DataW.Trod enc P w base spare held t v d p) :
    ∃ (a b : ByteArray) (g : Bool) (e m : ByteArray), v = .agg #[.string a, .string b, .bool g, .string e, .string m] ∧
      d = .agg [.lit (.string a.data.toList), .lit (.string b.data.toList), .agg [.lit (.bool g), .lit (.string e.data.toList)], .lit (.string m.data.toList)] ∧ p = [] ∧
      a.size ≤ maxLen ∧ b.size ≤ maxLen ∧ e.size ≤ maxLen ∧ m.size ≤ maxLen := by
  obtain ⟨o0, t0, o1, t1, o2, t2, o3, t3⟩ := hf
  obtain ⟨u0, k0, u1, k1⟩ := hg
  obtain ⟨cs, rfl, hsz⟩ := okWide_struct hs hv
  obtain ⟨fuel, hx⟩ := h
  obtain ⟨xs, n, _, ex, hl, hlen, hel⟩ := DataW.trod_struct hs hx
  obtain ⟨l⟩ := cs
  obtain ⟨c0, c1, c2, c3, c4, rfl⟩ := list5 (l := l) (by simpa using hsz.trans hC)
  have e0 := hel 0 f0 rfl
  have e1 := hel 1 f1 rfl
  have e2 := hel 2 f2 rfl
  have e3 := hel 3 f3 rfl
  rw [o0, t0, hCs] at e0
  rw [o1, t1, hCs] at e1
  rw [o2, t2, hCi] at e2
  rw [o3, t3, hCs] at e3
  match xs, hlen with
  | [x0, x1, x2, x3], _ =>
    simp [Value.cells] at e0 e1 e2 e3
    obtain ⟨a, q0, rfl, w0⟩ := DataW.trod_string hS e0
    obtain ⟨b, q1, rfl, w1⟩ := DataW.trod_string hS e1
    obtain ⟨m, q3, rfl, w3⟩ := DataW.trod_string hS e3
    obtain ⟨y0, y1, n2, e4, _, f4, f5⟩ := trod_struct2 hi e2
    rw [u0, k0, hCb] at f4
    rw [u1, k1, hCs] at f5
    simp at f4 f5
    obtain ⟨g, q4, rfl⟩ := DataW.trod_bool hB f4
    obtain ⟨e, q5, rfl, w5⟩ := DataW.trod_string hS f5
    simp at q0 q1 q3 q4 q5
    subst q0 q1 q3 q4 q5
    subst e4
    simp at ex
    exact ⟨a, b, g, e, m, rfl, ex.1, ex.2, w0, w1, w5, w3⟩
theorem shut_numbers {P : Program} {H : Type} {enc : TypeId × Value → H} {w : World} {base : Nat} {spare : Nat → Bool} {held : Bool} {t ti ts tb : TypeId} {f0 f1 f2 f3 g0 g1 : Field} {a b e m : ByteArray} {g : Bool}
    (hs : P.underlying t = some (.struct #[f0, f1, f2, f3])) (hi : P.underlying ti = some (.struct #[g0, g1])) (hS : P.underlying ts = some .string) (hB : P.underlying tb = some .bool)
    (hC : P.cellsOf t = 5) (hCi : P.cellsOf ti = 2) (hCs : P.cellsOf ts = 1) (hCb : P.cellsOf tb = 1)
    (hf : f0.offset = 0 ∧ f0.type = ts ∧ f1.offset = 1 ∧ f1.type = ts ∧ f2.offset = 2 ∧ f2.type = ti ∧ f3.offset = 4 ∧ f3.type = ts) (hg : g0.offset = 0 ∧ g0.type = tb ∧ g1.offset = 1 ∧ g1.type = ts)
    (w0 : a.size ≤ maxLen) (w1 : b.size ≤ maxLen) (w2 : e.size ≤ maxLen) (w3 : m.size ≤ maxLen) :
    DataW.Trod enc P w base spare held t (.agg #[.string a, .string b, .bool g, .string e, .string m]) (.agg [.lit (.string a.data.toList), .lit (.string b.data.toList), .agg [.lit (.bool g), .lit (.string e.data.toList)], .lit (.string m.data.toList)]) [] := by
  obtain ⟨o0, t0, o1, t1, o2, t2, o3, t3⟩ := hf
  obtain ⟨u0, k0, u1, k1⟩ := hg
  have inner : DataW.trod enc P w base spare held 2 ti [.bool g, .string e] = some (.agg [.lit (.bool g), .lit (.string e.data.toList)], []) := by
    have := trod_struct2_mk (enc := enc) (w := w) (base := base) (spare := spare) (held := held) (n := 1) (cs := [.bool g, .string e]) (y0 := (.lit (.bool g), [])) (y1 := (.lit (.string e.data.toList), [])) hi (by simp [hCi])
      (by rw [u0, k0, hCb]; simp [DataW.trod, hB]) (by rw [u1, k1, hCs]; simp [DataW.trod, hS, w2])
    simpa using this
  have ts4 := trod_struct4_mk (enc := enc) (w := w) (base := base) (spare := spare) (held := held) (n := 2) (cs := [.string a, .string b, .bool g, .string e, .string m]) (y0 := (.lit (.string a.data.toList), [])) (y1 := (.lit (.string b.data.toList), [])) (y2 := (.agg [.lit (.bool g), .lit (.string e.data.toList)], [])) (y3 := (.lit (.string m.data.toList), [])) hs (by simp [hC])
    (by rw [o0, t0, hCs]; simp [DataW.trod, hS, w0]) (by rw [o1, t1, hCs]; simp [DataW.trod, hS, w1]) (by rw [o2, t2, hCi]; simpa using inner) (by rw [o3, t3, hCs]; simp [DataW.trod, hS, w3])
  exact ⟨_, by simpa [Value.cells] using ts4⟩
end Go.Proofs.YtjbcicgbemepbaaGreatDoor
