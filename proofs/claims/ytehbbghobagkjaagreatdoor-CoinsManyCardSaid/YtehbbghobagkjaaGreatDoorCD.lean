/-
  Several parts in one text (CD).
-/
import Derived.Test.YtehbbghobagkjaaGreatDoorLaw6a
import Derived.Deep.LoopGhost
import Derived.OpenShut
import Derived.Test.YtehbbghobagkjaaGreatDoorCR
import Derived.Deep.RegionHeld3
import Derived.Deep.RegionWith
/-
  Layer 6's statements: CoinsSpread.
-/
namespace Go.Proofs.YtehbbghobagkjaaGreatDoor
open Go.RowKit Go.Deep
set_option linter.unusedVariables false

/-- One value. -/
def fE (i : Nat) (_ : Nat) : ByteArray := E i
theorem svE (i : Nat) (w : World) : SV (w.alloc (.cells #[.string (E i)] 25)) (.slice (some ⟨w.heap.size, 0, none⟩) 1 1) 1 (fE i) :=
  SV.of_row (t := 25) (by
    rw [show (svC 1 (fE i)).toArray = #[.string (E i)] from rfl]
    exact heap_alloc_last w _)
theorem wfE {i : Nat} (h : i < 18446744073709551616) : WF 1 (fE i) ((0 : Nat) : Int) := ⟨fun j _ => small_can h, by omega, by omega⟩
theorem spread_yes (i n : Nat) (z : Int) (hz : z = (i : Int) - (n : Int) + 1) (hn : 0 < n) (hn2 : n ≤ 40) (hi : i < 2 * n - 1) (v : Value) (w : World) (hv : SV w v 1 (fE i)) (htab : TabW w) :
    Calls Tryz.prog 11 #[.agg #[v, .string ⟨#[]⟩, .int .i64 0], .string (E n)] w fun e w' => SignP (ZG z) (ZS z) 1 (fE i) ⟨#[]⟩ 1 w e w' := by
  have h := signed_some v 1 (fE i) ⟨#[]⟩ 0 (E n) w hv (by omega) (wfE (by omega)) (small_can (by omega)) (small_size (by omega) hn) (by show 0 ≤ _; omega) htab
    (by rw [V_E]; exact small_lim (by omega)) (x := E i) (by
      rw [V_E]
      unfold nextV
      rw [if_pos (by omega), if_pos (by rw [show fE i 0 = E i from rfl, V_E, V_E]; omega), if_neg (by omega)]
      rfl) (small_can (by omega))
  rw [V_E, V_E, show (i : Int) - ((n - 1 : Nat) : Int) = z by omega] at h
  exact h
theorem spread_no (i n : Nat) (hn : 0 < n) (hn2 : n ≤ 40) (hi : i = 2 * n - 1) (v : Value) (w : World) (hv : SV w v 1 (fE i)) (htab : TabW w) :
    Calls Tryz.prog 11 #[.agg #[v, .string ⟨#[]⟩, .int .i64 0], .string (E n)] w fun e w' => NoSigned 2 w e w' :=
  signed_none v 1 (fE i) ⟨#[]⟩ 0 (E n) w hv (by omega) (wfE (by omega)) (small_can (by omega)) (small_size (by omega) hn) (by show 0 ≤ _; omega) htab
    (by rw [V_E]; exact small_lim (by omega)) (x := ⟨#[]⟩) (by
      rw [V_E]
      unfold nextV
      rw [if_pos (by omega), if_neg (by rw [show fE i 0 = E i from rfl, V_E, V_E]; omega)]) (by omega)
/-- The letter of the seed. -/
def sdB : ByteArray := ⟨#[115]⟩
theorem spread_zero (w : World) : Calls Tryz.prog 11 #[.agg #[.slice none 0 0, .string sdB, .int .i64 0], .string ⟨#[]⟩] w fun e w' => NoSigned 11 w e w' :=
  signed_bad _ 0 f0 sdB 0 ⟨#[]⟩ w (SV.nil w f0) (by omega) (.inr (.inl ⟨rfl, wfS, small_can (n := 0) (by omega), rfl⟩)) (by omega)
theorem k62 {w a b : World} {g : Nat} {c0 c1 : Value} (b99 : Below a.heap.size a b) (h : a.cell? ⟨g, 0, none⟩ = some c0 ∧ a.cell? ⟨g, 1, none⟩ = some c1 ∧ Below w.heap.size w a) :
    b.cell? ⟨g, 0, none⟩ = some c0 ∧ b.cell? ⟨g, 1, none⟩ = some c1 ∧ Below w.heap.size w b := ⟨kc6 b99 h.1, kc6 b99 h.2.1, bel_of h.2.2 b99⟩
theorem k62d {w a : World} {g : Nat} {c0 c1 : Value} (h : a.cell? ⟨g, 0, none⟩ = some c0 ∧ a.cell? ⟨g, 1, none⟩ = some c1 ∧ Below w.heap.size w a) :
    a.drew.cell? ⟨g, 0, none⟩ = some c0 ∧ a.drew.cell? ⟨g, 1, none⟩ = some c1 ∧ Below w.heap.size w a.drew := ⟨h.1, h.2.1, h.2.2.drew⟩
theorem k62l {w a : World} {g : Nat} {c0 c1 : Value} (h : a.cell? ⟨g, 0, none⟩ = some c0 ∧ a.cell? ⟨g, 1, none⟩ = some c1 ∧ Below w.heap.size w a) : Below w.heap.size w a := h.2.2
theorem bel_two (w : World) (T U : Obj) : Below w.heap.size w ((w.alloc T).alloc U) := by
  have b0 : Below w.heap.size w (w.alloc T) := (Below.refl _ _).alloc (Nat.le_refl _) _
  exact b0.alloc b0.size _
theorem spof (y z : Int) (W : World) (h : y = z) (h1 : -9223372036854775808 ≤ z) (h2 : z ≤ 9223372036854775807) :
    Calls Tryz.prog 20 #[.int .i64 y] W fun e w' => e = .returned (.agg #[.bool (ZG z), .string (ZS z)]) ∧ Below W.heap.size W w' := by
  subst h; exact iof_any y W h1 h2
/-- What the loop knows. -/
def SprR (w : World) (n y : Nat) (v : Value) (wr : World) : Prop := ∃ i : Nat, i + y = 2 * n - 1 ∧ v = .int .i64 i ∧ Below w.heap.size w wr

end Go.Proofs.YtehbbghobagkjaaGreatDoor


/-
  Layer 6's statements: CoinsExplicit.
-/
namespace Go.Proofs.YtehbbghobagkjaaGreatDoor
open Go.RowKit Go.Deep
set_option linter.unusedVariables false

theorem few_facts {k : Nat} {f : Nat → ByteArray} {S : ByteArray} (h : FewP k f S true) : k ≤ 40 ∧ S.size ≤ 100 ∧ ∀ j, j < k → (f j).size ≤ 140 := h rfl
theorem snats_yes (v1 v2 : Value) (k : Nat) (f : Nat → ByteArray) (w : World) (h1 : SV w v1 k f) (h2 : SV w v2 k f) (hk : k ≤ 9223372036854775807) :
    Calls Tryz.prog 15 #[v1, v2] w fun e w' => e = .returned (.bool true) ∧ Below w.heap.size w w' := by
  refine (sameNats_any v1 v2 k k f f w h1 h2 hk hk).mono ?_
  rintro e w' ⟨⟨b, rfl, hb⟩, hw⟩
  obtain rfl : b = true := hb.mpr ⟨rfl, fun _ _ => rfl⟩
  exact ⟨rfl, hw⟩
theorem same_yes (v1 v2 : Value) (k : Nat) (f g : Nat → ByteArray) (S : ByteArray) (t : Int) (w : World) (h1 : SV w v1 k f) (h2 : SV w v2 k g) (hk : k ≤ 9223372036854775807) (he : ∀ j, j < k → f j = g j) :
    Calls Tryz.prog 10 #[.agg #[v1, .string S, .int .i64 t], .agg #[v2, .string S, .int .i64 t]] w fun e w' => e = .returned (.bool true) ∧ Below w.heap.size w w' := by
  refine (same_any v1 v2 k k f g S S t t w h1 h2 hk hk).mono ?_
  rintro e w' ⟨⟨b, rfl, hb⟩, hw⟩
  obtain rfl : b = true := hb.mpr ⟨rfl, rfl, rfl, he⟩
  exact ⟨rfl, hw⟩
/-- The cells of two tapes' variables, an element of the first, both lists. -/
def ExS (w : World) (a b : Nat) (p : Addr) (k g c : Nat) (cap : Nat) (q : Option Addr) (f : Nat → ByteArray) (S x : ByteArray) (t t1 : Int) (W : World) : Prop :=
  W.cell? ⟨a, 0, none⟩ = some (.slice q k cap) ∧ W.cell? ⟨a, 1, none⟩ = some (.string S) ∧ W.cell? ⟨a, 2, none⟩ = some (.int .i64 t) ∧
  W.cell? ⟨b, 0, none⟩ = some (.slice (some ⟨g, 0, none⟩) k c) ∧ W.cell? ⟨b, 1, none⟩ = some (.string S) ∧ W.cell? ⟨b, 2, none⟩ = some (.int .i64 t1) ∧
  W.cell? p = some (.string x) ∧ SV W (.slice q k cap) k f ∧ SV W (.slice (some ⟨g, 0, none⟩) k c) k f ∧ Below w.heap.size w W
theorem ExS.next {w : World} {a b : Nat} {p : Addr} {k g c cap : Nat} {q : Option Addr} {f : Nat → ByteArray} {S x : ByteArray} {t t1 : Int} {W V : World} (h : ExS w a b p k g c cap q f S x t t1 W) (b99 : Below W.heap.size W V) : ExS w a b p k g c cap q f S x t t1 V := by
  obtain ⟨h0, h1, h2, h3, h4, h5, h6, h7, h8, h9⟩ := h
  exact ⟨kc6 b99 h0, kc6 b99 h1, kc6 b99 h2, kc6 b99 h3, kc6 b99 h4, kc6 b99 h5, kc6 b99 h6, h7.below b99, h8.below b99, bel_of h9 b99⟩
theorem ExS.drew {w : World} {a b : Nat} {p : Addr} {k g c cap : Nat} {q : Option Addr} {f : Nat → ByteArray} {S x : ByteArray} {t t1 : Int} {W : World} (h : ExS w a b p k g c cap q f S x t t1 W) : ExS w a b p k g c cap q f S x t t1 W.drew := by
  obtain ⟨h0, h1, h2, h3, h4, h5, h6, h7, h8, h9⟩ := h
  exact ⟨h0, h1, h2, h3, h4, h5, h6, h7, h8, h9.drew⟩
theorem ExS.bel {w : World} {a b : Nat} {p : Addr} {k g c cap : Nat} {q : Option Addr} {f : Nat → ByteArray} {S x : ByteArray} {t t1 : Int} {W : World} (h : ExS w a b p k g c cap q f S x t t1 W) : Below w.heap.size w W := h.2.2.2.2.2.2.2.2.2
theorem ExS.sv1 {w : World} {a b : Nat} {p : Addr} {k g c cap : Nat} {q : Option Addr} {f : Nat → ByteArray} {S x : ByteArray} {t t1 : Int} {W : World} (h : ExS w a b p k g c cap q f S x t t1 W) : SV W (.slice q k cap) k f := h.2.2.2.2.2.2.2.1
theorem ExS.sv2 {w : World} {a b : Nat} {p : Addr} {k g c cap : Nat} {q : Option Addr} {f : Nat → ByteArray} {S x : ByteArray} {t t1 : Int} {W : World} (h : ExS w a b p k g c cap q f S x t t1 W) : SV W (.slice (some ⟨g, 0, none⟩) k c) k f := h.2.2.2.2.2.2.2.2.1

end Go.Proofs.YtehbbghobagkjaaGreatDoor


/-
  Layer 6's statements: CoinsSeeds.
-/
namespace Go.Proofs.YtehbbghobagkjaaGreatDoor
open Go.RowKit Go.Deep
set_option linter.unusedVariables false

theorem firstN_lt {S : List UInt8} {t n x : Nat} : ∀ (k a : Nat), firstN S t n a k = some x → x < n
  | 0, a, h => by cases h
  | k + 1, a, h => by
    unfold firstN at h
    split at h
    · rename_i hl; obtain rfl := Option.some.inj h; exact hl
    · exact firstN_lt k (a + 1) h
theorem nextV_seed {k : Nat} {f : Nat → ByteArray} {S n : ByteArray} {t : Nat} (h : ¬ t < k) (h2 : ¬ t = 2147483647) (hS : S.size ≠ 0) : nextV k f S t n = FBv (firstN S.data.toList t (V n) 0 256) := by
  unfold nextV
  rw [if_neg h, if_neg (fun q => q.elim h2 hS)]

end Go.Proofs.YtehbbghobagkjaaGreatDoor

