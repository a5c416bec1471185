/-
  Contracts of package integer and of its reference: variables of two cells behind calls; Neg, Cmp.
-/
import Derived.Test.YtjbcicgbemepbaaDoorInt4
namespace Go.Proofs.YtjbcicgbemepbaaDoor
open Go.RowKit
set_option linter.unusedVariables false

/-- Two cells of a variable. -/
def Two (w : World) (g : Nat) (c0 c1 : Value) : Prop :=
  w.cell? ⟨g, 0, none⟩ = some c0 ∧ w.cell? ⟨g, 1, none⟩ = some c1 ∧ w.frozen? ⟨g, 0, none⟩ = false ∧ w.frozen? ⟨g, 1, none⟩ = false ∧ g < w.heap.size
theorem Two.new (w : World) (c0 c1 : Value) (t : TypeId) (g : Nat) (hg : g = w.heap.size) : Two (w.alloc (.cells #[c0, c1] t)) g c0 c1 := by
  subst hg
  refine ⟨?_, ?_, ?_, ?_, ?_⟩
  · rw [World.cell?_alloc_new]; rfl
  · rw [World.cell?_alloc_new]; rfl
  · simp
  · simp
  · simp
theorem Two.below {w w' : World} {B g : Nat} {c0 c1 : Value} (h : Two w g c0 c1) (b : Below B w w') (hB : B = w.heap.size) : Two w' g c0 c1 := by
  subst hB
  obtain ⟨h0, h1, h2, h3, h4⟩ := h
  refine ⟨?_, ?_, ?_, ?_, ?_⟩
  · rw [b.cell (p := ⟨g, 0, none⟩) h4, h0]
  · rw [b.cell (p := ⟨g, 1, none⟩) h4, h1]
  · rw [b.frozen (p := ⟨g, 0, none⟩) h4, h2]
  · rw [b.frozen (p := ⟨g, 1, none⟩) h4, h3]
  · exact Nat.lt_of_lt_of_le h4 b.size
theorem Two.alloc {w : World} {g : Nat} {c0 c1 : Value} (h : Two w g c0 c1) (o : Obj) : Two (w.alloc o) g c0 c1 :=
  h.below ((Below.refl _ _).alloc (Nat.le_refl _) _) rfl
theorem Two.draw {w : World} {g : Nat} {c0 c1 : Value} (h : Two w g c0 c1) (q : Nat) : Two (w.drewN q) g c0 c1 := h
theorem bnextW {w a b : World} {B : Nat} (h : Below B w a) (k : Below a.heap.size a b) (hB : B ≤ a.heap.size) : Below B w b := h.trans (k.mono hB)
theorem after1 {w w1 : World} {a0 a1 : Value} {t : TypeId} (b : Below (w.alloc (.cells #[a0, a1] t)).heap.size (w.alloc (.cells #[a0, a1] t)) w1) :
    Two w1 w.heap.size a0 a1 ∧ Below w.heap.size w w1 :=
  ⟨(Two.new w a0 a1 t _ rfl).below b rfl, bnextW ((Below.refl w.heap.size w).alloc (Nat.le_refl _) _) b (by simp)⟩
theorem after2 {w w1 : World} {a0 a1 b0 b1 : Value} {t u : TypeId} (b : Below ((w.alloc (.cells #[a0, a1] t)).alloc (.cells #[b0, b1] u)).heap.size ((w.alloc (.cells #[a0, a1] t)).alloc (.cells #[b0, b1] u)) w1) :
    Two w1 w.heap.size a0 a1 ∧ Two w1 (w.heap.size + 1) b0 b1 ∧ Below w.heap.size w w1 :=
  ⟨((Two.new w a0 a1 t _ rfl).alloc _).below b rfl, (Two.new _ b0 b1 u _ (by simp)).below b rfl,
    bnextW (((Below.refl w.heap.size w).alloc (Nat.le_refl _) _).alloc (by simp) _) b (by simp; omega)⟩
theorem after3 {w w1 : World} {a0 a1 b0 b1 c0 c1 : Value} {t u v : TypeId}
    (b : Below (((w.alloc (.cells #[a0, a1] t)).alloc (.cells #[b0, b1] u)).alloc (.cells #[c0, c1] v)).heap.size (((w.alloc (.cells #[a0, a1] t)).alloc (.cells #[b0, b1] u)).alloc (.cells #[c0, c1] v)) w1) :
    Two w1 w.heap.size a0 a1 ∧ Two w1 (w.heap.size + 1) b0 b1 ∧ Two w1 (w.heap.size + 1 + 1) c0 c1 ∧ Below w.heap.size w w1 :=
  ⟨(((Two.new w a0 a1 t _ rfl).alloc _).alloc _).below b rfl, ((Two.new _ b0 b1 u _ (by simp)).alloc _).below b rfl, (Two.new _ c0 c1 v _ (by simp)).below b rfl,
    bnextW ((((Below.refl w.heap.size w).alloc (Nat.le_refl _) _).alloc (by simp) _).alloc (by simp; omega) _) b (by simp; omega)⟩
theorem bset {w a : World} {B g : Nat} {u v : Value} (h : Below B w a) (hB : B ≤ g) : Below B w ((a.setCell ⟨g, 0, none⟩ u).setCell ⟨g, 1, none⟩ v) :=
  (h.setCell (p := ⟨g, 0, none⟩) hB _).setCell (p := ⟨g, 1, none⟩) hB _
/-- The order of two integers. -/
def zsgn (a b : Int) : Int := if a < b then -1 else if a = b then 0 else 1
theorem sgn_zsgn (m n : Nat) : sgn m n = zsgn m n := by unfold sgn zsgn; split <;> split <;> (first | omega | (split <;> omega) | skip)
theorem sgn_zsgn_neg (m n : Nat) : sgn n m = zsgn (-(m : Int)) (-(n : Int)) := by unfold sgn zsgn; split <;> split <;> (first | omega | (split <;> omega) | skip)
theorem zsgn_lt {a b : Int} (h : a < b) : zsgn a b = -1 := by unfold zsgn; rw [if_pos h]
theorem zsgn_gt {a b : Int} (h : b < a) : zsgn a b = 1 := by unfold zsgn; rw [if_neg (by omega), if_neg (by omega)]
theorem IZ_neg {s : ByteArray} (h : IVal true s) : IZ true s < 0 := by
  unfold IZ; rw [sg_t]
  have h0 : V s ≠ 0 := fun q => h.2 rfl ((size_zero h.1).2 q)
  omega
theorem IZ_pos (s : ByteArray) : 0 ≤ IZ false s := by unfold IZ; rw [sg_f]; omega

set_option maxHeartbeats 400000 in
theorem ineg_yes (g : Bool) (s : ByteArray) (w : World) (h : IVal g s) :
    Calls Tryd.prog 79 #[.agg #[.bool g, .string s]] w fun e w' => e = .returned (Z (-(IZ g s))) ∧ Below w.heap.size w w' := by
  have HI := Lib.hid h
  have hz : Z (-(IZ g s)) = Z (sg (!g) (V s)) := by
    congr 1; unfold IZ; cases g <;> simp [sg]
  rw [hz]
  have hs := fun w => signed_s (!g) s w h.1
  clear hz h
  obtain ⟨G, S, hc⟩ := Z_code (sg (!g) (V s))
  rw [hc] at hs ⊢
  clear hc
  have HS := Lib.hid hs; clear hs
  go_enter Tryd.func79, Tryd.ntmps79
  go_wp2_with fail
  refine (ivalid_t g s _ HI.out).mono ?_; rintro e w1 ⟨rfl, b1⟩
  obtain ⟨T1, T2, k1⟩ := after2 b1
  have q1 := T1.1
  have q2 := T1.2.1
  go_wp2_with fail
  refine (HS.out _).mono ?_; rintro e w2 ⟨rfl, b2⟩
  have T3 := Two.below T2 b2 rfl
  have k2 := bnextW k1 b2 k1.size
  clear q1 q2
  obtain ⟨q1, q2, q3, q4, q5⟩ := T3
  go_wp2
  refine bodyPost_ret (v := .agg #[.bool G, .string S]) (by simp [results, Tryd.results79, go_sem, q1, q2]) rfl ⟨rfl, ?_⟩
  exact bset k2 (by simp)
set_option maxHeartbeats 400000 in
theorem ineg_no (g : Bool) (s : ByteArray) (w : World) (h : ¬ IVal g s) :
    Calls Tryd.prog 79 #[.agg #[.bool g, .string s]] w fun e w' => e = .returned (Z 0) ∧ Below w.heap.size w w' := by
  have HI := Lib.hid h; clear h
  rw [Z_zero]
  go_enter Tryd.func79, Tryd.ntmps79
  go_wp2_with fail
  refine (ivalid_f g s _ HI.out).mono ?_; rintro e w1 ⟨rfl, b1⟩
  obtain ⟨T1, T2, k1⟩ := after2 b1
  obtain ⟨q1, q2, q3, q4, q5⟩ := T2
  go_wp2
  refine bodyPost_ret (v := .agg #[.bool false, .string ⟨#[]⟩]) (by simp [results, Tryd.results79, go_sem, q1, q2]) rfl ⟨rfl, ?_⟩
  exact bset k1 (by simp)

end Go.Proofs.YtjbcicgbemepbaaDoor
