/-
  Contracts of package integer and of its reference: Add, Mul.
-/
import Derived.Test.YtogmgfdihmacpaaGreatDoorIA
import Derived.Test.YtogmgfdihmacpaaGreatDoorRef6
import Derived.Test.YtogmgfdihmacpaaGreatDoorLaw1d
namespace Go.Proofs.YtogmgfdihmacpaaGreatDoor
open Go.RowKit
set_option linter.unusedVariables false

theorem addr_ne {g h i j : Nat} (hn : g ≠ h) : (⟨g, i, none⟩ : Addr) ≠ ⟨h, j, none⟩ := by
  intro q; exact hn (Addr.mk.inj q).1
theorem Two.set {w : World} {g : Nat} {c0 c1 : Value} (h : Two w g c0 c1) (u v : Value) : Two ((w.setCell ⟨g, 0, none⟩ u).setCell ⟨g, 1, none⟩ v) g u v := by
  obtain ⟨h0, h1, h2, h3, h4⟩ := h
  have d : (⟨g, 1, none⟩ : Addr) ≠ ⟨g, 0, none⟩ := by intro q; have := (Addr.mk.inj q).2.1; omega
  have d' : (⟨g, 0, none⟩ : Addr) ≠ ⟨g, 1, none⟩ := by intro q; have := (Addr.mk.inj q).2.1; omega
  refine ⟨?_, ?_, by simp [h2], by simp [h3], by simp [h4]⟩
  · rw [World.cell?_setCell_other _ _ _ _ d]; exact World.cell?_setCell_same _ _ _ h0
  · exact World.cell?_setCell_same _ _ _ (u := c1) (by rw [World.cell?_setCell_other _ _ _ _ d']; exact h1)
theorem Two.set_ne {w : World} {g : Nat} {c0 c1 : Value} (h : Two w g c0 c1) (a : Nat) (u v : Value) (hn : a ≠ g) : Two ((w.setCell ⟨a, 0, none⟩ u).setCell ⟨a, 1, none⟩ v) g c0 c1 := by
  obtain ⟨h0, h1, h2, h3, h4⟩ := h
  refine ⟨?_, ?_, by simp [h2], by simp [h3], by simp [h4]⟩
  · rw [World.cell?_setCell_other _ _ _ _ (addr_ne hn), World.cell?_setCell_other _ _ _ _ (addr_ne hn)]; exact h0
  · rw [World.cell?_setCell_other _ _ _ _ (addr_ne hn), World.cell?_setCell_other _ _ _ _ (addr_ne hn)]; exact h1
theorem sg_add (g : Bool) (m n : Nat) : sg g m + sg g n = sg g (m + n) := by cases g <;> simp [sg] <;> omega
theorem sg_sub (g : Bool) {m n : Nat} (h : n ≤ m) : sg g m + sg (!g) n = sg g (m - n) := by cases g <;> simp [sg] <;> omega
theorem sg_sub' (g : Bool) {m n : Nat} (h : m ≤ n) : sg g m + sg (!g) n = sg (!g) (n - m) := by cases g <;> simp [sg] <;> omega
theorem sg_mul (g h : Bool) (m n : Nat) : sg g m * sg h n = sg (g != h) (m * n) := by cases g <;> cases h <;> simp [sg, Int.neg_mul, Int.mul_neg]
/-- What a result of layer 1 becomes under a sign. -/
theorem okN_sg (g : Bool) (n : Nat) : (okN n = .tuple #[.string (E n), .int .i64 0] ∧ zokN (sg g n) = .tuple #[Z (sg g n), .int .i64 0]) ∨ (okN n = .tuple #[.string (E 0), .int .i64 5] ∧ zokN (sg g n) = .tuple #[Z 0, .int .i64 5]) := by
  by_cases h : n < Lim
  · exact .inl ⟨okN_yes h, zokN_yes (by rw [sg_natAbs]; exact h)⟩
  · exact .inr ⟨okN_no h, zokN_no (by rw [sg_natAbs]; exact h)⟩
theorem okN_sg' (g : Bool) (n : Nat) : ∃ (m : Nat) (v : Int), okN n = .tuple #[.string (E m), .int .i64 v] ∧ zokN (sg g n) = .tuple #[Z (sg g m), .int .i64 v] := by
  rcases okN_sg g n with ⟨a, b⟩ | ⟨a, b⟩
  · exact ⟨n, 0, a, b⟩
  · exact ⟨0, 5, a, by rw [b]; cases g <;> rfl⟩

set_option maxHeartbeats 400000 in
theorem iadd_no1 (g1 g2 : Bool) (s1 s2 : ByteArray) (w : World) (h : ¬ IVal g1 s1) :
    Calls Tryz.prog 32 #[.agg #[.bool g1, .string s1], .agg #[.bool g2, .string s2]] w fun e w' => e = .returned (.tuple #[Z 0, .int .i64 3]) ∧ Below w.heap.size w w' := by
  have H1 := Lib.hid h; clear h
  rw [Z_zero]
  go_enter Tryz.func32, Tryz.ntmps32
  go_wp2_with fail
  refine (ivalid_f g1 s1 _ H1.out).mono ?_; rintro e w1 ⟨rfl, b1⟩
  obtain ⟨T1, T2, T3, k1⟩ := after3 b1
  obtain ⟨q1, q2, q3, q4, q5⟩ := T3
  go_wp2
  refine bodyPost_ret (v := .tuple #[.agg #[.bool false, .string ⟨#[]⟩], .int .i64 3]) (by simp [results, Tryz.results32, go_sem, q1, q2]) rfl ⟨rfl, ?_⟩
  exact bset k1 (by omega)
set_option maxHeartbeats 400000 in
theorem iadd_no2 (g1 g2 : Bool) (s1 s2 : ByteArray) (w : World) (h : IVal g1 s1) (h2 : ¬ IVal g2 s2) :
    Calls Tryz.prog 32 #[.agg #[.bool g1, .string s1], .agg #[.bool g2, .string s2]] w fun e w' => e = .returned (.tuple #[Z 0, .int .i64 3]) ∧ Below w.heap.size w w' := by
  have H1 := Lib.hid h; clear h
  have H2 := Lib.hid h2; clear h2
  rw [Z_zero]
  go_enter Tryz.func32, Tryz.ntmps32
  go_wp2_with fail
  refine (ivalid_t g1 s1 _ H1.out).mono ?_; rintro e w1 ⟨rfl, b1⟩
  obtain ⟨T1, T2, T3, k1⟩ := after3 b1
  have q1 := T2.1
  have q2 := T2.2.1
  go_wp2_with fail
  refine (ivalid_f g2 s2 _ H2.out).mono ?_; rintro e w2 ⟨rfl, b2⟩
  have k2 := bnextW k1 b2 k1.size
  have T3 := T3.below b2 rfl
  clear q1 q2
  obtain ⟨q1, q2, q3, q4, q5⟩ := T3
  go_wp2
  refine bodyPost_ret (v := .tuple #[.agg #[.bool false, .string ⟨#[]⟩], .int .i64 3]) (by simp [results, Tryz.results32, go_sem, q1, q2]) rfl ⟨rfl, ?_⟩
  exact bset k2 (by omega)
theorem iadd_no (g1 g2 : Bool) (s1 s2 : ByteArray) (w : World) (h : ¬ (IVal g1 s1 ∧ IVal g2 s2)) :
    Calls Tryz.prog 32 #[.agg #[.bool g1, .string s1], .agg #[.bool g2, .string s2]] w fun e w' => e = .returned (.tuple #[Z 0, .int .i64 3]) ∧ Below w.heap.size w w' := by
  by_cases h1 : IVal g1 s1
  · exact iadd_no2 g1 g2 s1 s2 w h1 (fun q => h ⟨h1, q⟩)
  · exact iadd_no1 g1 g2 s1 s2 w h1

set_option maxHeartbeats 400000 in
theorem riadd_no1 (g1 g2 : Bool) (s1 s2 : ByteArray) (w : World) (h : ¬ IVal g1 s1) :
    Calls Tryz.prog 153 #[.agg #[.bool g1, .string s1], .agg #[.bool g2, .string s2]] w fun e w' => e = .returned (.tuple #[Z 0, .int .i64 3]) ∧ Below w.heap.size w w' := by
  have H1 := Lib.hid h; clear h
  rw [Z_zero]
  go_enter Tryz.func153, Tryz.ntmps153
  go_wp2_with fail
  refine (rivalid_f g1 s1 _ H1.out).mono ?_; rintro e w1 ⟨rfl, b1⟩
  obtain ⟨T1, T2, T3, k1⟩ := after3 b1
  obtain ⟨q1, q2, q3, q4, q5⟩ := T3
  go_wp2
  refine bodyPost_ret (v := .tuple #[.agg #[.bool false, .string ⟨#[]⟩], .int .i64 3]) (by simp [results, Tryz.results153, go_sem, q1, q2]) rfl ⟨rfl, ?_⟩
  exact bset k1 (by omega)
set_option maxHeartbeats 400000 in
theorem riadd_no2 (g1 g2 : Bool) (s1 s2 : ByteArray) (w : World) (h : IVal g1 s1) (h2 : ¬ IVal g2 s2) :
    Calls Tryz.prog 153 #[.agg #[.bool g1, .string s1], .agg #[.bool g2, .string s2]] w fun e w' => e = .returned (.tuple #[Z 0, .int .i64 3]) ∧ Below w.heap.size w w' := by
  have H1 := Lib.hid h; clear h
  have H2 := Lib.hid h2; clear h2
  rw [Z_zero]
  go_enter Tryz.func153, Tryz.ntmps153
  go_wp2_with fail
  refine (rivalid_t g1 s1 _ H1.out).mono ?_; rintro e w1 ⟨rfl, b1⟩
  obtain ⟨T1, T2, T3, k1⟩ := after3 b1
  have q1 := T2.1
  have q2 := T2.2.1
  go_wp2_with fail
  refine (rivalid_f g2 s2 _ H2.out).mono ?_; rintro e w2 ⟨rfl, b2⟩
  have k2 := bnextW k1 b2 k1.size
  have T3 := T3.below b2 rfl
  clear q1 q2
  obtain ⟨q1, q2, q3, q4, q5⟩ := T3
  go_wp2
  refine bodyPost_ret (v := .tuple #[.agg #[.bool false, .string ⟨#[]⟩], .int .i64 3]) (by simp [results, Tryz.results153, go_sem, q1, q2]) rfl ⟨rfl, ?_⟩
  exact bset k2 (by omega)
theorem riadd_no (g1 g2 : Bool) (s1 s2 : ByteArray) (w : World) (h : ¬ (IVal g1 s1 ∧ IVal g2 s2)) :
    Calls Tryz.prog 153 #[.agg #[.bool g1, .string s1], .agg #[.bool g2, .string s2]] w fun e w' => e = .returned (.tuple #[Z 0, .int .i64 3]) ∧ Below w.heap.size w w' := by
  by_cases h1 : IVal g1 s1
  · exact riadd_no2 g1 g2 s1 s2 w h1 (fun q => h ⟨h1, q⟩)
  · exact riadd_no1 g1 g2 s1 s2 w h1

set_option maxHeartbeats 400000 in
theorem imul_no1 (g1 g2 : Bool) (s1 s2 : ByteArray) (w : World) (h : ¬ IVal g1 s1) :
    Calls Tryz.prog 146 #[.agg #[.bool g1, .string s1], .agg #[.bool g2, .string s2]] w fun e w' => e = .returned (.tuple #[Z 0, .int .i64 3]) ∧ Below w.heap.size w w' := by
  have H1 := Lib.hid h; clear h
  rw [Z_zero]
  go_enter Tryz.func146, Tryz.ntmps146
  go_wp2_with fail
  refine (ivalid_f g1 s1 _ H1.out).mono ?_; rintro e w1 ⟨rfl, b1⟩
  obtain ⟨T1, T2, T3, k1⟩ := after3 b1
  obtain ⟨q1, q2, q3, q4, q5⟩ := T3
  go_wp2
  refine bodyPost_ret (v := .tuple #[.agg #[.bool false, .string ⟨#[]⟩], .int .i64 3]) (by simp [results, Tryz.results146, go_sem, q1, q2]) rfl ⟨rfl, ?_⟩
  exact bset k1 (by omega)
set_option maxHeartbeats 400000 in
theorem imul_no2 (g1 g2 : Bool) (s1 s2 : ByteArray) (w : World) (h : IVal g1 s1) (h2 : ¬ IVal g2 s2) :
    Calls Tryz.prog 146 #[.agg #[.bool g1, .string s1], .agg #[.bool g2, .string s2]] w fun e w' => e = .returned (.tuple #[Z 0, .int .i64 3]) ∧ Below w.heap.size w w' := by
  have H1 := Lib.hid h; clear h
  have H2 := Lib.hid h2; clear h2
  rw [Z_zero]
  go_enter Tryz.func146, Tryz.ntmps146
  go_wp2_with fail
  refine (ivalid_t g1 s1 _ H1.out).mono ?_; rintro e w1 ⟨rfl, b1⟩
  obtain ⟨T1, T2, T3, k1⟩ := after3 b1
  have q1 := T2.1
  have q2 := T2.2.1
  go_wp2_with fail
  refine (ivalid_f g2 s2 _ H2.out).mono ?_; rintro e w2 ⟨rfl, b2⟩
  have k2 := bnextW k1 b2 k1.size
  have T3 := T3.below b2 rfl
  clear q1 q2
  obtain ⟨q1, q2, q3, q4, q5⟩ := T3
  go_wp2
  refine bodyPost_ret (v := .tuple #[.agg #[.bool false, .string ⟨#[]⟩], .int .i64 3]) (by simp [results, Tryz.results146, go_sem, q1, q2]) rfl ⟨rfl, ?_⟩
  exact bset k2 (by omega)
theorem imul_no (g1 g2 : Bool) (s1 s2 : ByteArray) (w : World) (h : ¬ (IVal g1 s1 ∧ IVal g2 s2)) :
    Calls Tryz.prog 146 #[.agg #[.bool g1, .string s1], .agg #[.bool g2, .string s2]] w fun e w' => e = .returned (.tuple #[Z 0, .int .i64 3]) ∧ Below w.heap.size w w' := by
  by_cases h1 : IVal g1 s1
  · exact imul_no2 g1 g2 s1 s2 w h1 (fun q => h ⟨h1, q⟩)
  · exact imul_no1 g1 g2 s1 s2 w h1

set_option maxHeartbeats 400000 in
theorem rimul_no1 (g1 g2 : Bool) (s1 s2 : ByteArray) (w : World) (h : ¬ IVal g1 s1) :
    Calls Tryz.prog 152 #[.agg #[.bool g1, .string s1], .agg #[.bool g2, .string s2]] w fun e w' => e = .returned (.tuple #[Z 0, .int .i64 3]) ∧ Below w.heap.size w w' := by
  have H1 := Lib.hid h; clear h
  rw [Z_zero]
  go_enter Tryz.func152, Tryz.ntmps152
  go_wp2_with fail
  refine (rivalid_f g1 s1 _ H1.out).mono ?_; rintro e w1 ⟨rfl, b1⟩
  obtain ⟨T1, T2, T3, k1⟩ := after3 b1
  obtain ⟨q1, q2, q3, q4, q5⟩ := T3
  go_wp2
  refine bodyPost_ret (v := .tuple #[.agg #[.bool false, .string ⟨#[]⟩], .int .i64 3]) (by simp [results, Tryz.results152, go_sem, q1, q2]) rfl ⟨rfl, ?_⟩
  exact bset k1 (by omega)
set_option maxHeartbeats 400000 in
theorem rimul_no2 (g1 g2 : Bool) (s1 s2 : ByteArray) (w : World) (h : IVal g1 s1) (h2 : ¬ IVal g2 s2) :
    Calls Tryz.prog 152 #[.agg #[.bool g1, .string s1], .agg #[.bool g2, .string s2]] w fun e w' => e = .returned (.tuple #[Z 0, .int .i64 3]) ∧ Below w.heap.size w w' := by
  have H1 := Lib.hid h; clear h
  have H2 := Lib.hid h2; clear h2
  rw [Z_zero]
  go_enter Tryz.func152, Tryz.ntmps152
  go_wp2_with fail
  refine (rivalid_t g1 s1 _ H1.out).mono ?_; rintro e w1 ⟨rfl, b1⟩
  obtain ⟨T1, T2, T3, k1⟩ := after3 b1
  have q1 := T2.1
  have q2 := T2.2.1
  go_wp2_with fail
  refine (rivalid_f g2 s2 _ H2.out).mono ?_; rintro e w2 ⟨rfl, b2⟩
  have k2 := bnextW k1 b2 k1.size
  have T3 := T3.below b2 rfl
  clear q1 q2
  obtain ⟨q1, q2, q3, q4, q5⟩ := T3
  go_wp2
  refine bodyPost_ret (v := .tuple #[.agg #[.bool false, .string ⟨#[]⟩], .int .i64 3]) (by simp [results, Tryz.results152, go_sem, q1, q2]) rfl ⟨rfl, ?_⟩
  exact bset k2 (by omega)
theorem rimul_no (g1 g2 : Bool) (s1 s2 : ByteArray) (w : World) (h : ¬ (IVal g1 s1 ∧ IVal g2 s2)) :
    Calls Tryz.prog 152 #[.agg #[.bool g1, .string s1], .agg #[.bool g2, .string s2]] w fun e w' => e = .returned (.tuple #[Z 0, .int .i64 3]) ∧ Below w.heap.size w w' := by
  by_cases h1 : IVal g1 s1
  · exact rimul_no2 g1 g2 s1 s2 w h1 (fun q => h ⟨h1, q⟩)
  · exact rimul_no1 g1 g2 s1 s2 w h1

set_option maxHeartbeats 800000 in
theorem iadd_same (g : Bool) (s1 s2 : ByteArray) (w : World) (h1 : IVal g s1) (h2 : IVal g s2) :
    Calls Tryz.prog 32 #[.agg #[.bool g, .string s1], .agg #[.bool g, .string s2]] w fun e w' => e = .returned (zokN (IZ g s1 + IZ g s2)) ∧ Below w.heap.size w w' := by
  have H1 := Lib.hid h1; clear h1
  have H2 := Lib.hid h2; clear h2
  have hz : IZ g s1 + IZ g s2 = sg g (V s1 + V s2) := by unfold IZ; exact sg_add _ _ _
  rw [hz]; clear hz
  have hop := fun w => add_yes s1 s2 w H1.out.1 H2.out.1
  obtain ⟨n, hn⟩ : ∃ n, n = V s1 + V s2 := ⟨_, rfl⟩
  rw [← hn] at hop ⊢; clear hn
  obtain ⟨G, S, hc⟩ := Z_code (sg g n)
  have hs := fun w => signed_n g n w
  rcases okN_sg g n with ⟨ho, hz⟩ | ⟨ho, hz⟩
  · rw [hz, hc]
    rw [hc] at hs
    rw [ho] at hop
    have HO := Lib.hid hop
    have HS := Lib.hid hs
    clear hop hs hz ho hc
    go_enter Tryz.func32, Tryz.ntmps32
    go_wp2_with fail
    refine (ivalid_t g s1 _ H1.out).mono ?_; rintro e w1 ⟨rfl, b1⟩
    obtain ⟨T1, T2, T3, k1⟩ := after3 b1
    have q1 := T2.1
    have q2 := T2.2.1
    go_wp2_with fail
    refine (ivalid_t g s2 _ H2.out).mono ?_; rintro e w2 ⟨rfl, b2⟩
    have k2 := bnextW k1 b2 k1.size
    have T1 := T1.below b2 rfl
    have T2 := T2.below b2 rfl
    have T3 := T3.below b2 rfl
    clear q1 q2
    have q1 := T1.1
    have q2 := T1.2.1
    have q3 := T2.1
    have q4 := T2.2.1
    go_wp2_with fail
    refine (HO.out _).mono ?_; rintro e w3 ⟨rfl, b3⟩
    have k3 := bnextW k2 b3 k2.size
    have T1 := T1.below b3 rfl
    have T2 := T2.below b3 rfl
    have T3 := T3.below b3 rfl
    clear q1 q2 q3 q4
    have q1 := T1.1
    have q2 := T1.2.1
    have q3 := T2.1
    have q4 := T2.2.1
    go_wp2_with fail
    refine (HS.out _).mono ?_; rintro e w4 ⟨rfl, b4⟩
    have k4 := bnextW k3 b4 k3.size
    have T3 := T3.below b4 rfl
    clear q1 q2 q3 q4
    obtain ⟨q1, q2, q3, q4, q5⟩ := T3
    go_wp2
    refine bodyPost_ret (v := .tuple #[.agg #[.bool G, .string S], .int .i64 0]) (by simp [results, Tryz.results32, go_sem, q1, q2]) rfl ⟨rfl, ?_⟩
    exact bset k4 (by omega)
  · rw [hz, Z_zero]
    rw [ho] at hop
    have HO := Lib.hid hop
    clear hop hs hz ho hc
    go_enter Tryz.func32, Tryz.ntmps32
    go_wp2_with fail
    refine (ivalid_t g s1 _ H1.out).mono ?_; rintro e w1 ⟨rfl, b1⟩
    obtain ⟨T1, T2, T3, k1⟩ := after3 b1
    have q1 := T2.1
    have q2 := T2.2.1
    go_wp2_with fail
    refine (ivalid_t g s2 _ H2.out).mono ?_; rintro e w2 ⟨rfl, b2⟩
    have k2 := bnextW k1 b2 k1.size
    have T1 := T1.below b2 rfl
    have T2 := T2.below b2 rfl
    have T3 := T3.below b2 rfl
    clear q1 q2
    have q1 := T1.1
    have q2 := T1.2.1
    have q3 := T2.1
    have q4 := T2.2.1
    go_wp2_with fail
    refine (HO.out _).mono ?_; rintro e w3 ⟨rfl, b3⟩
    have k3 := bnextW k2 b3 k2.size
    have T3 := T3.below b3 rfl
    clear q1 q2 q3 q4
    obtain ⟨q1, q2, q3, q4, q5⟩ := T3
    go_wp2
    refine bodyPost_ret (v := .tuple #[.agg #[.bool false, .string ⟨#[]⟩], .int .i64 5]) (by simp [results, Tryz.results32, go_sem, q1, q2]) rfl ⟨rfl, ?_⟩
    exact bset k3 (by omega)

set_option maxHeartbeats 800000 in
theorem imul_tt (g : Bool) (s1 s2 : ByteArray) (w : World) (h1 : IVal true s1) (h2 : IVal true s2) :
    Calls Tryz.prog 146 #[.agg #[.bool true, .string s1], .agg #[.bool true, .string s2]] w fun e w' => e = .returned (zokN (IZ true s1 * IZ true s2)) ∧ Below w.heap.size w w' := by
  have H1 := Lib.hid h1; clear h1
  have H2 := Lib.hid h2; clear h2
  have hz : IZ true s1 * IZ true s2 = sg false (V s1 * V s2) := by unfold IZ; exact sg_mul _ _ _ _
  rw [hz]; clear hz
  have hop := fun w => mul_yes s1 s2 w H1.out.1 H2.out.1
  obtain ⟨n, hn⟩ : ∃ n, n = V s1 * V s2 := ⟨_, rfl⟩
  rw [← hn] at hop ⊢; clear hn
  obtain ⟨G, S, hc⟩ := Z_code (sg false n)
  have hs := fun w => signed_n false n w
  rcases okN_sg false n with ⟨ho, hz⟩ | ⟨ho, hz⟩
  · rw [hz, hc]
    rw [hc] at hs
    rw [ho] at hop
    have HO := Lib.hid hop
    have HS := Lib.hid hs
    clear hop hs hz ho hc
    go_enter Tryz.func146, Tryz.ntmps146
    go_wp2_with fail
    refine (ivalid_t true s1 _ H1.out).mono ?_; rintro e w1 ⟨rfl, b1⟩
    obtain ⟨T1, T2, T3, k1⟩ := after3 b1
    have q1 := T2.1
    have q2 := T2.2.1
    go_wp2_with fail
    refine (ivalid_t true s2 _ H2.out).mono ?_; rintro e w2 ⟨rfl, b2⟩
    have k2 := bnextW k1 b2 k1.size
    have T1 := T1.below b2 rfl
    have T2 := T2.below b2 rfl
    have T3 := T3.below b2 rfl
    clear q1 q2
    have q1 := T1.1
    have q2 := T1.2.1
    have q3 := T2.1
    have q4 := T2.2.1
    go_wp2_with fail
    refine (HO.out _).mono ?_; rintro e w3 ⟨rfl, b3⟩
    have k3 := bnextW k2 b3 k2.size
    have T1 := T1.below b3 rfl
    have T2 := T2.below b3 rfl
    have T3 := T3.below b3 rfl
    clear q1 q2 q3 q4
    have q1 := T1.1
    have q2 := T1.2.1
    have q3 := T2.1
    have q4 := T2.2.1
    go_wp2_with fail
    refine (HS.out _).mono ?_; rintro e w4 ⟨rfl, b4⟩
    have k4 := bnextW k3 b4 k3.size
    have T3 := T3.below b4 rfl
    clear q1 q2 q3 q4
    obtain ⟨q1, q2, q3, q4, q5⟩ := T3
    go_wp2
    refine bodyPost_ret (v := .tuple #[.agg #[.bool G, .string S], .int .i64 0]) (by simp [results, Tryz.results146, go_sem, q1, q2]) rfl ⟨rfl, ?_⟩
    exact bset k4 (by omega)
  · rw [hz, Z_zero]
    rw [ho] at hop
    have HO := Lib.hid hop
    clear hop hs hz ho hc
    go_enter Tryz.func146, Tryz.ntmps146
    go_wp2_with fail
    refine (ivalid_t true s1 _ H1.out).mono ?_; rintro e w1 ⟨rfl, b1⟩
    obtain ⟨T1, T2, T3, k1⟩ := after3 b1
    have q1 := T2.1
    have q2 := T2.2.1
    go_wp2_with fail
    refine (ivalid_t true s2 _ H2.out).mono ?_; rintro e w2 ⟨rfl, b2⟩
    have k2 := bnextW k1 b2 k1.size
    have T1 := T1.below b2 rfl
    have T2 := T2.below b2 rfl
    have T3 := T3.below b2 rfl
    clear q1 q2
    have q1 := T1.1
    have q2 := T1.2.1
    have q3 := T2.1
    have q4 := T2.2.1
    go_wp2_with fail
    refine (HO.out _).mono ?_; rintro e w3 ⟨rfl, b3⟩
    have k3 := bnextW k2 b3 k2.size
    have T3 := T3.below b3 rfl
    clear q1 q2 q3 q4
    obtain ⟨q1, q2, q3, q4, q5⟩ := T3
    go_wp2
    refine bodyPost_ret (v := .tuple #[.agg #[.bool false, .string ⟨#[]⟩], .int .i64 5]) (by simp [results, Tryz.results146, go_sem, q1, q2]) rfl ⟨rfl, ?_⟩
    exact bset k3 (by omega)

set_option maxHeartbeats 800000 in
theorem imul_tf (g : Bool) (s1 s2 : ByteArray) (w : World) (h1 : IVal true s1) (h2 : IVal false s2) :
    Calls Tryz.prog 146 #[.agg #[.bool true, .string s1], .agg #[.bool false, .string s2]] w fun e w' => e = .returned (zokN (IZ true s1 * IZ false s2)) ∧ Below w.heap.size w w' := by
  have H1 := Lib.hid h1; clear h1
  have H2 := Lib.hid h2; clear h2
  have hz : IZ true s1 * IZ false s2 = sg true (V s1 * V s2) := by unfold IZ; exact sg_mul _ _ _ _
  rw [hz]; clear hz
  have hop := fun w => mul_yes s1 s2 w H1.out.1 H2.out.1
  obtain ⟨n, hn⟩ : ∃ n, n = V s1 * V s2 := ⟨_, rfl⟩
  rw [← hn] at hop ⊢; clear hn
  obtain ⟨G, S, hc⟩ := Z_code (sg true n)
  have hs := fun w => signed_n true n w
  rcases okN_sg true n with ⟨ho, hz⟩ | ⟨ho, hz⟩
  · rw [hz, hc]
    rw [hc] at hs
    rw [ho] at hop
    have HO := Lib.hid hop
    have HS := Lib.hid hs
    clear hop hs hz ho hc
    go_enter Tryz.func146, Tryz.ntmps146
    go_wp2_with fail
    refine (ivalid_t true s1 _ H1.out).mono ?_; rintro e w1 ⟨rfl, b1⟩
    obtain ⟨T1, T2, T3, k1⟩ := after3 b1
    have q1 := T2.1
    have q2 := T2.2.1
    go_wp2_with fail
    refine (ivalid_t false s2 _ H2.out).mono ?_; rintro e w2 ⟨rfl, b2⟩
    have k2 := bnextW k1 b2 k1.size
    have T1 := T1.below b2 rfl
    have T2 := T2.below b2 rfl
    have T3 := T3.below b2 rfl
    clear q1 q2
    have q1 := T1.1
    have q2 := T1.2.1
    have q3 := T2.1
    have q4 := T2.2.1
    go_wp2_with fail
    refine (HO.out _).mono ?_; rintro e w3 ⟨rfl, b3⟩
    have k3 := bnextW k2 b3 k2.size
    have T1 := T1.below b3 rfl
    have T2 := T2.below b3 rfl
    have T3 := T3.below b3 rfl
    clear q1 q2 q3 q4
    have q1 := T1.1
    have q2 := T1.2.1
    have q3 := T2.1
    have q4 := T2.2.1
    go_wp2_with fail
    refine (HS.out _).mono ?_; rintro e w4 ⟨rfl, b4⟩
    have k4 := bnextW k3 b4 k3.size
    have T3 := T3.below b4 rfl
    clear q1 q2 q3 q4
    obtain ⟨q1, q2, q3, q4, q5⟩ := T3
    go_wp2
    refine bodyPost_ret (v := .tuple #[.agg #[.bool G, .string S], .int .i64 0]) (by simp [results, Tryz.results146, go_sem, q1, q2]) rfl ⟨rfl, ?_⟩
    exact bset k4 (by omega)
  · rw [hz, Z_zero]
    rw [ho] at hop
    have HO := Lib.hid hop
    clear hop hs hz ho hc
    go_enter Tryz.func146, Tryz.ntmps146
    go_wp2_with fail
    refine (ivalid_t true s1 _ H1.out).mono ?_; rintro e w1 ⟨rfl, b1⟩
    obtain ⟨T1, T2, T3, k1⟩ := after3 b1
    have q1 := T2.1
    have q2 := T2.2.1
    go_wp2_with fail
    refine (ivalid_t false s2 _ H2.out).mono ?_; rintro e w2 ⟨rfl, b2⟩
    have k2 := bnextW k1 b2 k1.size
    have T1 := T1.below b2 rfl
    have T2 := T2.below b2 rfl
    have T3 := T3.below b2 rfl
    clear q1 q2
    have q1 := T1.1
    have q2 := T1.2.1
    have q3 := T2.1
    have q4 := T2.2.1
    go_wp2_with fail
    refine (HO.out _).mono ?_; rintro e w3 ⟨rfl, b3⟩
    have k3 := bnextW k2 b3 k2.size
    have T3 := T3.below b3 rfl
    clear q1 q2 q3 q4
    obtain ⟨q1, q2, q3, q4, q5⟩ := T3
    go_wp2
    refine bodyPost_ret (v := .tuple #[.agg #[.bool false, .string ⟨#[]⟩], .int .i64 5]) (by simp [results, Tryz.results146, go_sem, q1, q2]) rfl ⟨rfl, ?_⟩
    exact bset k3 (by omega)

set_option maxHeartbeats 800000 in
theorem imul_ft (g : Bool) (s1 s2 : ByteArray) (w : World) (h1 : IVal false s1) (h2 : IVal true s2) :
    Calls Tryz.prog 146 #[.agg #[.bool false, .string s1], .agg #[.bool true, .string s2]] w fun e w' => e = .returned (zokN (IZ false s1 * IZ true s2)) ∧ Below w.heap.size w w' := by
  have H1 := Lib.hid h1; clear h1
  have H2 := Lib.hid h2; clear h2
  have hz : IZ false s1 * IZ true s2 = sg true (V s1 * V s2) := by unfold IZ; exact sg_mul _ _ _ _
  rw [hz]; clear hz
  have hop := fun w => mul_yes s1 s2 w H1.out.1 H2.out.1
  obtain ⟨n, hn⟩ : ∃ n, n = V s1 * V s2 := ⟨_, rfl⟩
  rw [← hn] at hop ⊢; clear hn
  obtain ⟨G, S, hc⟩ := Z_code (sg true n)
  have hs := fun w => signed_n true n w
  rcases okN_sg true n with ⟨ho, hz⟩ | ⟨ho, hz⟩
  · rw [hz, hc]
    rw [hc] at hs
    rw [ho] at hop
    have HO := Lib.hid hop
    have HS := Lib.hid hs
    clear hop hs hz ho hc
    go_enter Tryz.func146, Tryz.ntmps146
    go_wp2_with fail
    refine (ivalid_t false s1 _ H1.out).mono ?_; rintro e w1 ⟨rfl, b1⟩
    obtain ⟨T1, T2, T3, k1⟩ := after3 b1
    have q1 := T2.1
    have q2 := T2.2.1
    go_wp2_with fail
    refine (ivalid_t true s2 _ H2.out).mono ?_; rintro e w2 ⟨rfl, b2⟩
    have k2 := bnextW k1 b2 k1.size
    have T1 := T1.below b2 rfl
    have T2 := T2.below b2 rfl
    have T3 := T3.below b2 rfl
    clear q1 q2
    have q1 := T1.1
    have q2 := T1.2.1
    have q3 := T2.1
    have q4 := T2.2.1
    go_wp2_with fail
    refine (HO.out _).mono ?_; rintro e w3 ⟨rfl, b3⟩
    have k3 := bnextW k2 b3 k2.size
    have T1 := T1.below b3 rfl
    have T2 := T2.below b3 rfl
    have T3 := T3.below b3 rfl
    clear q1 q2 q3 q4
    have q1 := T1.1
    have q2 := T1.2.1
    have q3 := T2.1
    have q4 := T2.2.1
    go_wp2_with fail
    refine (HS.out _).mono ?_; rintro e w4 ⟨rfl, b4⟩
    have k4 := bnextW k3 b4 k3.size
    have T3 := T3.below b4 rfl
    clear q1 q2 q3 q4
    obtain ⟨q1, q2, q3, q4, q5⟩ := T3
    go_wp2
    refine bodyPost_ret (v := .tuple #[.agg #[.bool G, .string S], .int .i64 0]) (by simp [results, Tryz.results146, go_sem, q1, q2]) rfl ⟨rfl, ?_⟩
    exact bset k4 (by omega)
  · rw [hz, Z_zero]
    rw [ho] at hop
    have HO := Lib.hid hop
    clear hop hs hz ho hc
    go_enter Tryz.func146, Tryz.ntmps146
    go_wp2_with fail
    refine (ivalid_t false s1 _ H1.out).mono ?_; rintro e w1 ⟨rfl, b1⟩
    obtain ⟨T1, T2, T3, k1⟩ := after3 b1
    have q1 := T2.1
    have q2 := T2.2.1
    go_wp2_with fail
    refine (ivalid_t true s2 _ H2.out).mono ?_; rintro e w2 ⟨rfl, b2⟩
    have k2 := bnextW k1 b2 k1.size
    have T1 := T1.below b2 rfl
    have T2 := T2.below b2 rfl
    have T3 := T3.below b2 rfl
    clear q1 q2
    have q1 := T1.1
    have q2 := T1.2.1
    have q3 := T2.1
    have q4 := T2.2.1
    go_wp2_with fail
    refine (HO.out _).mono ?_; rintro e w3 ⟨rfl, b3⟩
    have k3 := bnextW k2 b3 k2.size
    have T3 := T3.below b3 rfl
    clear q1 q2 q3 q4
    obtain ⟨q1, q2, q3, q4, q5⟩ := T3
    go_wp2
    refine bodyPost_ret (v := .tuple #[.agg #[.bool false, .string ⟨#[]⟩], .int .i64 5]) (by simp [results, Tryz.results146, go_sem, q1, q2]) rfl ⟨rfl, ?_⟩
    exact bset k3 (by omega)

set_option maxHeartbeats 800000 in
theorem imul_ff (g : Bool) (s1 s2 : ByteArray) (w : World) (h1 : IVal false s1) (h2 : IVal false s2) :
    Calls Tryz.prog 146 #[.agg #[.bool false, .string s1], .agg #[.bool false, .string s2]] w fun e w' => e = .returned (zokN (IZ false s1 * IZ false s2)) ∧ Below w.heap.size w w' := by
  have H1 := Lib.hid h1; clear h1
  have H2 := Lib.hid h2; clear h2
  have hz : IZ false s1 * IZ false s2 = sg false (V s1 * V s2) := by unfold IZ; exact sg_mul _ _ _ _
  rw [hz]; clear hz
  have hop := fun w => mul_yes s1 s2 w H1.out.1 H2.out.1
  obtain ⟨n, hn⟩ : ∃ n, n = V s1 * V s2 := ⟨_, rfl⟩
  rw [← hn] at hop ⊢; clear hn
  obtain ⟨G, S, hc⟩ := Z_code (sg false n)
  have hs := fun w => signed_n false n w
  rcases okN_sg false n with ⟨ho, hz⟩ | ⟨ho, hz⟩
  · rw [hz, hc]
    rw [hc] at hs
    rw [ho] at hop
    have HO := Lib.hid hop
    have HS := Lib.hid hs
    clear hop hs hz ho hc
    go_enter Tryz.func146, Tryz.ntmps146
    go_wp2_with fail
    refine (ivalid_t false s1 _ H1.out).mono ?_; rintro e w1 ⟨rfl, b1⟩
    obtain ⟨T1, T2, T3, k1⟩ := after3 b1
    have q1 := T2.1
    have q2 := T2.2.1
    go_wp2_with fail
    refine (ivalid_t false s2 _ H2.out).mono ?_; rintro e w2 ⟨rfl, b2⟩
    have k2 := bnextW k1 b2 k1.size
    have T1 := T1.below b2 rfl
    have T2 := T2.below b2 rfl
    have T3 := T3.below b2 rfl
    clear q1 q2
    have q1 := T1.1
    have q2 := T1.2.1
    have q3 := T2.1
    have q4 := T2.2.1
    go_wp2_with fail
    refine (HO.out _).mono ?_; rintro e w3 ⟨rfl, b3⟩
    have k3 := bnextW k2 b3 k2.size
    have T1 := T1.below b3 rfl
    have T2 := T2.below b3 rfl
    have T3 := T3.below b3 rfl
    clear q1 q2 q3 q4
    have q1 := T1.1
    have q2 := T1.2.1
    have q3 := T2.1
    have q4 := T2.2.1
    go_wp2_with fail
    refine (HS.out _).mono ?_; rintro e w4 ⟨rfl, b4⟩
    have k4 := bnextW k3 b4 k3.size
    have T3 := T3.below b4 rfl
    clear q1 q2 q3 q4
    obtain ⟨q1, q2, q3, q4, q5⟩ := T3
    go_wp2
    refine bodyPost_ret (v := .tuple #[.agg #[.bool G, .string S], .int .i64 0]) (by simp [results, Tryz.results146, go_sem, q1, q2]) rfl ⟨rfl, ?_⟩
    exact bset k4 (by omega)
  · rw [hz, Z_zero]
    rw [ho] at hop
    have HO := Lib.hid hop
    clear hop hs hz ho hc
    go_enter Tryz.func146, Tryz.ntmps146
    go_wp2_with fail
    refine (ivalid_t false s1 _ H1.out).mono ?_; rintro e w1 ⟨rfl, b1⟩
    obtain ⟨T1, T2, T3, k1⟩ := after3 b1
    have q1 := T2.1
    have q2 := T2.2.1
    go_wp2_with fail
    refine (ivalid_t false s2 _ H2.out).mono ?_; rintro e w2 ⟨rfl, b2⟩
    have k2 := bnextW k1 b2 k1.size
    have T1 := T1.below b2 rfl
    have T2 := T2.below b2 rfl
    have T3 := T3.below b2 rfl
    clear q1 q2
    have q1 := T1.1
    have q2 := T1.2.1
    have q3 := T2.1
    have q4 := T2.2.1
    go_wp2_with fail
    refine (HO.out _).mono ?_; rintro e w3 ⟨rfl, b3⟩
    have k3 := bnextW k2 b3 k2.size
    have T3 := T3.below b3 rfl
    clear q1 q2 q3 q4
    obtain ⟨q1, q2, q3, q4, q5⟩ := T3
    go_wp2
    refine bodyPost_ret (v := .tuple #[.agg #[.bool false, .string ⟨#[]⟩], .int .i64 5]) (by simp [results, Tryz.results146, go_sem, q1, q2]) rfl ⟨rfl, ?_⟩
    exact bset k3 (by omega)

theorem imul_yes (g1 g2 : Bool) (s1 s2 : ByteArray) (w : World) (h1 : IVal g1 s1) (h2 : IVal g2 s2) :
    Calls Tryz.prog 146 #[.agg #[.bool g1, .string s1], .agg #[.bool g2, .string s2]] w fun e w' => e = .returned (zokN (IZ g1 s1 * IZ g2 s2)) ∧ Below w.heap.size w w' := by
  cases g1 <;> cases g2
  · exact imul_ff false s1 s2 w h1 h2
  · exact imul_ft false s1 s2 w h1 h2
  · exact imul_tf false s1 s2 w h1 h2
  · exact imul_tt false s1 s2 w h1 h2

set_option maxHeartbeats 800000 in
theorem riadd_same (g : Bool) (s1 s2 : ByteArray) (w : World) (h1 : IVal g s1) (h2 : IVal g s2) :
    Calls Tryz.prog 153 #[.agg #[.bool g, .string s1], .agg #[.bool g, .string s2]] w fun e w' => e = .returned (zokN (IZ g s1 + IZ g s2)) ∧ Below w.heap.size w w' := by
  have H1 := Lib.hid h1; clear h1
  have H2 := Lib.hid h2; clear h2
  have hz : IZ g s1 + IZ g s2 = sg g (V s1 + V s2) := by unfold IZ; exact sg_add _ _ _
  rw [hz]; clear hz
  have hop := fun w => radd_yes s1 s2 w H1.out.1 H2.out.1
  obtain ⟨m, v, ho, hz⟩ := okN_sg' g (V s1 + V s2)
  obtain ⟨G, S, hc⟩ := Z_code (sg g m)
  have hs := fun w => make_n g m w
  rw [hz, hc]
  rw [hc] at hs
  rw [ho] at hop
  have HO := Lib.hid hop
  have HS := Lib.hid hs
  clear hop hs hz ho hc
  go_enter Tryz.func153, Tryz.ntmps153
  go_wp2_with fail
  refine (rivalid_t g s1 _ H1.out).mono ?_; rintro e w1 ⟨rfl, b1⟩
  obtain ⟨T1, T2, T3, k1⟩ := after3 b1
  have q1 := T2.1
  have q2 := T2.2.1
  go_wp2_with fail
  refine (rivalid_t g s2 _ H2.out).mono ?_; rintro e w2 ⟨rfl, b2⟩
  have k2 := bnextW k1 b2 k1.size
  have T1 := T1.below b2 rfl
  have T2 := T2.below b2 rfl
  have T3 := T3.below b2 rfl
  clear q1 q2
  have q1 := T1.1
  have q2 := T1.2.1
  have q3 := T2.1
  have q4 := T2.2.1
  go_wp2_with fail
  refine (HO.out _).mono ?_; rintro e w3 ⟨rfl, b3⟩
  have k3 := bnextW k2 b3 k2.size
  have T1 := T1.below b3 rfl
  have T2 := T2.below b3 rfl
  have T3 := T3.below b3 rfl
  clear q1 q2 q3 q4
  have q1 := T1.1
  have q2 := T1.2.1
  have q3 := T2.1
  have q4 := T2.2.1
  go_wp2_with fail
  refine (HS.out _).mono ?_; rintro e w4 ⟨rfl, b4⟩
  have k4 := bnextW k3 b4 k3.size
  have T3 := T3.below b4 rfl
  clear q1 q2 q3 q4
  obtain ⟨q1, q2, q3, q4, q5⟩ := T3
  go_wp2
  refine bodyPost_ret (v := .tuple #[.agg #[.bool G, .string S], .int .i64 v]) (by simp [results, Tryz.results153, go_sem, q1, q2]) rfl ⟨rfl, ?_⟩
  exact bset k4 (by omega)

set_option maxHeartbeats 800000 in
theorem rimul_tt (g : Bool) (s1 s2 : ByteArray) (w : World) (h1 : IVal true s1) (h2 : IVal true s2) :
    Calls Tryz.prog 152 #[.agg #[.bool true, .string s1], .agg #[.bool true, .string s2]] w fun e w' => e = .returned (zokN (IZ true s1 * IZ true s2)) ∧ Below w.heap.size w w' := by
  have H1 := Lib.hid h1; clear h1
  have H2 := Lib.hid h2; clear h2
  have hz : IZ true s1 * IZ true s2 = sg false (V s1 * V s2) := by unfold IZ; exact sg_mul _ _ _ _
  rw [hz]; clear hz
  have hop := fun w => rmul_yes s1 s2 w H1.out.1 H2.out.1
  obtain ⟨m, v, ho, hz⟩ := okN_sg' false (V s1 * V s2)
  obtain ⟨G, S, hc⟩ := Z_code (sg false m)
  have hs := fun w => make_n false m w
  rw [hz, hc]
  rw [hc] at hs
  rw [ho] at hop
  have HO := Lib.hid hop
  have HS := Lib.hid hs
  clear hop hs hz ho hc
  go_enter Tryz.func152, Tryz.ntmps152
  go_wp2_with fail
  refine (rivalid_t true s1 _ H1.out).mono ?_; rintro e w1 ⟨rfl, b1⟩
  obtain ⟨T1, T2, T3, k1⟩ := after3 b1
  have q1 := T2.1
  have q2 := T2.2.1
  go_wp2_with fail
  refine (rivalid_t true s2 _ H2.out).mono ?_; rintro e w2 ⟨rfl, b2⟩
  have k2 := bnextW k1 b2 k1.size
  have T1 := T1.below b2 rfl
  have T2 := T2.below b2 rfl
  have T3 := T3.below b2 rfl
  clear q1 q2
  have q1 := T1.1
  have q2 := T1.2.1
  have q3 := T2.1
  have q4 := T2.2.1
  go_wp2_with fail
  refine (HO.out _).mono ?_; rintro e w3 ⟨rfl, b3⟩
  have k3 := bnextW k2 b3 k2.size
  have T1 := T1.below b3 rfl
  have T2 := T2.below b3 rfl
  have T3 := T3.below b3 rfl
  clear q1 q2 q3 q4
  have q1 := T1.1
  have q2 := T1.2.1
  have q3 := T2.1
  have q4 := T2.2.1
  go_wp2_with fail
  refine (HS.out _).mono ?_; rintro e w4 ⟨rfl, b4⟩
  have k4 := bnextW k3 b4 k3.size
  have T3 := T3.below b4 rfl
  clear q1 q2 q3 q4
  obtain ⟨q1, q2, q3, q4, q5⟩ := T3
  go_wp2
  refine bodyPost_ret (v := .tuple #[.agg #[.bool G, .string S], .int .i64 v]) (by simp [results, Tryz.results152, go_sem, q1, q2]) rfl ⟨rfl, ?_⟩
  exact bset k4 (by omega)

set_option maxHeartbeats 800000 in
theorem rimul_tf (g : Bool) (s1 s2 : ByteArray) (w : World) (h1 : IVal true s1) (h2 : IVal false s2) :
    Calls Tryz.prog 152 #[.agg #[.bool true, .string s1], .agg #[.bool false, .string s2]] w fun e w' => e = .returned (zokN (IZ true s1 * IZ false s2)) ∧ Below w.heap.size w w' := by
  have H1 := Lib.hid h1; clear h1
  have H2 := Lib.hid h2; clear h2
  have hz : IZ true s1 * IZ false s2 = sg true (V s1 * V s2) := by unfold IZ; exact sg_mul _ _ _ _
  rw [hz]; clear hz
  have hop := fun w => rmul_yes s1 s2 w H1.out.1 H2.out.1
  obtain ⟨m, v, ho, hz⟩ := okN_sg' true (V s1 * V s2)
  obtain ⟨G, S, hc⟩ := Z_code (sg true m)
  have hs := fun w => make_n true m w
  rw [hz, hc]
  rw [hc] at hs
  rw [ho] at hop
  have HO := Lib.hid hop
  have HS := Lib.hid hs
  clear hop hs hz ho hc
  go_enter Tryz.func152, Tryz.ntmps152
  go_wp2_with fail
  refine (rivalid_t true s1 _ H1.out).mono ?_; rintro e w1 ⟨rfl, b1⟩
  obtain ⟨T1, T2, T3, k1⟩ := after3 b1
  have q1 := T2.1
  have q2 := T2.2.1
  go_wp2_with fail
  refine (rivalid_t false s2 _ H2.out).mono ?_; rintro e w2 ⟨rfl, b2⟩
  have k2 := bnextW k1 b2 k1.size
  have T1 := T1.below b2 rfl
  have T2 := T2.below b2 rfl
  have T3 := T3.below b2 rfl
  clear q1 q2
  have q1 := T1.1
  have q2 := T1.2.1
  have q3 := T2.1
  have q4 := T2.2.1
  go_wp2_with fail
  refine (HO.out _).mono ?_; rintro e w3 ⟨rfl, b3⟩
  have k3 := bnextW k2 b3 k2.size
  have T1 := T1.below b3 rfl
  have T2 := T2.below b3 rfl
  have T3 := T3.below b3 rfl
  clear q1 q2 q3 q4
  have q1 := T1.1
  have q2 := T1.2.1
  have q3 := T2.1
  have q4 := T2.2.1
  go_wp2_with fail
  refine (HS.out _).mono ?_; rintro e w4 ⟨rfl, b4⟩
  have k4 := bnextW k3 b4 k3.size
  have T3 := T3.below b4 rfl
  clear q1 q2 q3 q4
  obtain ⟨q1, q2, q3, q4, q5⟩ := T3
  go_wp2
  refine bodyPost_ret (v := .tuple #[.agg #[.bool G, .string S], .int .i64 v]) (by simp [results, Tryz.results152, go_sem, q1, q2]) rfl ⟨rfl, ?_⟩
  exact bset k4 (by omega)

set_option maxHeartbeats 800000 in
theorem rimul_ft (g : Bool) (s1 s2 : ByteArray) (w : World) (h1 : IVal false s1) (h2 : IVal true s2) :
    Calls Tryz.prog 152 #[.agg #[.bool false, .string s1], .agg #[.bool true, .string s2]] w fun e w' => e = .returned (zokN (IZ false s1 * IZ true s2)) ∧ Below w.heap.size w w' := by
  have H1 := Lib.hid h1; clear h1
  have H2 := Lib.hid h2; clear h2
  have hz : IZ false s1 * IZ true s2 = sg true (V s1 * V s2) := by unfold IZ; exact sg_mul _ _ _ _
  rw [hz]; clear hz
  have hop := fun w => rmul_yes s1 s2 w H1.out.1 H2.out.1
  obtain ⟨m, v, ho, hz⟩ := okN_sg' true (V s1 * V s2)
  obtain ⟨G, S, hc⟩ := Z_code (sg true m)
  have hs := fun w => make_n true m w
  rw [hz, hc]
  rw [hc] at hs
  rw [ho] at hop
  have HO := Lib.hid hop
  have HS := Lib.hid hs
  clear hop hs hz ho hc
  go_enter Tryz.func152, Tryz.ntmps152
  go_wp2_with fail
  refine (rivalid_t false s1 _ H1.out).mono ?_; rintro e w1 ⟨rfl, b1⟩
  obtain ⟨T1, T2, T3, k1⟩ := after3 b1
  have q1 := T2.1
  have q2 := T2.2.1
  go_wp2_with fail
  refine (rivalid_t true s2 _ H2.out).mono ?_; rintro e w2 ⟨rfl, b2⟩
  have k2 := bnextW k1 b2 k1.size
  have T1 := T1.below b2 rfl
  have T2 := T2.below b2 rfl
  have T3 := T3.below b2 rfl
  clear q1 q2
  have q1 := T1.1
  have q2 := T1.2.1
  have q3 := T2.1
  have q4 := T2.2.1
  go_wp2_with fail
  refine (HO.out _).mono ?_; rintro e w3 ⟨rfl, b3⟩
  have k3 := bnextW k2 b3 k2.size
  have T1 := T1.below b3 rfl
  have T2 := T2.below b3 rfl
  have T3 := T3.below b3 rfl
  clear q1 q2 q3 q4
  have q1 := T1.1
  have q2 := T1.2.1
  have q3 := T2.1
  have q4 := T2.2.1
  go_wp2_with fail
  refine (HS.out _).mono ?_; rintro e w4 ⟨rfl, b4⟩
  have k4 := bnextW k3 b4 k3.size
  have T3 := T3.below b4 rfl
  clear q1 q2 q3 q4
  obtain ⟨q1, q2, q3, q4, q5⟩ := T3
  go_wp2
  refine bodyPost_ret (v := .tuple #[.agg #[.bool G, .string S], .int .i64 v]) (by simp [results, Tryz.results152, go_sem, q1, q2]) rfl ⟨rfl, ?_⟩
  exact bset k4 (by omega)

set_option maxHeartbeats 800000 in
theorem rimul_ff (g : Bool) (s1 s2 : ByteArray) (w : World) (h1 : IVal false s1) (h2 : IVal false s2) :
    Calls Tryz.prog 152 #[.agg #[.bool false, .string s1], .agg #[.bool false, .string s2]] w fun e w' => e = .returned (zokN (IZ false s1 * IZ false s2)) ∧ Below w.heap.size w w' := by
  have H1 := Lib.hid h1; clear h1
  have H2 := Lib.hid h2; clear h2
  have hz : IZ false s1 * IZ false s2 = sg false (V s1 * V s2) := by unfold IZ; exact sg_mul _ _ _ _
  rw [hz]; clear hz
  have hop := fun w => rmul_yes s1 s2 w H1.out.1 H2.out.1
  obtain ⟨m, v, ho, hz⟩ := okN_sg' false (V s1 * V s2)
  obtain ⟨G, S, hc⟩ := Z_code (sg false m)
  have hs := fun w => make_n false m w
  rw [hz, hc]
  rw [hc] at hs
  rw [ho] at hop
  have HO := Lib.hid hop
  have HS := Lib.hid hs
  clear hop hs hz ho hc
  go_enter Tryz.func152, Tryz.ntmps152
  go_wp2_with fail
  refine (rivalid_t false s1 _ H1.out).mono ?_; rintro e w1 ⟨rfl, b1⟩
  obtain ⟨T1, T2, T3, k1⟩ := after3 b1
  have q1 := T2.1
  have q2 := T2.2.1
  go_wp2_with fail
  refine (rivalid_t false s2 _ H2.out).mono ?_; rintro e w2 ⟨rfl, b2⟩
  have k2 := bnextW k1 b2 k1.size
  have T1 := T1.below b2 rfl
  have T2 := T2.below b2 rfl
  have T3 := T3.below b2 rfl
  clear q1 q2
  have q1 := T1.1
  have q2 := T1.2.1
  have q3 := T2.1
  have q4 := T2.2.1
  go_wp2_with fail
  refine (HO.out _).mono ?_; rintro e w3 ⟨rfl, b3⟩
  have k3 := bnextW k2 b3 k2.size
  have T1 := T1.below b3 rfl
  have T2 := T2.below b3 rfl
  have T3 := T3.below b3 rfl
  clear q1 q2 q3 q4
  have q1 := T1.1
  have q2 := T1.2.1
  have q3 := T2.1
  have q4 := T2.2.1
  go_wp2_with fail
  refine (HS.out _).mono ?_; rintro e w4 ⟨rfl, b4⟩
  have k4 := bnextW k3 b4 k3.size
  have T3 := T3.below b4 rfl
  clear q1 q2 q3 q4
  obtain ⟨q1, q2, q3, q4, q5⟩ := T3
  go_wp2
  refine bodyPost_ret (v := .tuple #[.agg #[.bool G, .string S], .int .i64 v]) (by simp [results, Tryz.results152, go_sem, q1, q2]) rfl ⟨rfl, ?_⟩
  exact bset k4 (by omega)

theorem rimul_yes (g1 g2 : Bool) (s1 s2 : ByteArray) (w : World) (h1 : IVal g1 s1) (h2 : IVal g2 s2) :
    Calls Tryz.prog 152 #[.agg #[.bool g1, .string s1], .agg #[.bool g2, .string s2]] w fun e w' => e = .returned (zokN (IZ g1 s1 * IZ g2 s2)) ∧ Below w.heap.size w w' := by
  cases g1 <;> cases g2
  · exact rimul_ff false s1 s2 w h1 h2
  · exact rimul_ft false s1 s2 w h1 h2
  · exact rimul_tf false s1 s2 w h1 h2
  · exact rimul_tt false s1 s2 w h1 h2

set_option maxHeartbeats 800000 in
theorem iadd_tge (s1 s2 : ByteArray) (w : World) (h1 : IVal true s1) (h2 : IVal false s2) (hle : V s2 ≤ V s1) :
    Calls Tryz.prog 32 #[.agg #[.bool true, .string s1], .agg #[.bool false, .string s2]] w fun e w' => e = .returned (zokN (IZ true s1 + IZ false s2)) ∧ Below w.heap.size w w' := by
  have H1 := Lib.hid h1
  have H2 := Lib.hid h2
  have hz : zokN (IZ true s1 + IZ false s2) = .tuple #[Z (sg true (V s1 - V s2)), .int .i64 0] := by
    have e : IZ true s1 + IZ false s2 = sg true (V s1 - V s2) := sg_sub true hle
    rw [e]
    exact zokN_yes (by rw [sg_natAbs]; have := V_lim h1.1; have := V_lim h2.1; omega)
  rw [hz]
  have hop := fun w => sub_yes s1 s2 w H1.out.1 H2.out.1
  rw [subN_yes (by omega)] at hop
  have hsg := sgn_nonneg hle
  have hs := fun w => signed_n true (V s1 - V s2) w
  obtain ⟨n, hn⟩ : ∃ n, n = V s1 - V s2 := ⟨_, rfl⟩
  rw [← hn] at hop hs ⊢; clear hn
  obtain ⟨G, S, hc⟩ := Z_code (sg true n)
  rw [hc] at hs ⊢
  have HO := Lib.hid hop
  have HS := Lib.hid hs
  clear hop hs hz hc h1 h2 hle
  go_enter Tryz.func32, Tryz.ntmps32
  go_wp2_with fail
  refine (ivalid_t true s1 _ H1.out).mono ?_; rintro e w1 ⟨rfl, b1⟩
  obtain ⟨T1, T2, T3, k1⟩ := after3 b1
  have q1 := T2.1
  have q2 := T2.2.1
  go_wp2_with fail
  refine (ivalid_t false s2 _ H2.out).mono ?_; rintro e w2 ⟨rfl, b2⟩
  have k2 := bnextW k1 b2 k1.size
  have T1 := T1.below b2 rfl
  have T2 := T2.below b2 rfl
  have T3 := T3.below b2 rfl
  clear q1 q2
  have q1 := T1.1
  have q2 := T1.2.1
  have q3 := T2.1
  have q4 := T2.2.1
  go_wp2_with fail
  refine (cmp_yes s1 s2 _ H1.out.1 H2.out.1).mono ?_; rintro e wx ⟨rfl, rfl⟩
  go_wp2_with fail
  refine (HO.out _).mono ?_; rintro e w3 ⟨rfl, b3⟩
  have k3 := bnextW k2 b3 k2.size
  have T1 := T1.below b3 rfl
  have T2 := T2.below b3 rfl
  have T3 := T3.below b3 rfl
  clear q1 q2 q3 q4
  have q1 := T1.1
  have q2 := T1.2.1
  have q3 := T2.1
  have q4 := T2.2.1
  go_wp2_with fail
  refine (HS.out _).mono ?_; rintro e w4 ⟨rfl, b4⟩
  have k4 := bnextW k3 b4 k3.size
  have T3 := T3.below b4 rfl
  clear q1 q2 q3 q4
  obtain ⟨q1, q2, q3, q4, q5⟩ := T3
  go_wp2
  refine bodyPost_ret (v := .tuple #[.agg #[.bool G, .string S], .int .i64 0]) (by simp [results, Tryz.results32, go_sem, q1, q2]) rfl ⟨rfl, ?_⟩
  exact bset k4 (by omega)

set_option maxHeartbeats 800000 in
theorem riadd_tge (s1 s2 : ByteArray) (w : World) (h1 : IVal true s1) (h2 : IVal false s2) (hle : V s2 ≤ V s1) :
    Calls Tryz.prog 153 #[.agg #[.bool true, .string s1], .agg #[.bool false, .string s2]] w fun e w' => e = .returned (zokN (IZ true s1 + IZ false s2)) ∧ Below w.heap.size w w' := by
  have H1 := Lib.hid h1
  have H2 := Lib.hid h2
  have hz : zokN (IZ true s1 + IZ false s2) = .tuple #[Z (sg true (V s1 - V s2)), .int .i64 0] := by
    have e : IZ true s1 + IZ false s2 = sg true (V s1 - V s2) := sg_sub true hle
    rw [e]
    exact zokN_yes (by rw [sg_natAbs]; have := V_lim h1.1; have := V_lim h2.1; omega)
  rw [hz]
  have hop := fun w => rsub_yes s1 s2 w H1.out.1 H2.out.1
  rw [subN_yes (by omega)] at hop
  have hsg : ¬ sgn (V s1) (V s2) < 0 := by have := sgn_nonneg hle; omega
  have hsg2 := sgn_nonneg hle
  have hs := fun w => make_n true (V s1 - V s2) w
  obtain ⟨n, hn⟩ : ∃ n, n = V s1 - V s2 := ⟨_, rfl⟩
  rw [← hn] at hop hs ⊢; clear hn
  obtain ⟨G, S, hc⟩ := Z_code (sg true n)
  rw [hc] at hs ⊢
  have HO := Lib.hid hop
  have HS := Lib.hid hs
  clear hop hs hz hc h1 h2 hle
  go_enter Tryz.func153, Tryz.ntmps153
  go_wp2_with fail
  refine (rivalid_t true s1 _ H1.out).mono ?_; rintro e w1 ⟨rfl, b1⟩
  obtain ⟨T1, T2, T3, k1⟩ := after3 b1
  have q1 := T2.1
  have q2 := T2.2.1
  go_wp2_with fail
  refine (rivalid_t false s2 _ H2.out).mono ?_; rintro e w2 ⟨rfl, b2⟩
  have k2 := bnextW k1 b2 k1.size
  have T1 := T1.below b2 rfl
  have T2 := T2.below b2 rfl
  have T3 := T3.below b2 rfl
  clear q1 q2
  have q1 := T1.1
  have q2 := T1.2.1
  have q3 := T2.1
  have q4 := T2.2.1
  go_wp2_with fail
  refine (rcmp_yes s1 s2 _ H1.out.1 H2.out.1).mono ?_; rintro e wx ⟨rfl, q, rfl⟩
  have T1 := T1.draw q
  have T2 := T2.draw q
  have T3 := T3.draw q
  have k2 := below_d k2 q
  clear q1 q2 q3 q4
  have q1 := T1.1
  have q2 := T1.2.1
  have q3 := T2.1
  have q4 := T2.2.1
  go_wp2_with fail
  refine (HO.out _).mono ?_; rintro e w3 ⟨rfl, b3⟩
  have k3 := bnextW k2 b3 k2.size
  have T1 := T1.below b3 rfl
  have T2 := T2.below b3 rfl
  have T3 := T3.below b3 rfl
  clear q1 q2 q3 q4
  have q1 := T1.1
  have q2 := T1.2.1
  have q3 := T2.1
  have q4 := T2.2.1
  go_wp2_with fail
  refine (HS.out _).mono ?_; rintro e w4 ⟨rfl, b4⟩
  have k4 := bnextW k3 b4 k3.size
  have T3 := T3.below b4 rfl
  clear q1 q2 q3 q4
  obtain ⟨q1, q2, q3, q4, q5⟩ := T3
  go_wp2
  refine bodyPost_ret (v := .tuple #[.agg #[.bool G, .string S], .int .i64 0]) (by simp [results, Tryz.results153, go_sem, q1, q2]) rfl ⟨rfl, ?_⟩
  exact bset k4 (by omega)

set_option maxHeartbeats 800000 in
theorem iadd_tlt (s1 s2 : ByteArray) (w : World) (h1 : IVal true s1) (h2 : IVal false s2) (hle : V s1 < V s2) :
    Calls Tryz.prog 32 #[.agg #[.bool true, .string s1], .agg #[.bool false, .string s2]] w fun e w' => e = .returned (zokN (IZ true s1 + IZ false s2)) ∧ Below w.heap.size w w' := by
  have H1 := Lib.hid h1
  have H2 := Lib.hid h2
  have hz : zokN (IZ true s1 + IZ false s2) = .tuple #[Z (sg false (V s2 - V s1)), .int .i64 0] := by
    have e : IZ true s1 + IZ false s2 = sg false (V s2 - V s1) := sg_sub' true (Nat.le_of_lt hle)
    rw [e]
    exact zokN_yes (by rw [sg_natAbs]; have := V_lim h1.1; have := V_lim h2.1; omega)
  rw [hz]
  have hop := fun w => sub_yes s2 s1 w H2.out.1 H1.out.1
  rw [subN_yes (by omega)] at hop
  have hsg : sgn (V s1) (V s2) < 0 := by have := sgn_neg (a := V s1) (b := V s2) (by omega); omega
  have hs := fun w => signed_n false (V s2 - V s1) w
  obtain ⟨n, hn⟩ : ∃ n, n = V s2 - V s1 := ⟨_, rfl⟩
  rw [← hn] at hop hs ⊢; clear hn
  obtain ⟨G, S, hc⟩ := Z_code (sg false n)
  rw [hc] at hs ⊢
  have HO := Lib.hid hop
  have HS := Lib.hid hs
  clear hop hs hz hc h1 h2 hle
  go_enter Tryz.func32, Tryz.ntmps32
  go_wp2_with fail
  refine (ivalid_t true s1 _ H1.out).mono ?_; rintro e w1 ⟨rfl, b1⟩
  obtain ⟨T1, T2, T3, k1⟩ := after3 b1
  have q1 := T2.1
  have q2 := T2.2.1
  go_wp2_with fail
  refine (ivalid_t false s2 _ H2.out).mono ?_; rintro e w2 ⟨rfl, b2⟩
  have k2 := bnextW k1 b2 k1.size
  have T1 := T1.below b2 rfl
  have T2 := T2.below b2 rfl
  have T3 := T3.below b2 rfl
  clear q1 q2
  have q1 := T1.1
  have q2 := T1.2.1
  have q3 := T2.1
  have q4 := T2.2.1
  go_wp2_with fail
  refine (cmp_yes s1 s2 _ H1.out.1 H2.out.1).mono ?_; rintro e wx ⟨rfl, rfl⟩
  have f1 := T1.2.2.1
  have f2 := T1.2.2.2.1
  have f3 := T2.2.2.1
  have f4 := T2.2.2.2.1
  go_wp2_with fail
  refine (HO.out _).mono ?_; rintro e w3 ⟨rfl, b3⟩
  have T1 := ((T1.set (.bool false) (.string s2)).set_ne (w.heap.size + 1) (.bool true) (.string s1) (by omega)).below b3 rfl
  have T3 := ((T3.set_ne w.heap.size (.bool false) (.string s2) (by omega)).set_ne (w.heap.size + 1) (.bool true) (.string s1) (by omega)).below b3 rfl
  have k3 := bnextW (bset (bset k2 (Nat.le_refl _)) (by omega)) b3 (by simp; exact k2.size)
  clear q1 q2 q3 q4 f1 f2 f3 f4
  have q1 := T1.1
  have q2 := T1.2.1
  go_wp2_with fail
  refine (HS.out _).mono ?_; rintro e w4 ⟨rfl, b4⟩
  have k4 := bnextW k3 b4 k3.size
  have T3 := T3.below b4 rfl
  clear q1 q2
  obtain ⟨q1, q2, q3, q4, q5⟩ := T3
  go_wp2
  refine bodyPost_ret (v := .tuple #[.agg #[.bool G, .string S], .int .i64 0]) (by simp [results, Tryz.results32, go_sem, q1, q2]) rfl ⟨rfl, ?_⟩
  exact bset k4 (by omega)

set_option maxHeartbeats 800000 in
theorem riadd_tlt (s1 s2 : ByteArray) (w : World) (h1 : IVal true s1) (h2 : IVal false s2) (hle : V s1 < V s2) :
    Calls Tryz.prog 153 #[.agg #[.bool true, .string s1], .agg #[.bool false, .string s2]] w fun e w' => e = .returned (zokN (IZ true s1 + IZ false s2)) ∧ Below w.heap.size w w' := by
  have H1 := Lib.hid h1
  have H2 := Lib.hid h2
  have hz : zokN (IZ true s1 + IZ false s2) = .tuple #[Z (sg false (V s2 - V s1)), .int .i64 0] := by
    have e : IZ true s1 + IZ false s2 = sg false (V s2 - V s1) := sg_sub' true (Nat.le_of_lt hle)
    rw [e]
    exact zokN_yes (by rw [sg_natAbs]; have := V_lim h1.1; have := V_lim h2.1; omega)
  rw [hz]
  have hop := fun w => rsub_yes s2 s1 w H2.out.1 H1.out.1
  rw [subN_yes (by omega)] at hop
  have hsg : sgn (V s1) (V s2) < 0 := by have := sgn_neg (a := V s1) (b := V s2) (by omega); omega
  have hsg2 : ¬ 0 ≤ sgn (V s1) (V s2) := by omega
  have hs := fun w => make_n false (V s2 - V s1) w
  obtain ⟨n, hn⟩ : ∃ n, n = V s2 - V s1 := ⟨_, rfl⟩
  rw [← hn] at hop hs ⊢; clear hn
  obtain ⟨G, S, hc⟩ := Z_code (sg false n)
  rw [hc] at hs ⊢
  have HO := Lib.hid hop
  have HS := Lib.hid hs
  clear hop hs hz hc h1 h2 hle
  go_enter Tryz.func153, Tryz.ntmps153
  go_wp2_with fail
  refine (rivalid_t true s1 _ H1.out).mono ?_; rintro e w1 ⟨rfl, b1⟩
  obtain ⟨T1, T2, T3, k1⟩ := after3 b1
  have q1 := T2.1
  have q2 := T2.2.1
  go_wp2_with fail
  refine (rivalid_t false s2 _ H2.out).mono ?_; rintro e w2 ⟨rfl, b2⟩
  have k2 := bnextW k1 b2 k1.size
  have T1 := T1.below b2 rfl
  have T2 := T2.below b2 rfl
  have T3 := T3.below b2 rfl
  clear q1 q2
  have q1 := T1.1
  have q2 := T1.2.1
  have q3 := T2.1
  have q4 := T2.2.1
  go_wp2_with fail
  refine (rcmp_yes s1 s2 _ H1.out.1 H2.out.1).mono ?_; rintro e wx ⟨rfl, q, rfl⟩
  have T1 := T1.draw q
  have T2 := T2.draw q
  have T3 := T3.draw q
  have k2 := below_d k2 q
  clear q1 q2 q3 q4
  have q1 := T1.1
  have q2 := T1.2.1
  have q3 := T2.1
  have q4 := T2.2.1
  go_wp2_with fail
  refine (HO.out _).mono ?_; rintro e w3 ⟨rfl, b3⟩
  have k3 := bnextW k2 b3 k2.size
  have T1 := T1.below b3 rfl
  have T2 := T2.below b3 rfl
  have T3 := T3.below b3 rfl
  clear q1 q2 q3 q4
  have q1 := T1.1
  have q2 := T1.2.1
  have q3 := T2.1
  have q4 := T2.2.1
  go_wp2_with fail
  refine (HS.out _).mono ?_; rintro e w4 ⟨rfl, b4⟩
  have k4 := bnextW k3 b4 k3.size
  have T3 := T3.below b4 rfl
  clear q1 q2 q3 q4
  obtain ⟨q1, q2, q3, q4, q5⟩ := T3
  go_wp2
  refine bodyPost_ret (v := .tuple #[.agg #[.bool G, .string S], .int .i64 0]) (by simp [results, Tryz.results153, go_sem, q1, q2]) rfl ⟨rfl, ?_⟩
  exact bset k4 (by omega)

set_option maxHeartbeats 800000 in
theorem iadd_fge (s1 s2 : ByteArray) (w : World) (h1 : IVal false s1) (h2 : IVal true s2) (hle : V s2 ≤ V s1) :
    Calls Tryz.prog 32 #[.agg #[.bool false, .string s1], .agg #[.bool true, .string s2]] w fun e w' => e = .returned (zokN (IZ false s1 + IZ true s2)) ∧ Below w.heap.size w w' := by
  have H1 := Lib.hid h1
  have H2 := Lib.hid h2
  have hz : zokN (IZ false s1 + IZ true s2) = .tuple #[Z (sg false (V s1 - V s2)), .int .i64 0] := by
    have e : IZ false s1 + IZ true s2 = sg false (V s1 - V s2) := sg_sub false hle
    rw [e]
    exact zokN_yes (by rw [sg_natAbs]; have := V_lim h1.1; have := V_lim h2.1; omega)
  rw [hz]
  have hop := fun w => sub_yes s1 s2 w H1.out.1 H2.out.1
  rw [subN_yes (by omega)] at hop
  have hsg := sgn_nonneg hle
  have hs := fun w => signed_n false (V s1 - V s2) w
  obtain ⟨n, hn⟩ : ∃ n, n = V s1 - V s2 := ⟨_, rfl⟩
  rw [← hn] at hop hs ⊢; clear hn
  obtain ⟨G, S, hc⟩ := Z_code (sg false n)
  rw [hc] at hs ⊢
  have HO := Lib.hid hop
  have HS := Lib.hid hs
  clear hop hs hz hc h1 h2 hle
  go_enter Tryz.func32, Tryz.ntmps32
  go_wp2_with fail
  refine (ivalid_t false s1 _ H1.out).mono ?_; rintro e w1 ⟨rfl, b1⟩
  obtain ⟨T1, T2, T3, k1⟩ := after3 b1
  have q1 := T2.1
  have q2 := T2.2.1
  go_wp2_with fail
  refine (ivalid_t true s2 _ H2.out).mono ?_; rintro e w2 ⟨rfl, b2⟩
  have k2 := bnextW k1 b2 k1.size
  have T1 := T1.below b2 rfl
  have T2 := T2.below b2 rfl
  have T3 := T3.below b2 rfl
  clear q1 q2
  have q1 := T1.1
  have q2 := T1.2.1
  have q3 := T2.1
  have q4 := T2.2.1
  go_wp2_with fail
  refine (cmp_yes s1 s2 _ H1.out.1 H2.out.1).mono ?_; rintro e wx ⟨rfl, rfl⟩
  go_wp2_with fail
  refine (HO.out _).mono ?_; rintro e w3 ⟨rfl, b3⟩
  have k3 := bnextW k2 b3 k2.size
  have T1 := T1.below b3 rfl
  have T2 := T2.below b3 rfl
  have T3 := T3.below b3 rfl
  clear q1 q2 q3 q4
  have q1 := T1.1
  have q2 := T1.2.1
  have q3 := T2.1
  have q4 := T2.2.1
  go_wp2_with fail
  refine (HS.out _).mono ?_; rintro e w4 ⟨rfl, b4⟩
  have k4 := bnextW k3 b4 k3.size
  have T3 := T3.below b4 rfl
  clear q1 q2 q3 q4
  obtain ⟨q1, q2, q3, q4, q5⟩ := T3
  go_wp2
  refine bodyPost_ret (v := .tuple #[.agg #[.bool G, .string S], .int .i64 0]) (by simp [results, Tryz.results32, go_sem, q1, q2]) rfl ⟨rfl, ?_⟩
  exact bset k4 (by omega)

set_option maxHeartbeats 800000 in
theorem riadd_fge (s1 s2 : ByteArray) (w : World) (h1 : IVal false s1) (h2 : IVal true s2) (hle : V s2 ≤ V s1) :
    Calls Tryz.prog 153 #[.agg #[.bool false, .string s1], .agg #[.bool true, .string s2]] w fun e w' => e = .returned (zokN (IZ false s1 + IZ true s2)) ∧ Below w.heap.size w w' := by
  have H1 := Lib.hid h1
  have H2 := Lib.hid h2
  have hz : zokN (IZ false s1 + IZ true s2) = .tuple #[Z (sg false (V s1 - V s2)), .int .i64 0] := by
    have e : IZ false s1 + IZ true s2 = sg false (V s1 - V s2) := sg_sub false hle
    rw [e]
    exact zokN_yes (by rw [sg_natAbs]; have := V_lim h1.1; have := V_lim h2.1; omega)
  rw [hz]
  have hop := fun w => rsub_yes s1 s2 w H1.out.1 H2.out.1
  rw [subN_yes (by omega)] at hop
  have hsg : ¬ sgn (V s1) (V s2) < 0 := by have := sgn_nonneg hle; omega
  have hsg2 := sgn_nonneg hle
  have hs := fun w => make_n false (V s1 - V s2) w
  obtain ⟨n, hn⟩ : ∃ n, n = V s1 - V s2 := ⟨_, rfl⟩
  rw [← hn] at hop hs ⊢; clear hn
  obtain ⟨G, S, hc⟩ := Z_code (sg false n)
  rw [hc] at hs ⊢
  have HO := Lib.hid hop
  have HS := Lib.hid hs
  clear hop hs hz hc h1 h2 hle
  go_enter Tryz.func153, Tryz.ntmps153
  go_wp2_with fail
  refine (rivalid_t false s1 _ H1.out).mono ?_; rintro e w1 ⟨rfl, b1⟩
  obtain ⟨T1, T2, T3, k1⟩ := after3 b1
  have q1 := T2.1
  have q2 := T2.2.1
  go_wp2_with fail
  refine (rivalid_t true s2 _ H2.out).mono ?_; rintro e w2 ⟨rfl, b2⟩
  have k2 := bnextW k1 b2 k1.size
  have T1 := T1.below b2 rfl
  have T2 := T2.below b2 rfl
  have T3 := T3.below b2 rfl
  clear q1 q2
  have q1 := T1.1
  have q2 := T1.2.1
  have q3 := T2.1
  have q4 := T2.2.1
  go_wp2_with fail
  refine (rcmp_yes s1 s2 _ H1.out.1 H2.out.1).mono ?_; rintro e wx ⟨rfl, q, rfl⟩
  have T1 := T1.draw q
  have T2 := T2.draw q
  have T3 := T3.draw q
  have k2 := below_d k2 q
  clear q1 q2 q3 q4
  have q1 := T1.1
  have q2 := T1.2.1
  have q3 := T2.1
  have q4 := T2.2.1
  go_wp2_with fail
  refine (HO.out _).mono ?_; rintro e w3 ⟨rfl, b3⟩
  have k3 := bnextW k2 b3 k2.size
  have T1 := T1.below b3 rfl
  have T2 := T2.below b3 rfl
  have T3 := T3.below b3 rfl
  clear q1 q2 q3 q4
  have q1 := T1.1
  have q2 := T1.2.1
  have q3 := T2.1
  have q4 := T2.2.1
  go_wp2_with fail
  refine (HS.out _).mono ?_; rintro e w4 ⟨rfl, b4⟩
  have k4 := bnextW k3 b4 k3.size
  have T3 := T3.below b4 rfl
  clear q1 q2 q3 q4
  obtain ⟨q1, q2, q3, q4, q5⟩ := T3
  go_wp2
  refine bodyPost_ret (v := .tuple #[.agg #[.bool G, .string S], .int .i64 0]) (by simp [results, Tryz.results153, go_sem, q1, q2]) rfl ⟨rfl, ?_⟩
  exact bset k4 (by omega)

set_option maxHeartbeats 800000 in
theorem iadd_flt (s1 s2 : ByteArray) (w : World) (h1 : IVal false s1) (h2 : IVal true s2) (hle : V s1 < V s2) :
    Calls Tryz.prog 32 #[.agg #[.bool false, .string s1], .agg #[.bool true, .string s2]] w fun e w' => e = .returned (zokN (IZ false s1 + IZ true s2)) ∧ Below w.heap.size w w' := by
  have H1 := Lib.hid h1
  have H2 := Lib.hid h2
  have hz : zokN (IZ false s1 + IZ true s2) = .tuple #[Z (sg true (V s2 - V s1)), .int .i64 0] := by
    have e : IZ false s1 + IZ true s2 = sg true (V s2 - V s1) := sg_sub' false (Nat.le_of_lt hle)
    rw [e]
    exact zokN_yes (by rw [sg_natAbs]; have := V_lim h1.1; have := V_lim h2.1; omega)
  rw [hz]
  have hop := fun w => sub_yes s2 s1 w H2.out.1 H1.out.1
  rw [subN_yes (by omega)] at hop
  have hsg : sgn (V s1) (V s2) < 0 := by have := sgn_neg (a := V s1) (b := V s2) (by omega); omega
  have hs := fun w => signed_n true (V s2 - V s1) w
  obtain ⟨n, hn⟩ : ∃ n, n = V s2 - V s1 := ⟨_, rfl⟩
  rw [← hn] at hop hs ⊢; clear hn
  obtain ⟨G, S, hc⟩ := Z_code (sg true n)
  rw [hc] at hs ⊢
  have HO := Lib.hid hop
  have HS := Lib.hid hs
  clear hop hs hz hc h1 h2 hle
  go_enter Tryz.func32, Tryz.ntmps32
  go_wp2_with fail
  refine (ivalid_t false s1 _ H1.out).mono ?_; rintro e w1 ⟨rfl, b1⟩
  obtain ⟨T1, T2, T3, k1⟩ := after3 b1
  have q1 := T2.1
  have q2 := T2.2.1
  go_wp2_with fail
  refine (ivalid_t true s2 _ H2.out).mono ?_; rintro e w2 ⟨rfl, b2⟩
  have k2 := bnextW k1 b2 k1.size
  have T1 := T1.below b2 rfl
  have T2 := T2.below b2 rfl
  have T3 := T3.below b2 rfl
  clear q1 q2
  have q1 := T1.1
  have q2 := T1.2.1
  have q3 := T2.1
  have q4 := T2.2.1
  go_wp2_with fail
  refine (cmp_yes s1 s2 _ H1.out.1 H2.out.1).mono ?_; rintro e wx ⟨rfl, rfl⟩
  have f1 := T1.2.2.1
  have f2 := T1.2.2.2.1
  have f3 := T2.2.2.1
  have f4 := T2.2.2.2.1
  go_wp2_with fail
  refine (HO.out _).mono ?_; rintro e w3 ⟨rfl, b3⟩
  have T1 := ((T1.set (.bool true) (.string s2)).set_ne (w.heap.size + 1) (.bool false) (.string s1) (by omega)).below b3 rfl
  have T3 := ((T3.set_ne w.heap.size (.bool true) (.string s2) (by omega)).set_ne (w.heap.size + 1) (.bool false) (.string s1) (by omega)).below b3 rfl
  have k3 := bnextW (bset (bset k2 (Nat.le_refl _)) (by omega)) b3 (by simp; exact k2.size)
  clear q1 q2 q3 q4 f1 f2 f3 f4
  have q1 := T1.1
  have q2 := T1.2.1
  go_wp2_with fail
  refine (HS.out _).mono ?_; rintro e w4 ⟨rfl, b4⟩
  have k4 := bnextW k3 b4 k3.size
  have T3 := T3.below b4 rfl
  clear q1 q2
  obtain ⟨q1, q2, q3, q4, q5⟩ := T3
  go_wp2
  refine bodyPost_ret (v := .tuple #[.agg #[.bool G, .string S], .int .i64 0]) (by simp [results, Tryz.results32, go_sem, q1, q2]) rfl ⟨rfl, ?_⟩
  exact bset k4 (by omega)

set_option maxHeartbeats 800000 in
theorem riadd_flt (s1 s2 : ByteArray) (w : World) (h1 : IVal false s1) (h2 : IVal true s2) (hle : V s1 < V s2) :
    Calls Tryz.prog 153 #[.agg #[.bool false, .string s1], .agg #[.bool true, .string s2]] w fun e w' => e = .returned (zokN (IZ false s1 + IZ true s2)) ∧ Below w.heap.size w w' := by
  have H1 := Lib.hid h1
  have H2 := Lib.hid h2
  have hz : zokN (IZ false s1 + IZ true s2) = .tuple #[Z (sg true (V s2 - V s1)), .int .i64 0] := by
    have e : IZ false s1 + IZ true s2 = sg true (V s2 - V s1) := sg_sub' false (Nat.le_of_lt hle)
    rw [e]
    exact zokN_yes (by rw [sg_natAbs]; have := V_lim h1.1; have := V_lim h2.1; omega)
  rw [hz]
  have hop := fun w => rsub_yes s2 s1 w H2.out.1 H1.out.1
  rw [subN_yes (by omega)] at hop
  have hsg : sgn (V s1) (V s2) < 0 := by have := sgn_neg (a := V s1) (b := V s2) (by omega); omega
  have hsg2 : ¬ 0 ≤ sgn (V s1) (V s2) := by omega
  have hs := fun w => make_n true (V s2 - V s1) w
  obtain ⟨n, hn⟩ : ∃ n, n = V s2 - V s1 := ⟨_, rfl⟩
  rw [← hn] at hop hs ⊢; clear hn
  obtain ⟨G, S, hc⟩ := Z_code (sg true n)
  rw [hc] at hs ⊢
  have HO := Lib.hid hop
  have HS := Lib.hid hs
  clear hop hs hz hc h1 h2 hle
  go_enter Tryz.func153, Tryz.ntmps153
  go_wp2_with fail
  refine (rivalid_t false s1 _ H1.out).mono ?_; rintro e w1 ⟨rfl, b1⟩
  obtain ⟨T1, T2, T3, k1⟩ := after3 b1
  have q1 := T2.1
  have q2 := T2.2.1
  go_wp2_with fail
  refine (rivalid_t true s2 _ H2.out).mono ?_; rintro e w2 ⟨rfl, b2⟩
  have k2 := bnextW k1 b2 k1.size
  have T1 := T1.below b2 rfl
  have T2 := T2.below b2 rfl
  have T3 := T3.below b2 rfl
  clear q1 q2
  have q1 := T1.1
  have q2 := T1.2.1
  have q3 := T2.1
  have q4 := T2.2.1
  go_wp2_with fail
  refine (rcmp_yes s1 s2 _ H1.out.1 H2.out.1).mono ?_; rintro e wx ⟨rfl, q, rfl⟩
  have T1 := T1.draw q
  have T2 := T2.draw q
  have T3 := T3.draw q
  have k2 := below_d k2 q
  clear q1 q2 q3 q4
  have q1 := T1.1
  have q2 := T1.2.1
  have q3 := T2.1
  have q4 := T2.2.1
  go_wp2_with fail
  refine (HO.out _).mono ?_; rintro e w3 ⟨rfl, b3⟩
  have k3 := bnextW k2 b3 k2.size
  have T1 := T1.below b3 rfl
  have T2 := T2.below b3 rfl
  have T3 := T3.below b3 rfl
  clear q1 q2 q3 q4
  have q1 := T1.1
  have q2 := T1.2.1
  have q3 := T2.1
  have q4 := T2.2.1
  go_wp2_with fail
  refine (HS.out _).mono ?_; rintro e w4 ⟨rfl, b4⟩
  have k4 := bnextW k3 b4 k3.size
  have T3 := T3.below b4 rfl
  clear q1 q2 q3 q4
  obtain ⟨q1, q2, q3, q4, q5⟩ := T3
  go_wp2
  refine bodyPost_ret (v := .tuple #[.agg #[.bool G, .string S], .int .i64 0]) (by simp [results, Tryz.results153, go_sem, q1, q2]) rfl ⟨rfl, ?_⟩
  exact bset k4 (by omega)

theorem iadd_yes (g1 g2 : Bool) (s1 s2 : ByteArray) (w : World) (h1 : IVal g1 s1) (h2 : IVal g2 s2) :
    Calls Tryz.prog 32 #[.agg #[.bool g1, .string s1], .agg #[.bool g2, .string s2]] w fun e w' => e = .returned (zokN (IZ g1 s1 + IZ g2 s2)) ∧ Below w.heap.size w w' := by
  cases g1 <;> cases g2
  · exact iadd_same false s1 s2 w h1 h2
  · by_cases h : V s2 ≤ V s1
    · exact iadd_fge s1 s2 w h1 h2 h
    · exact iadd_flt s1 s2 w h1 h2 (by omega)
  · by_cases h : V s2 ≤ V s1
    · exact iadd_tge s1 s2 w h1 h2 h
    · exact iadd_tlt s1 s2 w h1 h2 (by omega)
  · exact iadd_same true s1 s2 w h1 h2

theorem riadd_yes (g1 g2 : Bool) (s1 s2 : ByteArray) (w : World) (h1 : IVal g1 s1) (h2 : IVal g2 s2) :
    Calls Tryz.prog 153 #[.agg #[.bool g1, .string s1], .agg #[.bool g2, .string s2]] w fun e w' => e = .returned (zokN (IZ g1 s1 + IZ g2 s2)) ∧ Below w.heap.size w w' := by
  cases g1 <;> cases g2
  · exact riadd_same false s1 s2 w h1 h2
  · by_cases h : V s2 ≤ V s1
    · exact riadd_fge s1 s2 w h1 h2 h
    · exact riadd_flt s1 s2 w h1 h2 (by omega)
  · by_cases h : V s2 ≤ V s1
    · exact riadd_tge s1 s2 w h1 h2 h
    · exact riadd_tlt s1 s2 w h1 h2 (by omega)
  · exact riadd_same true s1 s2 w h1 h2
end Go.Proofs.YtogmgfdihmacpaaGreatDoor
