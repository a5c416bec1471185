/-
  Package power: NewTable.
-/
import Derived.Test.YtogmgfdihmacpaaGreatDoorPW7
namespace Go.Proofs.YtogmgfdihmacpaaGreatDoor
open Go.RowKit Go.Deep
set_option linter.unusedVariables false

theorem T3set {w : World} {b : Nat} {c0 c1 c2 : Value} (h : Three w b c0 c1 c2) (x y z : Value) : Three (((w.setCell ⟨b, 0, none⟩ x).setCell ⟨b, 1, none⟩ y).setCell ⟨b, 2, none⟩ z) b x y z := by
  obtain ⟨q0, q1, q2, q3, q4, q5, q6⟩ := h
  refine ⟨?_, ?_, ?_, ?_, ?_, ?_, ?_⟩ <;> simp [go_sem, q0, q1, q2, q3, q4, q5, q6]
theorem bel3set {B b : Nat} {w w' : World} (h : Below B w w') (hb : B ≤ b) (x y z : Value) : Below B w (((w'.setCell ⟨b, 0, none⟩ x).setCell ⟨b, 1, none⟩ y).setCell ⟨b, 2, none⟩ z) :=
  ((h.setCell (p := ⟨b, 0, none⟩) hb x).setCell (p := ⟨b, 1, none⟩) hb y).setCell (p := ⟨b, 2, none⟩) hb z
theorem T3put2 {w : World} {b : Nat} {c0 c1 c2 : Value} (h : Three w b c0 c1 c2) (z : Value) : Three (w.setCell ⟨b, 2, none⟩ z) b c0 c1 z := by
  obtain ⟨q0, q1, q2, q3, q4, q5, q6⟩ := h
  refine ⟨?_, ?_, ?_, ?_, ?_, ?_, ?_⟩ <;> simp [go_sem, q0, q1, q2, q3, q4, q5, q6]
theorem T3far {w : World} {g : Nat} {c0 c1 c2 : Value} (h : Three w g c0 c1 c2) {p : Addr} (hne : g ≠ p.block) (z : Value) : Three (w.setCell p z) g c0 c1 c2 := by
  have hb : (w.setCell p z).heap[g]? = w.heap[g]? := Below.heap_setCell w p z g hne
  obtain ⟨q0, q1, q2, q3, q4, q5, q6⟩ := h
  refine ⟨?_, ?_, ?_, ?_, ?_, ?_, by rw [World.size_setCell]; exact q6⟩
  · rw [World.cell?_of_block (a := ⟨g, 0, none⟩) hb]; exact q0
  · rw [World.cell?_of_block (a := ⟨g, 1, none⟩) hb]; exact q1
  · rw [World.cell?_of_block (a := ⟨g, 2, none⟩) hb]; exact q2
  · rw [World.frozen?_of_block (a := ⟨g, 0, none⟩) hb]; exact q3
  · rw [World.frozen?_of_block (a := ⟨g, 1, none⟩) hb]; exact q4
  · rw [World.frozen?_of_block (a := ⟨g, 2, none⟩) hb]; exact q5
theorem Two.farP {w : World} {g : Nat} {c0 c1 : Value} (h : Two w g c0 c1) {p : Addr} (hne : g ≠ p.block) (z : Value) : Two (w.setCell p z) g c0 c1 := by
  have hb : (w.setCell p z).heap[g]? = w.heap[g]? := Below.heap_setCell w p z g hne
  obtain ⟨q0, q1, q2, q3, q4⟩ := h
  refine ⟨?_, ?_, ?_, ?_, by rw [World.size_setCell]; exact q4⟩
  · rw [World.cell?_of_block (a := ⟨g, 0, none⟩) hb]; exact q0
  · rw [World.cell?_of_block (a := ⟨g, 1, none⟩) hb]; exact q1
  · rw [World.frozen?_of_block (a := ⟨g, 0, none⟩) hb]; exact q2
  · rw [World.frozen?_of_block (a := ⟨g, 1, none⟩) hb]; exact q3
/-- The zero Table with an error. -/
def NoTb (c : Int) (w : World) (e : Ending) (w' : World) : Prop := e = .returned (.tuple #[.agg #[.string ⟨#[]⟩, .int .i64 0, .slice none 0 0], .int .i64 c]) ∧ Below w.heap.size w w'
set_option maxHeartbeats 1000000 in
set_option maxRecDepth 20000 in
theorem pnewt_err (M Q x : ByteArray) (bits c : Int) (w : World) (hc : chkNs M Q 1 (fun _ => x) = c) (h0 : (c != 0) = true) :
    Calls Tryz.prog 24 #[.agg #[.string M, .string Q], .string x, .int .i64 bits] w fun e w' => NoTb c w e w' := by
  have CC := Lib.hid (fun W T g hgg => pchk1 M Q x W T g hgg c hc)
  have K := Lib.hid (belP (belA w (.cells #[.string M, .string Q] 24)) (belA _ (.cells #[.string ⟨#[]⟩, .int .i64 0, .slice none 0 0] 49)))
  have G := Lib.hid ((Two.new w (.string M) (.string Q) 24 _ rfl).alloc (.cells #[.string ⟨#[]⟩, .int .i64 0, .slice none 0 0] 49))
  have T := Lib.hid (Three.new (w.alloc (.cells #[.string M, .string Q] 24)) (.string ⟨#[]⟩) (.int .i64 0) (.slice none 0 0) 49 (w.heap.size + 1) (by simp))
  obtain ⟨G1, G2, G3, G4, G5⟩ := G.out
  obtain ⟨T1, T2, T3, T4, T5, T6, T7⟩ := T.out
  clear hc
  go_enter Tryz.func24, Tryz.ntmps24
  go_wp2_with fail
  refine (CC.out _ _ _ (by simp)).mono ?_; rintro e w1 ⟨rfl, b1⟩
  have K := Lib.hid (belP (belP K.out (belA _ _)) b1)
  have G := Lib.hid ((G.out.alloc _).below b1 rfl)
  have T := Lib.hid ((T.out.alloc _).below b1 rfl)
  clear b1 G1 G2 G3 G4 G5 T1 T2 T3 T4 T5 T6 T7
  obtain ⟨G1, G2, G3, G4, G5⟩ := G.out
  obtain ⟨T1, T2, T3, T4, T5, T6, T7⟩ := T.out
  have HT := Lib.hid (T3set T.out (.string ⟨#[]⟩) (.int .i64 0) (.slice none 0 0))
  have HB := Lib.hid (bel3set (b := w.heap.size + 1) K.out (by omega) (.string ⟨#[]⟩) (.int .i64 0) (.slice none 0 0))
  go_wp2
  have ht := HT.out
  generalize World.setCell _ _ _ = W3 at *
  obtain ⟨r0, r1, r2, r3, r4, r5, r6⟩ := ht
  refine bodyPost_ret (v := .tuple #[.agg #[.string ⟨#[]⟩, .int .i64 0, .slice none 0 0], .int .i64 c]) (by simp [results, Tryz.results24, go_sem, r0, r1, r2]) rfl ⟨rfl, HB.out⟩
set_option maxHeartbeats 1000000 in
set_option maxRecDepth 20000 in
theorem pnewt_range (M Q x : ByteArray) (bits : Int) (w : World) (hc : chkNs M Q 1 (fun _ => x) = 0) (hb : bits < 0 ∨ 1024 < bits) :
    Calls Tryz.prog 24 #[.agg #[.string M, .string Q], .string x, .int .i64 bits] w fun e w' => NoTb 2 w e w' := by
  have CC := Lib.hid (fun W T g hgg => pchk1 M Q x W T g hgg 0 hc)
  have K := Lib.hid (belP (belA w (.cells #[.string M, .string Q] 24)) (belA _ (.cells #[.string ⟨#[]⟩, .int .i64 0, .slice none 0 0] 49)))
  have G := Lib.hid ((Two.new w (.string M) (.string Q) 24 _ rfl).alloc (.cells #[.string ⟨#[]⟩, .int .i64 0, .slice none 0 0] 49))
  have T := Lib.hid (Three.new (w.alloc (.cells #[.string M, .string Q] 24)) (.string ⟨#[]⟩) (.int .i64 0) (.slice none 0 0) 49 (w.heap.size + 1) (by simp))
  obtain ⟨G1, G2, G3, G4, G5⟩ := G.out
  obtain ⟨T1, T2, T3, T4, T5, T6, T7⟩ := T.out
  clear hc
  by_cases hb1 : bits < 0
  · have hd := decide_eq_true hb1
    clear hb
    go_enter Tryz.func24, Tryz.ntmps24
    go_wp2_with fail
    refine (CC.out _ _ _ (by simp)).mono ?_; rintro e w1 ⟨rfl, b1⟩
    have K := Lib.hid (belP (belP K.out (belA _ _)) b1)
    have G := Lib.hid ((G.out.alloc _).below b1 rfl)
    have T := Lib.hid ((T.out.alloc _).below b1 rfl)
    clear b1 G1 G2 G3 G4 G5 T1 T2 T3 T4 T5 T6 T7
    obtain ⟨G1, G2, G3, G4, G5⟩ := G.out
    obtain ⟨T1, T2, T3, T4, T5, T6, T7⟩ := T.out
    have HT := Lib.hid (T3set T.out (.string ⟨#[]⟩) (.int .i64 0) (.slice none 0 0))
    have HB := Lib.hid (bel3set (b := w.heap.size + 1) K.out (by omega) (.string ⟨#[]⟩) (.int .i64 0) (.slice none 0 0))
    go_wp2
    have ht := HT.out
    generalize World.setCell _ _ _ = W3 at *
    obtain ⟨r0, r1, r2, r3, r4, r5, r6⟩ := ht
    refine bodyPost_ret (v := .tuple #[.agg #[.string ⟨#[]⟩, .int .i64 0, .slice none 0 0], .int .i64 2]) (by simp [results, Tryz.results24, go_sem, r0, r1, r2]) rfl ⟨rfl, HB.out⟩
  · have hd : decide (bits < 0) = false := decide_eq_false hb1
    have hb2 : 1024 < bits := by omega
    have hd2 : decide (1024 < bits) = true := decide_eq_true hb2
    clear hb
    go_enter Tryz.func24, Tryz.ntmps24
    go_wp2_with fail
    refine (CC.out _ _ _ (by simp)).mono ?_; rintro e w1 ⟨rfl, b1⟩
    have K := Lib.hid (belP (belP K.out (belA _ _)) b1)
    have G := Lib.hid ((G.out.alloc _).below b1 rfl)
    have T := Lib.hid ((T.out.alloc _).below b1 rfl)
    clear b1 G1 G2 G3 G4 G5 T1 T2 T3 T4 T5 T6 T7
    obtain ⟨G1, G2, G3, G4, G5⟩ := G.out
    obtain ⟨T1, T2, T3, T4, T5, T6, T7⟩ := T.out
    have HT := Lib.hid (T3set T.out (.string ⟨#[]⟩) (.int .i64 0) (.slice none 0 0))
    have HB := Lib.hid (bel3set (b := w.heap.size + 1) K.out (by omega) (.string ⟨#[]⟩) (.int .i64 0) (.slice none 0 0))
    go_wp2
    have ht := HT.out
    generalize World.setCell _ _ _ = W3 at *
    obtain ⟨r0, r1, r2, r3, r4, r5, r6⟩ := ht
    refine bodyPost_ret (v := .tuple #[.agg #[.string ⟨#[]⟩, .int .i64 0, .slice none 0 0], .int .i64 2]) (by simp [results, Tryz.results24, go_sem, r0, r1, r2]) rfl ⟨rfl, HB.out⟩
set_option maxHeartbeats 1000000 in
set_option maxRecDepth 20000 in
theorem pnewt_no (M Q x : ByteArray) (bits : Int) (w : World) (hc : chkNs M Q 1 (fun _ => x) = 0) (hb1 : 0 ≤ bits) (hb2 : bits ≤ 1024) (he : ¬ EltG M Q x) :
    Calls Tryz.prog 24 #[.agg #[.string M, .string Q], .string x, .int .i64 bits] w fun e w' => NoTb 13 w e w' := by
  have CC := Lib.hid (fun W T g hgg => pchk1 M Q x W T g hgg 0 hc)
  have CE := Lib.hid (fun W => iselt_f M Q x W he)
  have K := Lib.hid (belP (belA w (.cells #[.string M, .string Q] 24)) (belA _ (.cells #[.string ⟨#[]⟩, .int .i64 0, .slice none 0 0] 49)))
  have G := Lib.hid ((Two.new w (.string M) (.string Q) 24 _ rfl).alloc (.cells #[.string ⟨#[]⟩, .int .i64 0, .slice none 0 0] 49))
  have T := Lib.hid (Three.new (w.alloc (.cells #[.string M, .string Q] 24)) (.string ⟨#[]⟩) (.int .i64 0) (.slice none 0 0) 49 (w.heap.size + 1) (by simp))
  obtain ⟨G1, G2, G3, G4, G5⟩ := G.out
  obtain ⟨T1, T2, T3, T4, T5, T6, T7⟩ := T.out
  have hd : decide (bits < 0) = false := decide_eq_false (by omega)
  have hd2 : decide (1024 < bits) = false := decide_eq_false (by omega)
  clear hc he
  go_enter Tryz.func24, Tryz.ntmps24
  go_wp2_with fail
  refine (CC.out _ _ _ (by simp)).mono ?_; rintro e w1 ⟨rfl, b1⟩
  have K := Lib.hid (belP (belP K.out (belA _ _)) b1)
  have G := Lib.hid ((G.out.alloc _).below b1 rfl)
  have T := Lib.hid ((T.out.alloc _).below b1 rfl)
  clear b1 G1 G2 G3 G4 G5 T1 T2 T3 T4 T5 T6 T7
  obtain ⟨G1, G2, G3, G4, G5⟩ := G.out
  obtain ⟨T1, T2, T3, T4, T5, T6, T7⟩ := T.out
  go_wp2_with fail
  refine (CE.out _).mono ?_; rintro e w2 ⟨rfl, b2⟩
  have K := Lib.hid (belP K.out b2)
  have G := Lib.hid (G.out.below b2 rfl)
  have T := Lib.hid (T.out.below b2 rfl)
  clear b2 G1 G2 G3 G4 G5 T1 T2 T3 T4 T5 T6 T7
  obtain ⟨G1, G2, G3, G4, G5⟩ := G.out
  obtain ⟨T1, T2, T3, T4, T5, T6, T7⟩ := T.out
  have HT := Lib.hid (T3set T.out (.string ⟨#[]⟩) (.int .i64 0) (.slice none 0 0))
  have HB := Lib.hid (bel3set (b := w.heap.size + 1) K.out (by omega) (.string ⟨#[]⟩) (.int .i64 0) (.slice none 0 0))
  go_wp2
  have ht := HT.out
  generalize World.setCell _ _ _ = W3 at *
  obtain ⟨r0, r1, r2, r3, r4, r5, r6⟩ := ht
  refine bodyPost_ret (v := .tuple #[.agg #[.string ⟨#[]⟩, .int .i64 0, .slice none 0 0], .int .i64 13]) (by simp [results, Tryz.results24, go_sem, r0, r1, r2]) rfl ⟨rfl, HB.out⟩

/-! ### a table is made -/
/-- A block of 16 strings of the call's own. -/
def Row16 (W : World) (L : Nat) (h : Nat → ByteArray) : Prop := L < W.heap.size ∧ ∀ j, j < 16 → W.cell? ⟨L, j, none⟩ = some (.string (h j)) ∧ W.frozen? ⟨L, j, none⟩ = false
theorem Row16.below {W W' : World} {L : Nat} {h : Nat → ByteArray} (r : Row16 W L h) (b : Below W.heap.size W W') : Row16 W' L h :=
  ⟨Nat.lt_of_lt_of_le r.1 b.size, fun j hj => ⟨(b.cell (p := ⟨L, j, none⟩) r.1).trans (r.2 j hj).1, (b.frozen (p := ⟨L, j, none⟩) r.1).trans (r.2 j hj).2⟩⟩
theorem Row16.set_ {W : World} {L : Nat} {h : Nat → ByteArray} (r : Row16 W L h) {v : Nat} (hv : v < 16) (y : ByteArray) : Row16 (W.setCell ⟨L, v, none⟩ (.string y)) L (fun j => if j = v then y else h j) := by
  refine ⟨by rw [World.size_setCell]; exact r.1, fun j hj => ⟨?_, ?_⟩⟩
  · show _ = some (Value.string (if j = v then y else h j))
    by_cases e : j = v
    · subst e
      rw [if_pos rfl]
      have := (r.2 j hj).1
      simp [go_sem, this]
    · rw [if_neg e, World.cell?_setCell_other _ _ _ _ (fun q => e (congrArg Addr.off q).symm)]
      exact (r.2 j hj).1
  · simp [go_sem, (r.2 j hj).2]
theorem Row16.congr {W : World} {L : Nat} {h h' : Nat → ByteArray} (r : Row16 W L h) (e : ∀ j, j < 16 → h j = h' j) : Row16 W L h' := ⟨r.1, fun j hj => ⟨by rw [← e j hj]; exact (r.2 j hj).1, (r.2 j hj).2⟩⟩
theorem Row16.sv {W : World} {L c : Nat} {h : Nat → ByteArray} (r : Row16 W L h) : SV W (.slice (some ⟨L, 0, none⟩) 16 c) 16 h :=
  ⟨_, _, rfl, fun j hj => ⟨_, rfl, r.1, by
    rw [show (⟨L, 0, none⟩ : Addr).add j = ⟨L, j, none⟩ by unfold Addr.add; split <;> simp_all]
    exact (r.2 j hj).1⟩⟩
theorem Row16.new (W : World) (T : TypeId) (L : Nat) (hL : L = W.heap.size) : Row16 (W.alloc (.cells (madeCells #[.string ⟨#[]⟩] 16) T)) L (fun _ => ⟨#[]⟩) := by
  subst hL
  refine ⟨by simp, fun j hj => ⟨?_, by simp⟩⟩
  rw [World.cell?_alloc_new]
  rcases (show j = 0 ∨ j = 1 ∨ j = 2 ∨ j = 3 ∨ j = 4 ∨ j = 5 ∨ j = 6 ∨ j = 7 ∨ j = 8 ∨ j = 9 ∨ j = 10 ∨ j = 11 ∨ j = 12 ∨ j = 13 ∨ j = 14 ∨ j = 15 by omega) with rfl | rfl | rfl | rfl | rfl | rfl | rfl | rfl | rfl | rfl | rfl | rfl | rfl | rfl | rfl | rfl <;> kernel_rfl
theorem hmake16 (w : World) : (Instr.makeSlice 41 (.int .i64 16) (.int .i64 16)).run Tryz.prog w = .ok (.slice (some ⟨w.heap.size, 0, none⟩) 16 16) (w.alloc (.cells (madeCells #[.string ⟨#[]⟩] 16) 22)) :=
  run_make_row' 41 22 _ 16 Tryz.undN Tryz.infoN rfl .i64 .i64 16 (by omega) (by omega) w
theorem Tryz.infoL : (Tryz.prog.info? 41).map (fun i => (i.zero, i.size, i.bytes)) = some (some (.slice none 0 0), 1, 24) := by kernel_rfl
theorem Tryz.undL : Tryz.prog.underlying 47 = some (.slice 41) := by kernel_rfl
/-- The lists that lie in a table of the call's own: i of them, from block B on. -/
def OwnL (W : World) (B : Nat) (v : Value) (i : Nat) (L : Nat → Nat → ByteArray) : Prop :=
  ∃ xs : List Value, W.ownsRow B 41 1 v i xs ∧ ∀ j, j < i → ∃ g, xs[j]? = some (.slice (some ⟨g, 0, none⟩) 16 16) ∧ v.ownBlock ≠ some g ∧ B ≤ g ∧ Row16 W g (L j)
theorem OwnL.below {W W' : World} {B i : Nat} {v : Value} {L : Nat → Nat → ByteArray} (h : OwnL W B v i L) (b : Below W.heap.size W W') : OwnL W' B v i L := by
  obtain ⟨xs, h1, h2⟩ := h
  refine ⟨xs, h1.kept (grown_bel b) (by cases v.ownBlock <;> simp), fun j hj => ?_⟩
  obtain ⟨g, e1, e2, e3, e4⟩ := h2 j hj
  exact ⟨g, e1, e2, e3, e4.below b⟩
theorem OwnL.nil (W : World) (B : Nat) (L : Nat → Nat → ByteArray) : OwnL W B (.slice none 0 0) 0 L := ⟨[], World.ownsRow_nil _ _ _ _, fun j hj => absurd hj (by omega)⟩
theorem OwnL.lt {W : World} {B i : Nat} {v : Value} {L : Nat → Nat → ByteArray} (h : OwnL W B v i L) : ∀ k, v.ownBlock = some k → B ≤ k ∧ k < W.heap.size := by
  obtain ⟨xs, h1, -⟩ := h
  exact h1.lt
theorem Row16.farP {W : World} {L : Nat} {h : Nat → ByteArray} (r : Row16 W L h) {p : Addr} (hne : L ≠ p.block) (x : Value) : Row16 (W.setCell p x) L h := by
  have hb : (W.setCell p x).heap[L]? = W.heap[L]? := Below.heap_setCell W p x L hne
  exact ⟨by rw [World.size_setCell]; exact r.1, fun j hj => ⟨(World.cell?_of_block (a := ⟨L, j, none⟩) hb).trans (r.2 j hj).1, (World.frozen?_of_block (a := ⟨L, j, none⟩) hb).trans (r.2 j hj).2⟩⟩
theorem Row16.grownP {W W' : World} {L : Nat} {h : Nat → ByteArray} {row : Option Nat} (r : Row16 W L h) (hg : W.grownBy W' row) (hne : row ≠ some L) : Row16 W' L h := by
  have hb := hg.block L r.1 (fun e => hne e.symm)
  exact ⟨Nat.lt_of_lt_of_le r.1 hg.size, fun j hj => ⟨(World.cell?_of_block (a := ⟨L, j, none⟩) hb).trans (r.2 j hj).1, (World.frozen?_of_block (a := ⟨L, j, none⟩) hb).trans (r.2 j hj).2⟩⟩
theorem own_setP {W : World} {base e size n : Nat} {v : Value} {xs : List Value} (h : W.ownsRow base e size v n xs) {p : Addr} (hp : p.block < base) (x : Value) : (W.setCell p x).ownsRow base e size v n xs := by
  refine h.kept (w' := W.setCell p x) (row := some p.block) ?_ ?_
  · have b : Below p.block W (W.setCell p x) := (Below.refl _ _).setCell (Nat.le_refl _) x
    exact ⟨b.os, b.tape, b.output, b.size, fun k hk hne => Below.heap_setCell _ _ _ _ (fun e => hne (by rw [e]))⟩
  · refine .inr (fun q => ?_)
    have := (h.lt _ q).1
    omega
/-- A store ahead of the table's blocks. -/
theorem OwnL.far {W : World} {B i : Nat} {v : Value} {L : Nat → Nat → ByteArray} (h : OwnL W B v i L) {p : Addr} (hp : p.block < B) (x : Value) : OwnL (W.setCell p x) B v i L := by
  obtain ⟨xs, h1, h2⟩ := h
  refine ⟨xs, own_setP h1 hp x, fun j hj => ?_⟩
  obtain ⟨g, e1, e2, e3, e4⟩ := h2 j hj
  exact ⟨g, e1, e2, e3, e4.farP (by omega) x⟩
/-- One list more. -/
theorem OwnL.push {W W' : World} {B i g : Nat} {v v' : Value} {L : Nat → Nat → ByteArray} {o : Obj} (h : OwnL W B v i L) (hr : Row16 W g (L i)) (hBg : B ≤ g) (hne : v.ownBlock ≠ some g) {xs : List Value}
    (hx : W.ownsRow B 41 1 v i xs ∧ ∀ j, j < i → ∃ g, xs[j]? = some (.slice (some ⟨g, 0, none⟩) 16 16) ∧ v.ownBlock ≠ some g ∧ B ≤ g ∧ Row16 W g (L j))
    (h1 : W'.ownsRow B 41 1 v' (i + 1) (xs ++ [.slice (some ⟨g, 0, none⟩) 16 16])) (hg : (W.alloc o).grownBy W' v.ownBlock) (hp : v'.ownBlock = v.ownBlock ∨ v'.ownBlock = some (W.alloc o).heap.size) : OwnL W' B v' (i + 1) L := by
  have hl : xs.length = i := by have := hx.1.1; omega
  have hnew : ∀ g', v.ownBlock ≠ some g' → g' < W.heap.size → v'.ownBlock ≠ some g' := by
    intro g' h1 h2
    rcases hp with hp | hp
    · rw [hp]; exact h1
    · rw [hp]; intro e; simp at e; omega
  refine ⟨_, h1, fun j hj => ?_⟩
  by_cases hji : j = i
  · subst hji
    exact ⟨g, by simp [← hl], hnew g hne hr.1, hBg, (hr.below (belA W o)).grownP hg hne⟩
  · obtain ⟨g', e1, e2, e3, e4⟩ := hx.2 j (by omega)
    exact ⟨g', by rw [List.getElem?_append_left (by omega)]; exact e1, hnew g' e2 e4.1, e3, (e4.below (belA W o)).grownP hg e2⟩
theorem OwnL.tb {W : World} {B i : Nat} {v : Value} {L : Nat → Nat → ByteArray} (h : OwnL W B v i L) : TbV W v i L := by
  obtain ⟨xs, h1, h2⟩ := h
  have h0 := h1
  obtain ⟨-, ⟨rfl, rfl⟩ | ⟨g, cap, cur, rfl, hb, -⟩⟩ := h0
  · exact ⟨none, 0, rfl, fun j hj => absurd hj (by omega)⟩
  · refine ⟨_, _, rfl, fun j hj => ?_⟩
    obtain ⟨g2, e1, e2, e3, e4⟩ := h2 j hj
    exact ⟨_, _, _, rfl, (h1.lt g rfl).2, h1.cells (g := g) rfl j _ e1, e4.sv⟩
/-- What NewTable's loop knows. -/
def NtR (w : World) (M Q : ByteArray) (bits : Int) (t9 : Nat) (L : Nat → Nat → ByteArray) (i : Nat) (wr : World) : Prop :=
  Below w.heap.size w wr ∧ Two wr w.heap.size (.string M) (.string Q) ∧ Three wr (w.heap.size + 1) (.string ⟨#[]⟩) (.int .i64 0) (.slice none 0 0) ∧ w.heap.size + 1 < t9 ∧ ∃ v, Three wr t9 (.string M) (.int .i64 bits) v ∧ OwnL wr (t9 + 1) v i L
theorem NtR.below {w : World} {M Q : ByteArray} {bits : Int} {t9 : Nat} {L : Nat → Nat → ByteArray} {i : Nat} {wr W : World} (h : NtR w M Q bits t9 L i wr) (b : Below wr.heap.size wr W) : NtR w M Q bits t9 L i W := by
  obtain ⟨h1, h2, h3, h4, v, h5, h6⟩ := h
  exact ⟨belP h1 b, h2.below b rfl, h3.below b rfl, h4, v, h5.below b rfl, h6.below b⟩
theorem Three.grownP {w w' : World} {g : Nat} {c0 c1 c2 : Value} {row : Option Nat} (h : Three w g c0 c1 c2) (hg : w.grownBy w' row) (hne : ∀ k, row = some k → g < k) : Three w' g c0 c1 c2 := by
  obtain ⟨q0, q1, q2, q3, q4, q5, q6⟩ := h
  have hb := hg.block g q6 (fun e => by have := hne g e.symm; omega)
  refine ⟨?_, ?_, ?_, ?_, ?_, ?_, Nat.lt_of_lt_of_le q6 hg.size⟩
  · rw [World.cell?_of_block (a := ⟨g, 0, none⟩) hb]; exact q0
  · rw [World.cell?_of_block (a := ⟨g, 1, none⟩) hb]; exact q1
  · rw [World.cell?_of_block (a := ⟨g, 2, none⟩) hb]; exact q2
  · rw [World.frozen?_of_block (a := ⟨g, 0, none⟩) hb]; exact q3
  · rw [World.frozen?_of_block (a := ⟨g, 1, none⟩) hb]; exact q4
  · rw [World.frozen?_of_block (a := ⟨g, 2, none⟩) hb]; exact q5
theorem Three.far9 {w : World} {g : Nat} {c0 c1 c2 : Value} (h : Three w g c0 c1 c2) {p : Addr} (hne : g ≠ p.block) (z : Value) : Three (w.setCell p z) g c0 c1 c2 := T3far h hne z
theorem own_form {w : World} {base e size n : Nat} {v : Value} {xs : List Value} (h : w.ownsRow base e size v n xs) : ∃ q c, v = .slice q n c := by
  obtain ⟨-, ⟨rfl, rfl⟩ | ⟨g, cap, cur, rfl, -⟩⟩ := h
  · exact ⟨_, _, rfl⟩
  · exact ⟨_, _, rfl⟩
theorem nt_step {w W W' : World} {M Q : ByteArray} {bits : Int} {t9 i g : Nat} {L : Nat → Nat → ByteArray} {v v' : Value} {o : Obj} {xs : List Value} (h1 : Below w.heap.size w W) (h2 : Two W w.heap.size (.string M) (.string Q)) (h3 : Three W (w.heap.size + 1) (.string ⟨#[]⟩) (.int .i64 0) (.slice none 0 0)) (h4 : w.heap.size + 1 < t9) (h5 : Three W t9 (.string M) (.int .i64 bits) v)
    (hx : W.ownsRow (t9 + 1) 41 1 v i xs ∧ ∀ j, j < i → ∃ g, xs[j]? = some (.slice (some ⟨g, 0, none⟩) 16 16) ∧ v.ownBlock ≠ some g ∧ t9 + 1 ≤ g ∧ Row16 W g (L j)) (hr : Row16 W g (L i)) (hBg : t9 + 1 ≤ g) (hne : v.ownBlock ≠ some g)
    (z1 : W'.ownsRow (t9 + 1) 41 1 v' (i + 1) (xs ++ [.slice (some ⟨g, 0, none⟩) 16 16])) (hg : (W.alloc o).grownBy W' v.ownBlock) (hp : v'.ownBlock = v.ownBlock ∨ v'.ownBlock = some (W.alloc o).heap.size) :
    NtR w M Q bits t9 L (i + 1) (W'.setCell ⟨t9, 2, none⟩ v') := by
  have hO : OwnL W (t9 + 1) v i L := ⟨xs, hx⟩
  have hl := hO.lt
  have hs := h1.size
  have h5s := h5.2.2.2.2.2.2
  refine ⟨(Below.grown (belP h1 (belA W o)) hg (by simp; omega) (fun k e => by have := (hl k e).1; omega)).setCell (p := ⟨t9, 2, none⟩) (by show _ ≤ t9; omega) _, ((h2.alloc o).grownP hg (fun k e => by have := (hl k e).1; omega)).farP (by simp; omega) _,
    ((h3.alloc o).grownP hg (fun k e => by have := (hl k e).1; omega)).far9 (by simp; omega) _, h4, v', T3put2 ((h5.alloc o).grownP hg (fun k e => by have := (hl k e).1; omega)) _, (OwnL.push hO hr hBg hne hx z1 hg hp).far (by simp) _⟩
/-- A table. -/
def YesTb (M : ByteArray) (bits : Int) (n b : Nat) (w : World) (e : Ending) (w' : World) : Prop :=
  ∃ q c, e = .returned (.tuple #[.agg #[.string M, .int .i64 bits, .slice q n c], .int .i64 0]) ∧ TbV w' (.slice q n c) n (fun i j => E (b ^ (16 ^ i * j) % V M)) ∧ Below w.heap.size w w'
set_option maxHeartbeats 8000000 in
set_option maxRecDepth 100000 in
theorem pnewt_yes (M Q x : ByteArray) (bits : Int) (n : Nat) (w : World) (hg : chkG M Q = 0) (hb1 : 0 ≤ bits) (hb2 : bits ≤ 1024) (hn : (n : Int) = (bits + 3) / 4) (he : EltG M Q x) :
    Calls Tryz.prog 24 #[.agg #[.string M, .string Q], .string x, .int .i64 bits] w fun e w' => YesTb M bits n (V x) w e w' := by
  obtain ⟨hM, hQ, hw⟩ := chkG_zero hg
  have CC := Lib.hid (fun W T g hgg => pchk1 M Q x W T g hgg 0 ((chkNs_ok (canL1.2 he.1)).trans hg))
  have CE := Lib.hid (fun W => iselt_t M Q x W hg he)
  have K := Lib.hid (belP (belA w (.cells #[.string M, .string Q] 24)) (belA _ (.cells #[.string ⟨#[]⟩, .int .i64 0, .slice none 0 0] 49)))
  have G := Lib.hid ((Two.new w (.string M) (.string Q) 24 _ rfl).alloc (.cells #[.string ⟨#[]⟩, .int .i64 0, .slice none 0 0] 49))
  have T := Lib.hid (Three.new (w.alloc (.cells #[.string M, .string Q] 24)) (.string ⟨#[]⟩) (.int .i64 0) (.slice none 0 0) 49 (w.heap.size + 1) (by simp))
  obtain ⟨G1, G2, G3, G4, G5⟩ := G.out
  obtain ⟨T1, T2, T3, T4, T5, T6, T7⟩ := T.out
  have hd : decide (bits < 0) = false := decide_eq_false (by omega)
  have hd2 : decide (1024 < bits) = false := decide_eq_false (by omega)
  have hn1 : (bits + 4 - 1) / 4 = (n : Int) := by omega
  have hn2 : (bits + 3) / 4 = (n : Int) := by omega
  have hn3 : n ≤ 1000 := by omega
  obtain ⟨m, hm⟩ : ∃ m, m = V M := ⟨_, rfl⟩
  obtain ⟨b, hb⟩ : ∃ b, b = V x := ⟨_, rfl⟩
  have hm1 : 1 < m := by rw [hm]; exact wfG_pos hw
  have hml : m < Lim := by rw [hm]; exact V_lim hM
  have hx0 : x = E (b ^ 16 ^ 0 % m) := by rw [Nat.pow_zero, Nat.pow_one, hb, hm, Nat.mod_eq_of_lt he.lt, E_V he.1]
  have HX0 := Lib.hid hx0
  have HM0 := wfG_size hM hw
  obtain ⟨L, hL⟩ : ∃ L : Nat → Nat → ByteArray, L = fun i j => E (b ^ (16 ^ i * j) % m) := ⟨_, rfl⟩
  have CM := Lib.hid (fun W p y => (show Calls Tryz.prog 45 #[.string (E (p % m)), .string (E (y % m)), .string M] W fun e w' => e = .returned (.tuple #[.string (E (p * y % m)), .int .i64 0]) ∧ Below W.heap.size W w' by
    have := mmul_ok (E (p % m)) (E (y % m)) M W (can_E' (Nat.lt_trans (Nat.mod_lt _ (by omega)) hml)) (can_E' (Nat.lt_trans (Nat.mod_lt _ (by omega)) hml)) hM HM0
    rwa [V_E, V_E, ← hm, ← Nat.mul_mod] at this))
  have HB := Lib.hid hb
  have HM := Lib.hid hm
  have HL := Lib.hid hL
  have HM1 := Lib.hid hm1
  clear hg he hM hQ hw hm hb hx0 hL HM0 hml hm1 hn
  go_enter Tryz.func24, Tryz.ntmps24
  go_wp2_with fail
  refine (CC.out _ _ _ (by simp)).mono ?_; rintro e w1 ⟨rfl, b1⟩
  have K := Lib.hid (belP (belP K.out (belA _ _)) b1)
  have G := Lib.hid ((G.out.alloc _).below b1 rfl)
  have T := Lib.hid ((T.out.alloc _).below b1 rfl)
  clear b1 G1 G2 G3 G4 G5 T1 T2 T3 T4 T5 T6 T7
  obtain ⟨G1, G2, G3, G4, G5⟩ := G.out
  obtain ⟨T1, T2, T3, T4, T5, T6, T7⟩ := T.out
  go_wp2_with fail
  refine (CE.out _).mono ?_; rintro e w2 ⟨rfl, b2⟩
  have K := Lib.hid (belP K.out b2)
  have G := Lib.hid (G.out.below b2 rfl)
  have T := Lib.hid (T.out.below b2 rfl)
  clear b2 G1 G2 G3 G4 G5 T1 T2 T3 T4 T5 T6 T7
  obtain ⟨G1, G2, G3, G4, G5⟩ := G.out
  obtain ⟨T1, T2, T3, T4, T5, T6, T7⟩ := T.out
  have HN0 := Lib.hid (show NtR w M Q bits w2.heap.size L 0 (w2.alloc (.cells #[.string M, .int .i64 bits, .slice none 0 0] 49)) from
    ⟨belP K.out (belA _ _), G.out.alloc _, T.out.alloc _, T.out.2.2.2.2.2.2, _, Three.new _ _ _ _ _ _ rfl, OwnL.nil _ _ _⟩)
  have h9 : w.heap.size + 1 < w2.heap.size := T.out.2.2.2.2.2.2
  clear K T T1 T2 T3 T4 T5 T6 T7
  go_wp2
  rw [hn1]
  clear G G1 G2 G3 G4 G5 hn1 hn2
  generalize w2.alloc _ = W at *
  generalize w2.heap.size = t9 at *
  go_loopw [1, 43] (fun bs i wr => ∃ i' : Nat, i' ≤ n ∧ i = .int .i64 i' ∧ bs = .string (E (b ^ 16 ^ i' % m)) ∧ Hid (NtR w M Q bits t9 L i' wr)) (fun _ i _ => n - (intOf i).toNat)
  case atStart => exact ⟨0, by omega, rfl, by rw [← HX0.out], HN0⟩
  case round =>
    obtain ⟨i, hi, rfl, rfl, HN⟩ := hrel
    obtain ⟨wo, rfl⟩ : ∃ wo : World, wo = wr := ⟨_, rfl⟩
    by_cases hlt : i < n
    · have hlti : (i : Int) < (n : Int) := by omega
      obtain ⟨B0, hB0⟩ : ∃ B0, B0 = b ^ 16 ^ i := ⟨_, rfl⟩
      have HB0 := Lib.hid hB0
      rw [← hB0]
      have hmk := hmake16
      clear hB0
      go_wp2_with fail
      refine (of_any 1 _ (by omega)).mono ?_; rintro e w3 ⟨rfl, b3⟩
      have K3 := Lib.hid (belP (belA wo (.cells (madeCells #[.string ⟨#[]⟩] 16) 22)) b3)
      have R3 := Lib.hid (((Row16.new wo 22 wo.heap.size rfl).below b3).congr (h' := fun j => if j < 0 then E (B0 ^ j % m) else ⟨#[]⟩) (fun j _ => by simp))
      have hE1 : E 1 = E (B0 ^ 0 % m) := by rw [Nat.pow_zero, Nat.mod_eq_of_lt HM1.out]
      have HE1 := Lib.hid hE1
      clear b3 hmk hE1
      go_wp2
      go_loopw [11, 49] (fun p v wr => ∃ v' : Nat, v' ≤ 16 ∧ v = .int .i64 v' ∧ p = .string (E (B0 ^ v' % m)) ∧ Hid (Below wo.heap.size wo wr) ∧ Hid (Row16 wr wo.heap.size (fun j => if j < v' then E (B0 ^ j % m) else ⟨#[]⟩))) (fun _ v _ => 16 - (intOf v).toNat)
      case atStart => exact ⟨0, by omega, rfl, by rw [HE1.out], K3, R3⟩
      case round =>
        obtain ⟨v, hv, rfl, rfl, K, R⟩ := hrel
        have HNr := Lib.hid (HN.out.below K.out)
        have hne : w.heap.size ≠ wo.heap.size := by have := HN.out.2.1.2.2.2.2; omega
        by_cases hlt2 : v < 16
        · have hltv : (v : Int) < 16 := by omega
          have hv0 : (0 : Int) ≤ (v : Int) := by omega
          obtain ⟨r1, r2⟩ := R.out.2 v hlt2
          obtain ⟨q1, q2, q3, q4, q5⟩ := HNr.out.2.1
          have HW1 := Lib.hid (HNr.out.2.1.farP (p := ⟨wo.heap.size, v, none⟩) hne (.string (E (B0 ^ v % m))))
          have KS := Lib.hid (K.out.setCell (p := ⟨wo.heap.size, v, none⟩) (Nat.le_refl _) (.string (E (B0 ^ v % m))))
          have RS := Lib.hid ((R.out.set_ hlt2 (E (B0 ^ v % m))).congr (h' := fun j => if j < v + 1 then E (B0 ^ j % m) else ⟨#[]⟩) (fun j _ => by
            by_cases e : j = v
            · rw [if_pos e, if_pos (by omega), e]
            · rw [if_neg e]
              by_cases e2 : j < v
              · rw [if_pos e2, if_pos (by omega)]
              · rw [if_neg e2, if_neg (by omega)]))
          have CM1 := Lib.hid (fun W => CM.out W (B0 ^ v) B0)
          rw [← Nat.pow_succ] at CM1
          obtain ⟨s1, s2, s3, s4, s5⟩ := HW1.out
          go_wp2_with fail
          refine (CM1.out _).mono ?_; rintro e w5 ⟨rfl, b5⟩
          have K5 := Lib.hid (belP KS.out b5)
          have R5 := Lib.hid (RS.out.below b5)
          clear b5 r1 r2 q1 q2 q3 q4 q5 s1 s2 s3 s4 s5 HW1 KS RS CM1
          go_wp2
          go_roundw
          case rel => exact ⟨v + 1, by omega, by go_num, rfl, K5, R5⟩
          case measure => simp [intOf]; omega
        · obtain rfl : v = 16 := by omega
          obtain ⟨h1, h2, h3, h4, vl, h5, hO⟩ := HN.out
          have hlo := fun k e => (hO.lt k e).2
          obtain ⟨xs, hx1, hx2⟩ := hO.below K.out
          have h1 := belP h1 K.out
          have h2 := h2.below K.out rfl
          have h3 := h3.below K.out rfl
          have h5 := h5.below K.out rfl
          obtain ⟨q, cq, rfl⟩ := own_form hx1
          have HX1 := Lib.hid hx1
          have HX2 := Lib.hid (And.intro hx1 hx2)
          have H1 := Lib.hid h1
          have H2 := Lib.hid h2
          have H3 := Lib.hid h3
          have H4 := Lib.hid h4
          have H5 := Lib.hid h5
          have RL := Lib.hid (R.out.congr (h' := L i) (fun j hj => by rw [if_pos hj, HL.out, HB0.out, ← Nat.pow_mul]))
          have HLO := Lib.hid hlo
          have HBG := Lib.hid (show t9 + 1 ≤ wo.heap.size by have := HN.out; obtain ⟨-, -, -, -, v0, hv5, -⟩ := this; exact hv5.2.2.2.2.2.2)
          obtain ⟨i0, hi0, hz0, hz1, hz2⟩ := info_parts Tryz.infoL
          have HST := Lib.hid (fun v' w6 z1 z2 z3 => nt_step (w := w) (W' := w6) (Q := Q) (v' := v') (o := .cells #[.slice (some ⟨wo.heap.size, 0, none⟩) 16 16] 41) H1.out H2.out H3.out H4.out H5.out HX2.out RL.out HBG.out (fun e => by have := HLO.out _ e; omega) z1 z2 z3)
          have hp16 : E (B0 ^ 16 % m) = E (b ^ 16 ^ (i + 1) % m) := by rw [HB0.out, ← Nat.pow_mul, ← Nat.pow_succ]
          have HP16 := Lib.hid hp16
          obtain ⟨T1, T2, T3, T4, T5, T6, T7⟩ := h5
          clear h1 h2 h3 h4 hx1 hx2 hlo hp16 hO
          go_wp2_with (at_builtin; refine wpList_append_own_at _ rfl (.tmp 66) (.tmp 68) 47 rfl (t9 + 1) 41 i0 (.slice none 0 0) 1 24 Tryz.undL hi0 hz0 hz1 hz2 rfl (by decide) _ i xs rfl (HX1.out.alloc _) ⟨wr.heap.size, 0, none⟩ 1 1 [.slice (some ⟨wo.heap.size, 0, none⟩) 16 16] rfl rfl (one_cellR _ _ _ _ rfl) (by simp [Value.oneCell']) (by unfold maxLen; omega) (by omega) (by have := H5.out.2.2.2.2.2.2; simp; omega) ?_; intro v' w6 z1 z2 _ z3; obtain ⟨q6, c6, rfl⟩ := own_form z1; have HS6 := Lib.hid (HST.out _ _ z1 z2 z3); have HZ6 := Lib.hid (H5.out.alloc (.cells #[.slice (some ⟨wo.heap.size, 0, none⟩) 16 16] 41) |>.grownP z2 (fun k e => by have := (HX1.out.lt k e).1; omega)); clear z1 z2 z3; obtain ⟨S1, S2, S3, S4, S5, S6, S7⟩ := HZ6.out)
          go_roundw
          case rel => exact ⟨i + 1, by omega, by go_num, by rw [HP16.out], HS6⟩
          case measure => simp [intOf]; omega
    · obtain rfl : i = n := by omega
      obtain ⟨h1, h2, h3, h4, vl, h5, hO⟩ := HN.out
      obtain ⟨q, cq, rfl⟩ : ∃ q c, vl = .slice q i c := by obtain ⟨xs, hx1, -⟩ := hO; exact own_form hx1
      have HT := Lib.hid (T3set h3 (.string M) (.int .i64 bits) (.slice q i cq))
      have HBE := Lib.hid (bel3set (b := w.heap.size + 1) h1 (by omega) (.string M) (.int .i64 bits) (.slice q i cq))
      have HOE := Lib.hid (((hO.far (p := ⟨w.heap.size + 1, 0, none⟩) (by show w.heap.size + 1 < _; omega) (.string M)).far (p := ⟨w.heap.size + 1, 1, none⟩) (by show w.heap.size + 1 < _; omega) (.int .i64 bits)).far (p := ⟨w.heap.size + 1, 2, none⟩) (by show w.heap.size + 1 < _; omega) (.slice q i cq)).tb
      rw [HL.out, HM.out, HB.out] at HOE
      obtain ⟨T1, T2, T3, T4, T5, T6, T7⟩ := h5
      obtain ⟨S1, S2, S3, S4, S5, S6, S7⟩ := h3
      clear h1 h2 hO
      go_wp2
      have ht := HT.out
      generalize World.setCell _ _ _ = W3 at *
      obtain ⟨r0, r1, r2, r3, r4, r5, r6⟩ := ht
      refine bodyPost_ret (v := .tuple #[.agg #[.string M, .int .i64 bits, .slice q i cq], .int .i64 0]) (by simp [results, Tryz.results24, go_sem, r0, r1, r2]) rfl ⟨_, _, rfl, HOE.out, HBE.out⟩
end Go.Proofs.YtogmgfdihmacpaaGreatDoor
