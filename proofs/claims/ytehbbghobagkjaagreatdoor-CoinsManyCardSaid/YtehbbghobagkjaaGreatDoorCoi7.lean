/-
  Contracts of package coins, the seventh part: copied, Values, Seed, Left.
-/
import Derived.Test.YtehbbghobagkjaaGreatDoorCoi6
import Derived.Laws.CopyOwn
namespace Go.Proofs.YtehbbghobagkjaaGreatDoor
open Go.RowKit Go.Deep
set_option linter.unusedVariables false

theorem Tryz.hinfS : (Tryz.prog.info? 25).map (fun i => (i.zero, i.size, i.bytes)) = some (some (.string ⟨#[]⟩), 1, 16) := by kernel_rfl
theorem Tryz.hundS : Tryz.prog.underlying 22 = some (.slice 25) := by kernel_rfl
/-- The cells of k strings. -/
def svC (k : Nat) (f : Nat → ByteArray) : List Value := (List.range k).map fun j => Value.string (f j)
theorem svC_length (k : Nat) (f : Nat → ByteArray) : (svC k f).length = k := by simp [svC]
theorem svC_one (k : Nat) (f : Nat → ByteArray) : ∀ v ∈ svC k f, v.oneCell' = true := by
  intro v hv
  obtain ⟨j, -, rfl⟩ := List.mem_map.1 hv
  rfl
theorem svC_get {k : Nat} {f : Nat → ByteArray} {j : Nat} {v : Value} (h : (svC k f)[j]? = some v) : j < k ∧ v = .string (f j) := by
  have hl := (List.getElem?_eq_some_iff.1 h).1
  rw [svC_length] at hl
  refine ⟨hl, ?_⟩
  simp [svC, hl] at h
  exact h.symm
theorem svC_src {k : Nat} {f : Nat → ByteArray} {p : Option Addr} {g off : Nat} {w : World} (hc : ∀ j, j < k → ∃ a, p = some a ∧ a.block < w.heap.size ∧ w.cell? (a.add j) = some (.string (f j))) (hg : g = w.heap.size) (T : Obj) :
    0 < (svC k f).length → some (⟨g, off, none⟩ : Addr) = some ⟨g, off, none⟩ ∧ ∃ ad, p = some ad ∧ ∀ j v, (svC k f)[j]? = some v → (w.alloc T).cell? (ad.add j) = some v := by
  intro h0
  rw [svC_length] at h0
  obtain ⟨a, e, -, -⟩ := hc 0 h0
  refine ⟨rfl, a, e, fun j v hj => ?_⟩
  obtain ⟨hlt, rfl⟩ := svC_get hj
  obtain ⟨a2, e2, hb, hcell⟩ := hc j hlt
  obtain rfl : a2 = a := by rw [e] at e2; exact (Option.some.inj e2).symm
  have b : Below w.heap.size w (w.alloc T) := (Below.refl _ _).alloc (Nat.le_refl _) _
  exact (b.cell (p := a2.add j) (by rw [add_blk]; exact hb)).trans hcell
theorem svC_splice (k : Nat) (f : Nat → ByteArray) : splice (madeCells #[Value.string ⟨#[]⟩] k).toList 0 (svC k f) = svC k f := by
  unfold splice
  rw [List.drop_of_length_le (by rw [svC_length]; simp [size_madeCells]), List.append_nil, List.take_zero, List.nil_append]
theorem SV.of_row {w : World} {g k cap : Nat} {f : Nat → ByteArray} {t : TypeId} (h : w.heap[g]? = some (.cells (svC k f).toArray t (0, 0))) : SV w (.slice (some ⟨g, 0, none⟩) k cap) k f := by
  refine ⟨_, _, rfl, fun j hj => ⟨_, rfl, (Array.getElem?_eq_some_iff.1 h).1, ?_⟩⟩
  rw [show (⟨g, 0, none⟩ : Addr).add j = ⟨g, j, none⟩ by unfold Addr.add; split <;> simp_all]
  have hl : (svC k f)[j]? = some (.string (f j)) := by simp [svC, hj]
  unfold World.cell?
  simp [h, hl]
theorem hmakeS (c : Nat) (hc : c ≤ 1099511627776) (w : World) : (Instr.makeSlice 22 (.int .i64 (c : Int)) (.int .i64 (c : Int))).run Tryz.prog w = .ok (.slice (some ⟨w.heap.size, 0, none⟩) c c) (w.alloc (.cells (madeCells #[.string ⟨#[]⟩] c) 25)) :=
  run_make_row' 22 25 _ 16 Tryz.hundS Tryz.hinfS rfl .i64 .i64 c (by omega) (by omega) w
/-- What a copy is. -/
def CopyP (k : Nat) (f : Nat → ByteArray) (w : World) (e : Ending) (w' : World) : Prop :=
  ∃ (g cap : Nat), e = .returned (.slice (some ⟨g, 0, none⟩) k cap) ∧ w.heap.size ≤ g ∧ SV w' (.slice (some ⟨g, 0, none⟩) k cap) k f ∧ Below w.heap.size w w'
/-- A slice of strings, behind a write elsewhere. -/
theorem SV.set {w : World} {g cap k : Nat} {f : Nat → ByteArray} (h : SV w (.slice (some ⟨g, 0, none⟩) k cap) k f) {p : Addr} (hne : p.block ≠ g) (x : Value) : SV (w.setCell p x) (.slice (some ⟨g, 0, none⟩) k cap) k f := by
  obtain ⟨q, c, e, hc⟩ := h
  obtain ⟨rfl, rfl⟩ : (some (⟨g, 0, none⟩ : Addr)) = q ∧ cap = c := by cases e; exact ⟨rfl, rfl⟩
  refine ⟨_, _, rfl, fun j hj => ?_⟩
  obtain ⟨a, e1, e2, e3⟩ := hc j hj
  obtain rfl : (⟨g, 0, none⟩ : Addr) = a := Option.some.inj e1
  refine ⟨_, rfl, by rw [World.size_setCell]; exact e2, ?_⟩
  rw [World.cell?_setCell_far _ _ _ _ (by rw [add_blk]; exact hne)]
  exact e3
theorem SV.set3 {w : World} {g cap k b : Nat} {f : Nat → ByteArray} (h : SV w (.slice (some ⟨g, 0, none⟩) k cap) k f) (hne : b ≠ g) (x y z : Value) :
    SV (((w.setCell ⟨b, 0, none⟩ x).setCell ⟨b, 1, none⟩ y).setCell ⟨b, 2, none⟩ z) (.slice (some ⟨g, 0, none⟩) k cap) k f := ((h.set hne x).set hne y).set hne z
theorem Below.set3 {B b : Nat} {w w' : World} (h : Below B w w') (hb : B ≤ b) (x y z : Value) : Below B w (((w'.setCell ⟨b, 0, none⟩ x).setCell ⟨b, 1, none⟩ y).setCell ⟨b, 2, none⟩ z) :=
  ((h.setCell (p := ⟨b, 0, none⟩) hb x).setCell (p := ⟨b, 1, none⟩) hb y).setCell (p := ⟨b, 2, none⟩) hb z
theorem Three.set3 {w : World} {b : Nat} {c0 c1 c2 : Value} (h : Three w b c0 c1 c2) (x y z : Value) : Three (((w.setCell ⟨b, 0, none⟩ x).setCell ⟨b, 1, none⟩ y).setCell ⟨b, 2, none⟩ z) b x y z := by
  obtain ⟨q0, q1, q2, q3, q4, q5, q6⟩ := h
  refine ⟨?_, ?_, ?_, ?_, ?_, ?_, ?_⟩ <;> simp [go_sem, q0, q1, q2, q3, q4, q5, q6]
set_option maxHeartbeats 1000000 in
set_option maxRecDepth 100000 in
theorem copied_any (v : Value) (k : Nat) (f : Nat → ByteArray) (w : World) (hv : SV w v k f) (hk : k ≤ 1099511627776) :
    Calls Tryz.prog 36 #[v] w fun e w' => CopyP k f w e w' := by
  obtain ⟨p, cap, rfl, hc⟩ := hv
  have HS := Lib.hid (svC_src (g := w.heap.size) (off := 0) hc rfl (.cells (madeCells #[.string ⟨#[]⟩] k) 25)); clear hc
  have hm := hmakeS k hk
  have HB := Lib.hid (show Below w.heap.size w (w.alloc (.cells (madeCells #[.string ⟨#[]⟩] k) 25)) from (Below.refl _ _).alloc (Nat.le_refl _) _)
  have HR := Lib.hid (show (w.alloc (.cells (madeCells #[.string ⟨#[]⟩] k) 25)).heap[w.heap.size]? = some (.cells (madeCells #[.string ⟨#[]⟩] k).toList.toArray 25 (0, 0)) by simpa using heap_alloc_last w _)
  go_enter Tryz.func36, Tryz.ntmps36
  go_wp2_with (refine wpList_copy_splice rfl (.tmp 7) (.tmp 8) 22 22 rfl 25 Tryz.hundS (by kernel_rfl) _ _ _ _ _ _ rfl rfl w.heap.size 0 (madeCells #[.string ⟨#[]⟩] k).toList 25 HR.out (svC k f) (by rw [svC_length]; exact (Nat.min_self k).symm) HS.out (by rw [svC_length]; simp [size_madeCells]) (svC_one k f) w.heap.size w HB.out (Nat.le_refl _) ?_; intro w2 hg2 hB2)
  have HF := Lib.hid (show w2.heap[w.heap.size]? = some (.cells (svC k f).toArray 25 (0, 0)) by have := hg2.out; rwa [svC_splice] at this)
  clear hg2
  go_wp2
  go_ret
  exact ⟨_, _, rfl, Nat.le_refl _, SV.of_row HF.out, hB2⟩
/-- A tape that is answered. -/
def TapeP (k : Nat) (f : Nat → ByteArray) (S : ByteArray) (t : Int) (w : World) (e : Ending) (w' : World) : Prop :=
  ∃ (g cap : Nat), e = .returned (.agg #[.slice (some ⟨g, 0, none⟩) k cap, .string S, .int .i64 t]) ∧ w.heap.size ≤ g ∧ SV w' (.slice (some ⟨g, 0, none⟩) k cap) k f ∧ Below w.heap.size w w'
set_option maxHeartbeats 1000000 in
set_option maxRecDepth 100000 in
theorem values_any (v : Value) (k : Nat) (f : Nat → ByteArray) (w : World) (hv : SV w v k f) (hk : k ≤ 1099511627776) :
    Calls Tryz.prog 16 #[v] w fun e w' => TapeP k f ⟨#[]⟩ 0 w e w' := by
  have HV := Lib.hid (hv.below ((Below.refl _ w).alloc (Nat.le_refl _) (.cells #[.slice none 0 0, .string ⟨#[]⟩, .int .i64 0] 24)))
  have HB := Lib.hid (show Below w.heap.size w (w.alloc (.cells #[.slice none 0 0, .string ⟨#[]⟩, .int .i64 0] 24)) from (Below.refl _ _).alloc (Nat.le_refl _) _)
  have HT := Lib.hid (Three.new w (.slice none 0 0) (.string ⟨#[]⟩) (.int .i64 0) 24 _ rfl)
  obtain ⟨p, cap, rfl, -⟩ := hv
  go_enter Tryz.func16, Tryz.ntmps16
  go_wp2_with fail
  refine (copied_any _ k f _ HV.out hk).mono ?_
  rintro e w2 ⟨g2, c2, rfl, hg2, hs2, hb2⟩
  obtain ⟨q0, q1, q2, q3, q4, q5, q6⟩ := HT.out.below hb2 rfl
  have HB2 := Lib.hid (HB.out.trans (hb2.mono HB.out.size))
  have HG := Lib.hid (show w.heap.size ≤ g2 by have := hg2; simp only [World.size_alloc] at this; omega)
  have hne : w.heap.size ≠ g2 := by have := hg2; simp only [World.size_alloc] at this; omega
  have HS2 := Lib.hid (hs2.set3 hne (.slice (some ⟨g2, 0, none⟩) k c2) (.string ⟨#[]⟩) (.int .i64 0))
  have HB3 := Lib.hid (Below.set3 HB2.out (Nat.le_refl _) (.slice (some ⟨g2, 0, none⟩) k c2) (.string ⟨#[]⟩) (.int .i64 0))
  have HT3 := Lib.hid (Three.set3 ⟨q0, q1, q2, q3, q4, q5, q6⟩ (.slice (some ⟨g2, 0, none⟩) k c2) (.string ⟨#[]⟩) (.int .i64 0))
  clear HT HB HV HB2 hb2 hs2 hg2 hne
  go_wp2
  have ht := HT3.out
  generalize World.setCell _ _ _ = W3 at *
  obtain ⟨r0, r1, r2, r3, r4, r5, r6⟩ := ht
  refine bodyPost_ret (v := .agg #[.slice (some ⟨g2, 0, none⟩) k c2, .string ⟨#[]⟩, .int .i64 0]) (by simp [results, Tryz.results16, go_sem, r0, r1, r2]) rfl ⟨_, _, rfl, HG.out, HS2.out, HB3.out⟩
set_option maxHeartbeats 1000000 in
set_option maxRecDepth 100000 in
theorem seed_any (S : ByteArray) (w : World) :
    Calls Tryz.prog 18 #[.string S] w fun e w' => e = .returned (.agg #[.slice none 0 0, .string S, .int .i64 0]) ∧ Below w.heap.size w w' := by
  go_enter Tryz.func18, Tryz.ntmps18
  go_wp2
  obtain ⟨r0, r1, r2, r3, r4, r5, r6⟩ := Three.new w (.slice none 0 0) (.string S) (.int .i64 0) 24 _ rfl
  refine bodyPost_ret (v := .agg #[.slice none 0 0, .string S, .int .i64 0]) (by simp [results, Tryz.results18, go_sem, r0, r1, r2]) rfl ⟨rfl, (Below.refl _ _).alloc (Nat.le_refl _) _⟩
end Go.Proofs.YtehbbghobagkjaaGreatDoor
