/-
  Several parts in one text (CH).
-/
import Derived.Test.YtehbbghobagkjaaGreatDoorCoi11
import Derived.Deep.LoopGhost
/-
  Contracts of package coins, the twelfth part: Many.
-/
namespace Go.Proofs.YtehbbghobagkjaaGreatDoor
open Go.RowKit Go.Deep
set_option linter.unusedVariables false

theorem hmakeM (c : Nat) (hc : c ≤ 1099511627776) (w : World) : (Instr.makeSlice 22 (.int .i64 0) (.int .i64 (c : Int))).run Tryz.prog w = .ok (.slice (some ⟨w.heap.size, 0, none⟩) 0 c) (w.alloc (.cells (madeCells #[.string ⟨#[]⟩] c) 25)) := by
  obtain ⟨i0, hi, hz0, hz1, hz2⟩ := info_parts Tryz.hinfS
  have := run_make (P := Tryz.prog) w 22 25 i0 (.string ⟨#[]⟩) Tryz.hundS hi hz0 .i64 .i64 0 c (by omega) (by omega) (by rw [hz2]; omega) (by omega)
  rw [this, hz1]
  simp [Value.cells]
theorem svC_snoc (i : Nat) (X : Nat → ByteArray) : svC i X ++ [.string (X i)] = svC (i + 1) X := by
  simp [svC, List.range_succ]
theorem own_geS {w : World} {base e size n : Nat} {v : Value} {xs : List Value} (h : w.ownsRow base e size v n xs) : ∀ k, v.ownBlock = some k → base ≤ k := fun k hk => (h.lt k hk).1
theorem one_cellsS (W : World) (x : Value) (t : TypeId) : ∀ j u, [x][j]? = some u → (W.alloc (.cells #[x] t)).cell? ((⟨W.heap.size, 0, none⟩ : Addr).add j) = some u := by
  intro j u hj
  match j, hj with
  | 0, hj =>
    simp at hj; subst hj
    show (W.alloc (.cells #[x] t)).cell? ⟨W.heap.size, 0 + 0, none⟩ = _
    rw [World.cell?_alloc_new]; rfl
  | j + 1, hj => simp at hj
theorem sv_of_ownsS {w : World} {B i : Nat} {v : Value} {X : Nat → ByteArray} (h : w.ownsRow B 25 1 v i (svC i X)) : ∃ q c, v = .slice q i c ∧ SV w (.slice q i c) i X ∧ (q = none ∨ ∃ g, q = some ⟨g, 0, none⟩ ∧ B ≤ g) := by
  have h0 := h
  obtain ⟨-, ⟨rfl, rfl⟩ | ⟨g, cap, cur, rfl, hb, -⟩⟩ := h0
  · exact ⟨none, 0, rfl, SV.nil w X, .inl rfl⟩
  · refine ⟨_, _, rfl, ⟨_, _, rfl, fun j hj => ⟨_, rfl, (h.lt g rfl).2, ?_⟩⟩, .inr ⟨g, rfl, hb⟩⟩
    exact h.cells (g := g) rfl j _ (by simp [svC, hj])
theorem Three.lower {B : Nat} {w w' : World} {g : Nat} {c0 c1 c2 : Value} (h : Three w g c0 c1 c2) (b : Below B w w') (hB : g < B) (hs : w.heap.size ≤ w'.heap.size) : Three w' g c0 c1 c2 := by
  obtain ⟨h0, h1, h2, h3, h4, h5, h6⟩ := h
  refine ⟨?_, ?_, ?_, ?_, ?_, ?_, ?_⟩
  · rw [b.cell (p := ⟨g, 0, none⟩) hB, h0]
  · rw [b.cell (p := ⟨g, 1, none⟩) hB, h1]
  · rw [b.cell (p := ⟨g, 2, none⟩) hB, h2]
  · rw [b.frozen (p := ⟨g, 0, none⟩) hB, h3]
  · rw [b.frozen (p := ⟨g, 1, none⟩) hB, h4]
  · rw [b.frozen (p := ⟨g, 2, none⟩) hB, h5]
  · exact Nat.lt_of_lt_of_le h6 hs
theorem SV.away {w : World} {q : Option Addr} {k c b : Nat} {f : Nat → ByteArray} (h : SV w (.slice q k c) k f) (hq : q = none ∨ ∃ g, q = some ⟨g, 0, none⟩ ∧ b ≠ g) {p : Addr} (hp : p.block = b) (x : Value) : SV (w.setCell p x) (.slice q k c) k f := by
  rcases hq with rfl | ⟨g, rfl, hne⟩
  · obtain ⟨p', c', e, hc⟩ := h
    cases e
    exact ⟨_, _, rfl, fun j hj => absurd (hc j hj) (fun ⟨_, q, _⟩ => by cases q)⟩
  · exact h.set (by rw [hp]; exact hne) x
theorem SV.away3 {w : World} {q : Option Addr} {k c b : Nat} {f : Nat → ByteArray} (h : SV w (.slice q k c) k f) (hq : q = none ∨ ∃ g, q = some ⟨g, 0, none⟩ ∧ b ≠ g) (x y z : Value) :
    SV (((w.setCell ⟨b, 0, none⟩ x).setCell ⟨b, 1, none⟩ y).setCell ⟨b, 2, none⟩ z) (.slice q k c) k f := ((h.away hq rfl x).away hq rfl y).away hq rfl z
theorem Three.put2 {w : World} {b : Nat} {c0 c1 c2 : Value} (h : Three w b c0 c1 c2) (z : Value) : Three (w.setCell ⟨b, 2, none⟩ z) b c0 c1 z := by
  obtain ⟨q0, q1, q2, q3, q4, q5, q6⟩ := h
  refine ⟨?_, ?_, ?_, ?_, ?_, ?_, ?_⟩ <;> simp [go_sem, q0, q1, q2, q3, q4, q5, q6]
theorem Three.put2_far {w : World} {b g : Nat} {c0 c1 c2 : Value} (h : Three w g c0 c1 c2) (hne : b ≠ g) (z : Value) : Three (w.setCell ⟨b, 2, none⟩ z) g c0 c1 c2 := by
  obtain ⟨q0, q1, q2, q3, q4, q5, q6⟩ := h
  refine ⟨?_, ?_, ?_, ?_, ?_, ?_, ?_⟩
  · rw [World.cell?_setCell_far _ _ _ _ hne]; exact q0
  · rw [World.cell?_setCell_far _ _ _ _ hne]; exact q1
  · rw [World.cell?_setCell_far _ _ _ _ hne]; exact q2
  · simp [go_sem, q3]
  · simp [go_sem, q4]
  · simp [go_sem, q5]
  · rw [World.size_setCell]; exact q6
theorem grown_set6 (w : World) (p : Addr) (x : Value) : w.grownBy (w.setCell p x) (some p.block) := by
  have b : Below p.block w (w.setCell p x) := (Below.refl _ _).setCell (Nat.le_refl _) x
  refine ⟨b.os, b.tape, b.output, b.size, fun k hk hne => ?_⟩
  exact Below.heap_setCell _ _ _ _ (fun e => hne (by rw [e]))
theorem nextV_end {k : Nat} {f : Nat → ByteArray} {S n x : ByteArray} {t : Nat} (h : nextV k f S t n = .tuple #[.string x, .int .i64 0]) : t ≠ 2147483647 := by
  rintro rfl
  unfold nextV at h
  by_cases h1 : 2147483647 < k
  · rw [if_pos h1] at h
    by_cases h2 : V (f 2147483647) < V n
    · rw [if_pos h2, if_pos rfl] at h; simp at h
    · rw [if_neg h2] at h; simp at h
  · rw [if_neg h1, if_pos (Or.inl rfl)] at h; simp at h
/-- The coins and errors of the draws from t on. -/
def NextsP (k : Nat) (f : Nat → ByteArray) (S n : ByteArray) (t : Nat) (X : Nat → ByteArray) (E : Nat → Int) : Prop := ∀ j, nextV k f S (t + j) n = .tuple #[.string (X j), .int .i64 (E j)]
theorem nexts_exist (k : Nat) (f : Nat → ByteArray) (S n : ByteArray) (t : Nat) : ∃ X E, NextsP k f S n t X E :=
  ⟨fun j => (nextV_form k f S (t + j) n).choose, fun j => (nextV_form k f S (t + j) n).choose_spec.choose, fun j => (nextV_form k f S (t + j) n).choose_spec.choose_spec⟩
/-- What Many answers. -/
def ManyNo (c : Nat) (E : Nat → Int) (w : World) (e : Ending) (w' : World) : Prop :=
  ∃ i, i < c ∧ (∀ j, j < i → E j = 0) ∧ E i ≠ 0 ∧ e = .returned (.tuple #[.slice none 0 0, .agg #[.slice none 0 0, .string ⟨#[]⟩, .int .i64 0], .int .i64 (E i)]) ∧ Below w.heap.size w w'
def ManyOk (c k : Nat) (f X : Nat → ByteArray) (S : ByteArray) (t : Int) (E : Nat → Int) (w : World) (e : Ending) (w' : World) : Prop :=
  (∀ j, j < c → E j = 0) ∧ ∃ q cq g cg, e = .returned (.tuple #[.slice q c cq, .agg #[.slice (some ⟨g, 0, none⟩) k cg, .string S, .int .i64 t], .int .i64 0]) ∧ SV w' (.slice q c cq) c X ∧ SV w' (.slice (some ⟨g, 0, none⟩) k cg) k f ∧ Below w.heap.size w w' ∧ w.heap.size ≤ g ∧ (q = none ∨ ∃ g', q = some ⟨g', 0, none⟩ ∧ w.heap.size ≤ g')
def ManyP (c k : Nat) (f X : Nat → ByteArray) (S : ByteArray) (t : Int) (E : Nat → Int) (w : World) (e : Ending) (w' : World) : Prop := ManyNo c E w e w' ∨ ManyOk c k f X S t E w e w'
/-- What the loop of Many knows. -/
def ManR (w : World) (k : Nat) (f X : Nat → ByteArray) (S : ByteArray) (t c cap : Nat) (p : Option Addr) (E : Nat → Int) (y : Nat) (vd vi : Value) (wr : World) : Prop :=
  ∃ i, i + y = c ∧ vi = .int .i64 i ∧ t + i ≤ 2147483647 ∧ (∀ j, j < i → E j = 0) ∧ Below w.heap.size w wr ∧ Three wr w.heap.size (.slice p k cap) (.string S) (.int .i64 ((t + i : Nat) : Int)) ∧
    Three wr (w.heap.size + 1) (.slice none 0 0) (.string ⟨#[]⟩) (.int .i64 0) ∧ wr.ownsRow (w.heap.size + 1 + 1) 25 1 vd i (svC i X) ∧ w.heap.size + 1 + 1 ≤ wr.heap.size
theorem man_start {w w1 : World} {k : Nat} {f X : Nat → ByteArray} {S : ByteArray} {t c cap : Nat} {p : Option Addr} {E : Nat → Int} (hB : Below w.heap.size w w1) (hT : Three w1 w.heap.size (.slice p k cap) (.string S) (.int .i64 t)) (hR : Three w1 (w.heap.size + 1) (.slice none 0 0) (.string ⟨#[]⟩) (.int .i64 0)) (ht : t ≤ 2147483647) (hc : c ≤ 1099511627776) :
    ManR w k f X S t c cap p E c (.slice (some ⟨w1.heap.size, 0, none⟩) 0 c) (.int .i64 0) (w1.alloc (.cells (madeCells #[.string ⟨#[]⟩] c) 25)) := by
  have hlt : w.heap.size + 1 < w1.heap.size := hR.2.2.2.2.2.2
  refine ⟨0, by omega, rfl, ht, fun j hj => absurd hj (by omega), bel_of hB (bel_alloc _ _), hT.alloc _, hR.alloc _, ?_, by rw [World.size_alloc]; omega⟩
  exact World.ownsRow_made w1 _ c (by omega) (by unfold maxLen; omega) (by rw [size_madeCells]; omega)
set_option maxHeartbeats 8000000 in
set_option maxRecDepth 100000 in
theorem many_any (v : Value) (k : Nat) (f : Nat → ByteArray) (S : ByteArray) (t c : Nat) (n : ByteArray) (w : World) (hv : SV w v k f) (hk : k ≤ 1099511627776) (hwf : WF k f t) (hn : Can n) (hn0 : 0 < n.size) (hS : S.size ≤ 1099511627776) (htab : TabW w) (hc : c ≤ 4096)
    (X : Nat → ByteArray) (E : Nat → Int) (hX : NextsP k f S n t X E) :
    Calls Tryz.prog 13 #[.agg #[v, .string S, .int .i64 t], .string n, .int .i64 c] w fun e w' => ManyP c k f X S ((t + c : Nat) : Int) E w e w' := by
  have b1 := box2_below w (.cells #[v, .string S, .int .i64 t] 24) (.cells #[.slice none 0 0, .string ⟨#[]⟩, .int .i64 0] 24)
  obtain ⟨c', h', hcall⟩ := chk_any v k f S t n _ (hv.below b1) (by omega)
  obtain rfl : c' = 0 := chkT_uniq h' (.inr (.inr ⟨rfl, hwf, hn, hn0⟩))
  have CC := Lib.hid hcall
  have ht : t ≤ 2147483647 := by have := hwf.2.2; omega
  have CN := Lib.hid (fun (u : Nat) W hV hT (hu : u ≤ 2147483647) => next_any v k f S u n W hV (by omega) ⟨hwf.1, by omega, by omega⟩ hn hn0 hS hT)
  have HTT := Lib.hid ht
  have HXX := Lib.hid hX
  have CB := Lib.hid (fun (W : World) (hV : SV W v k f) (hu : t + c ≤ 2147483647) => (show Calls Tryz.prog 23 #[.agg #[v, .string S, .int .i64 ((t + c : Nat) : Int)], .int .i64 ((0 : Nat) : Int)] W fun e w' => TapeP k f S ((t + c : Nat) : Int) W e w' from behind_any v k f S (t + c) 0 W hV hk hu (by omega)))
  have HB := Lib.hid b1
  have HV := Lib.hid hv
  have HTab := Lib.hid htab
  have HT1 := Lib.hid (box2_second w (.slice none 0 0) (.string ⟨#[]⟩) (.int .i64 0) 24 (.cells #[v, .string S, .int .i64 t] 24))
  have HT0 := Lib.hid (box2_first w v (.string S) (.int .i64 t) 24 (.cells #[.slice none 0 0, .string ⟨#[]⟩, .int .i64 0] 24))
  obtain ⟨p, cap, rfl, -⟩ := hv
  obtain ⟨q0, q1, q2, q3, q4, q5, q6⟩ := HT0.out
  have hci : ¬ (4096 : Int) < (c : Int) := by omega
  have hmk := hmakeM c (by omega)
  have HC := Lib.hid hc
  clear hcall b1 h' htab hwf hn hn0 hS ht hX hk hc
  go_enter Tryz.func13, Tryz.ntmps13
  go_wp2_with fail
  refine CC.out.mono ?_; rintro e w1 ⟨rfl, b1⟩
  have HM := Lib.hid (man_start (f := f) (X := X) (c := c) (E := E) (bel_of HB.out b1) (HT0.out.below b1 rfl) (HT1.out.below b1 rfl) HTT.out (by have := HC.out; omega))
  clear q0 q1 q2 q3 q4 q5 q6 b1 HB HT0 HT1 CC
  go_wp2_with fail
  obtain ⟨i0, hi, hz0, hz1, hz2⟩ := info_parts Tryz.hinfS
  go_loopg [10, 30] c (fun y vd vi wr => ManR w k f X S t c cap p E y vd vi wr)
  case atStart => exact HM.out
  case round =>
    obtain ⟨i, hiy, rfl, hu, hE, hb, hT, hR, hown, hsz⟩ := hrel
    clear HM
    have HY := Lib.hid hiy
    have HB := Lib.hid hb
    have HE := Lib.hid hE
    have HT := Lib.hid hT
    have HR := Lib.hid hR
    have HO := Lib.hid hown
    have HU := Lib.hid hu
    have HSZ := Lib.hid hsz
    have HVr := Lib.hid (HV.out.below hb)
    clear hiy hb hE hT hR hown hu hsz
    by_cases hlt : i < c
    · have hlti : (i : Int) < (c : Int) := by omega
      obtain ⟨u, hue⟩ : ∃ u, u = t + i := ⟨_, rfl⟩
      obtain ⟨x, hx⟩ : ∃ x, x = X i := ⟨_, rfl⟩
      obtain ⟨ee, hee⟩ : ∃ ee, ee = E i := ⟨_, rfl⟩
      have hnx : nextV k f S u n = .tuple #[.string x, .int .i64 ee] := by rw [hue, hx, hee]; exact HXX.out i
      have HUE := Lib.hid hue
      have HX := Lib.hid hx
      have HEE := Lib.hid hee
      have HNX := Lib.hid hnx
      have CNi := Lib.hid (hnx ▸ CN.out u wr HVr.out (HTab.out.below HB.out) (by have := HU.out; omega))
      obtain ⟨q0, q1, q2, q3, q4, q5, q6⟩ := HT.out
      rw [← hue] at q2
      clear hnx hue hx hee
      by_cases he : ee = 0
      · subst he
        obtain ⟨z, hz⟩ : ∃ z : Int, z = ((t + (i + 1) : Nat) : Int) := ⟨_, rfl⟩
        have hwz : IntKind.i64.wrap ((u : Int) + 1) = z := by have := HU.out; have := HUE.out; rw [IntWalk.i64_in _ (by omega)]; omega
        have HZ := Lib.hid hz; clear hz
        go_wp2_with fail
        refine CNi.out.mono ?_; rintro e w2 ⟨rfl, b2⟩
        have HO2 := Lib.hid (HO.out.kept (grown_of_below b2) (by cases u10.ownBlock <;> simp))
        have HL2 := Lib.hid (show Below (w.heap.size + 1 + 1) wr (w2.alloc (.cells #[.string x] 25)) from (b2.mono HSZ.out).alloc (Nat.le_trans HSZ.out b2.size) _)
        have HS2 := Lib.hid (Nat.le_trans HSZ.out b2.size)
        clear b2 CNi q0 q1 q2 q3 q4 q5 q6
        go_wp2_with (at_builtin; refine wpList_append_own _ rfl _ _ 22 rfl (w.heap.size + 1 + 1) 25 i0 (.string ⟨#[]⟩) 1 16 Tryz.hundS hi hz0 hz1 hz2 rfl (by decide) _ _ _ rfl (HO2.out.alloc _) ⟨w2.heap.size, 0, none⟩ 1 1 [.string x] rfl rfl (one_cellsS _ _ _) (by simp [Value.oneCell']) (by have := HC.out; unfold maxLen; omega) (by have := HC.out; omega) (by have := HS2.out; simp; omega) ?_; intro v' w3 hown' hgrow _; have HO3 := Lib.hid hown'; have HG3 := Lib.hid hgrow; clear hown' hgrow; have HL3 := Lib.hid (HL2.out.grown HG3.out (by have := HS2.out; simp; omega) (own_geS HO2.out)); have HT3 := Lib.hid (HT.out.lower HL3.out (by omega) (HL3.out.size)); obtain ⟨q0, q1, q2, q3, q4, q5, q6⟩ := HT3.out; rw [← HUE.out] at q2)
        have HR3 := Lib.hid (HR.out.lower HL3.out (by omega) (HL3.out.size))
        have HB3 := Lib.hid (HB.out.trans (HL3.out.mono (by omega)))
        have HS3 := Lib.hid (Nat.le_trans HSZ.out HL3.out.size)
        clear HT HR HO HL2 HL3 HO2 HS2 HVr
        go_wp2
        go_roundg (gk - 1)
        case measure => have := HY.out; omega
        case rel =>
          have hsz3 := HS3.out
          have hE2 : ∀ j, j < i + 1 → E j = 0 := fun j hj => by
            by_cases hji : j = i
            · rw [hji]; exact HEE.out.symm
            · exact HE.out j (by omega)
          have hnx := HNX.out
          refine ⟨i + 1, by have := HY.out; omega, by go_num, by have := nextV_end hnx; have := HU.out; have := HUE.out; omega, hE2, ?_, ?_, HR3.out.put2_far (by omega) _, ?_, by rw [World.size_setCell]; exact hsz3⟩
          · exact HB3.out.setCell (p := ⟨w.heap.size, 2, none⟩) (Nat.le_refl _) _
          · have h := HT3.out.put2 (.int .i64 z)
            rw [HZ.out] at h ⊢
            exact h
          · have h := HO3.out
            rw [HX.out, svC_snoc] at h
            refine h.kept (grown_set6 w3 ⟨w.heap.size, 2, none⟩ _) (.inr fun q => ?_)
            have := own_geS h _ q
            simp at this
            omega
      · have hcn : (ee == 0) = false := beq_eq_false_iff_ne.2 he
        have HNE := Lib.hid (show E i ≠ 0 by rw [← HEE.out]; exact he)
        clear he
        go_wp2_with fail
        refine CNi.out.mono ?_; rintro e w2 ⟨rfl, b2⟩
        have HB2 := Lib.hid (bel_of HB.out b2)
        have HR2 := Lib.hid (HR.out.below b2 rfl)
        have HEN := Lib.hid (And.intro (Below.set3 (b := w.heap.size + 1) HB2.out (Nat.le_succ _) (.slice none 0 0) (.string ⟨#[]⟩) (.int .i64 0)) (Three.set3 HR2.out (.slice none 0 0) (.string ⟨#[]⟩) (.int .i64 0)))
        clear b2 CNi q0 q1 q2 q3 q4 q5 q6
        obtain ⟨s0, s1, s2, s3, s4, s5, s6⟩ := HR2.out
        go_wp2
        have hen := HEN.out
        clear HEN
        generalize World.setCell _ _ _ = W3 at hen ⊢
        obtain ⟨h2, m0, m1, m2, m3, m4, m5, m6⟩ := hen
        exact bodyPost_ret (v := .tuple #[.slice none 0 0, .agg #[.slice none 0 0, .string ⟨#[]⟩, .int .i64 0], .int .i64 ee]) (by simp [results, Tryz.results13, go_sem, m0, m1, m2]) rfl (.inl ⟨i, hlt, HE.out, HNE.out, by rw [← HEE.out], h2⟩)
    · obtain rfl : i = c := by have := HY.out; omega
      obtain ⟨qd, cd, hvd, hsd, hqd⟩ := sv_of_ownsS HO.out
      subst hvd
      have HSD := Lib.hid hsd
      have HQD := Lib.hid hqd
      clear hsd hqd
      obtain ⟨u, hue⟩ : ∃ u : Int, u = ((t + i : Nat) : Int) := ⟨_, rfl⟩
      have CBi := Lib.hid (CB.out wr HVr.out HU.out)
      rw [← hue] at CBi
      have HUE := Lib.hid hue
      obtain ⟨q0, q1, q2, q3, q4, q5, q6⟩ := HT.out
      rw [← HUE.out] at q2
      clear hue
      go_wp2_with fail
      refine CBi.out.mono ?_; rintro e w2 ⟨g2, c2, rfl, hg2, hs2, b2⟩
      have HB2 := Lib.hid (bel_of HB.out b2)
      have HR2 := Lib.hid (HR.out.below b2 rfl)
      have HG := Lib.hid hg2
      have HSD2 := Lib.hid (HSD.out.below b2)
      have hlt2 : w.heap.size + 1 < wr.heap.size := HR.out.2.2.2.2.2.2
      have HEN := Lib.hid (And.intro (Below.set3 (b := w.heap.size + 1) HB2.out (Nat.le_succ _) (.slice (some ⟨g2, 0, none⟩) k c2) (.string S) (.int .i64 u)) (And.intro (hs2.set3 (b := w.heap.size + 1) (by have := hg2; omega) (.slice (some ⟨g2, 0, none⟩) k c2) (.string S) (.int .i64 u)) (And.intro (HSD2.out.away3 (b := w.heap.size + 1) (by rcases HQD.out with h | ⟨g, h, hg⟩; exact .inl h; exact .inr ⟨g, h, by omega⟩) (.slice (some ⟨g2, 0, none⟩) k c2) (.string S) (.int .i64 u)) (Three.set3 HR2.out (.slice (some ⟨g2, 0, none⟩) k c2) (.string S) (.int .i64 u)))))
      clear b2 CBi CB hs2 hg2 q0 q1 q2 q3 q4 q5 q6 hlt2
      obtain ⟨s0, s1, s2, s3, s4, s5, s6⟩ := HR2.out
      go_wp2
      have hen := HEN.out
      clear HEN
      generalize World.setCell _ _ _ = W3 at hen ⊢
      obtain ⟨h2, h3, h4, m0, m1, m2, m3, m4, m5, m6⟩ := hen
      exact bodyPost_ret (v := .tuple #[.slice qd i cd, .agg #[.slice (some ⟨g2, 0, none⟩) k c2, .string S, .int .i64 u], .int .i64 0]) (by simp [results, Tryz.results13, go_sem, m0, m1, m2]) rfl (.inr ⟨HE.out, _, _, _, _, by rw [← HUE.out], h4, h3, h2, by have := HG.out; have := HB.out.size; omega, by rcases HQD.out with h | ⟨g, h, hg⟩; exact .inl h; exact .inr ⟨g, h, by omega⟩⟩)
end Go.Proofs.YtehbbghobagkjaaGreatDoor


/-
  Contracts of package coins, the thirteenth part: the refusals of Many; what a coin is.
-/
namespace Go.Proofs.YtehbbghobagkjaaGreatDoor
open Go.RowKit Go.Deep
set_option linter.unusedVariables false

/-- A refusal of Many. -/
def NoMany (c : Int) (w : World) (e : Ending) (w' : World) : Prop :=
  e = .returned (.tuple #[.slice none 0 0, .agg #[.slice none 0 0, .string ⟨#[]⟩, .int .i64 0], .int .i64 c]) ∧ Below w.heap.size w w'
set_option maxHeartbeats 1000000 in
set_option maxRecDepth 100000 in
theorem many_bad (v : Value) (k : Nat) (f : Nat → ByteArray) (S : ByteArray) (t : Int) (n : ByteArray) (count : Int) (w : World) (hv : SV w v k f) (hk : k ≤ 9223372036854775807) {c : Int} (h : ChkT k f t n c) (hc : c ≠ 0) :
    Calls Tryz.prog 13 #[.agg #[v, .string S, .int .i64 t], .string n, .int .i64 count] w fun e w' => NoMany c w e w' := by
  have b1 := box2_below w (.cells #[v, .string S, .int .i64 t] 24) (.cells #[.slice none 0 0, .string ⟨#[]⟩, .int .i64 0] 24)
  obtain ⟨c', h', hcall⟩ := chk_any v k f S t n _ (hv.below b1) hk
  obtain rfl : c' = c := chkT_uniq h' h
  have CC := Lib.hid hcall
  have HB := Lib.hid b1
  have HT1 := Lib.hid (box2_second w (.slice none 0 0) (.string ⟨#[]⟩) (.int .i64 0) 24 (.cells #[v, .string S, .int .i64 t] 24))
  have hT0 := box2_first w v (.string S) (.int .i64 t) 24 (.cells #[.slice none 0 0, .string ⟨#[]⟩, .int .i64 0] 24)
  obtain ⟨p, cap, rfl, -⟩ := hv
  obtain ⟨q0, q1, q2, q3, q4, q5, q6⟩ := hT0
  clear hcall b1 h h'
  have hcn : (c' == 0) = false := beq_eq_false_iff_ne.2 hc
  go_enter Tryz.func13, Tryz.ntmps13
  go_wp2_with fail
  refine CC.out.mono ?_; rintro e w1 ⟨rfl, b1⟩
  obtain ⟨s0, s1, s2, s3, s4, s5, s6⟩ := HT1.out.below b1 rfl
  have HE := Lib.hid (And.intro (Below.set3 (b := w.heap.size + 1) (bel_of HB.out b1) (Nat.le_succ _) (.slice none 0 0) (.string ⟨#[]⟩) (.int .i64 0)) (Three.set3 (HT1.out.below b1 rfl) (.slice none 0 0) (.string ⟨#[]⟩) (.int .i64 0)))
  clear HB HT1 CC b1
  go_wp2
  have he := HE.out
  clear HE
  generalize World.setCell _ _ _ = W3 at he ⊢
  obtain ⟨h2, m0, m1, m2, m3, m4, m5, m6⟩ := he
  exact bodyPost_ret (v := .tuple #[.slice none 0 0, .agg #[.slice none 0 0, .string ⟨#[]⟩, .int .i64 0], .int .i64 c']) (by simp [results, Tryz.results13, go_sem, m0, m1, m2]) rfl ⟨rfl, h2⟩
set_option maxHeartbeats 1000000 in
set_option maxRecDepth 100000 in
theorem many_long (v : Value) (k : Nat) (f : Nat → ByteArray) (S : ByteArray) (t : Int) (n : ByteArray) (count : Int) (w : World) (hv : SV w v k f) (hk : k ≤ 9223372036854775807) (h : ChkT k f t n 0) (hc : count < 0 ∨ 4096 < count) :
    Calls Tryz.prog 13 #[.agg #[v, .string S, .int .i64 t], .string n, .int .i64 count] w fun e w' => NoMany 6 w e w' := by
  have b1 := box2_below w (.cells #[v, .string S, .int .i64 t] 24) (.cells #[.slice none 0 0, .string ⟨#[]⟩, .int .i64 0] 24)
  obtain ⟨c', h', hcall⟩ := chk_any v k f S t n _ (hv.below b1) hk
  obtain rfl : c' = 0 := chkT_uniq h' h
  have CC := Lib.hid hcall
  have HB := Lib.hid b1
  have HT1 := Lib.hid (box2_second w (.slice none 0 0) (.string ⟨#[]⟩) (.int .i64 0) 24 (.cells #[v, .string S, .int .i64 t] 24))
  have hT0 := box2_first w v (.string S) (.int .i64 t) 24 (.cells #[.slice none 0 0, .string ⟨#[]⟩, .int .i64 0] 24)
  obtain ⟨p, cap, rfl, -⟩ := hv
  obtain ⟨q0, q1, q2, q3, q4, q5, q6⟩ := hT0
  clear hcall b1 h h'
  by_cases h0 : count < 0
  · have hd := decide_eq_true h0
    clear hc
    go_enter Tryz.func13, Tryz.ntmps13
    go_wp2_with fail
    refine CC.out.mono ?_; rintro e w1 ⟨rfl, b1⟩
    obtain ⟨s0, s1, s2, s3, s4, s5, s6⟩ := HT1.out.below b1 rfl
    have HE := Lib.hid (And.intro (Below.set3 (b := w.heap.size + 1) (bel_of HB.out b1) (Nat.le_succ _) (.slice none 0 0) (.string ⟨#[]⟩) (.int .i64 0)) (Three.set3 (HT1.out.below b1 rfl) (.slice none 0 0) (.string ⟨#[]⟩) (.int .i64 0)))
    clear HB HT1 CC b1
    go_wp2
    have he := HE.out
    clear HE
    generalize World.setCell _ _ _ = W3 at he ⊢
    obtain ⟨h2, m0, m1, m2, m3, m4, m5, m6⟩ := he
    exact bodyPost_ret (v := .tuple #[.slice none 0 0, .agg #[.slice none 0 0, .string ⟨#[]⟩, .int .i64 0], .int .i64 6]) (by simp [results, Tryz.results13, go_sem, m0, m1, m2]) rfl ⟨rfl, h2⟩
  · have hd := decide_eq_false h0
    have h1 : (4096 : Int) < count := by omega
    have hd1 := decide_eq_true h1
    clear hc
    go_enter Tryz.func13, Tryz.ntmps13
    go_wp2_with fail
    refine CC.out.mono ?_; rintro e w1 ⟨rfl, b1⟩
    obtain ⟨s0, s1, s2, s3, s4, s5, s6⟩ := HT1.out.below b1 rfl
    have HE := Lib.hid (And.intro (Below.set3 (b := w.heap.size + 1) (bel_of HB.out b1) (Nat.le_succ _) (.slice none 0 0) (.string ⟨#[]⟩) (.int .i64 0)) (Three.set3 (HT1.out.below b1 rfl) (.slice none 0 0) (.string ⟨#[]⟩) (.int .i64 0)))
    clear HB HT1 CC b1
    go_wp2
    have he := HE.out
    clear HE
    generalize World.setCell _ _ _ = W3 at he ⊢
    obtain ⟨h2, m0, m1, m2, m3, m4, m5, m6⟩ := he
    exact bodyPost_ret (v := .tuple #[.slice none 0 0, .agg #[.slice none 0 0, .string ⟨#[]⟩, .int .i64 0], .int .i64 6]) (by simp [results, Tryz.results13, go_sem, m0, m1, m2]) rfl ⟨rfl, h2⟩
/-- A coin is below the bound, and canonical. -/
theorem firstN_below {S : List UInt8} {t n x : Nat} : ∀ (k a : Nat), firstN S t n a k = some x → x < n
  | 0, a, h => by cases h
  | k + 1, a, h => by
    unfold firstN at h
    split at h
    · rename_i hl; obtain rfl := Option.some.inj h; exact hl
    · exact firstN_below k (a + 1) h
theorem nextV_coin {k : Nat} {f : Nat → ByteArray} {S n x : ByteArray} {t : Nat} (hw : ∀ j, j < k → Can (f j)) (hn : Can n) (h : nextV k f S t n = .tuple #[.string x, .int .i64 0]) : Can x ∧ V x < V n := by
  unfold nextV at h
  by_cases h1 : t < k
  · rw [if_pos h1] at h
    by_cases h2 : V (f t) < V n
    · rw [if_pos h2] at h
      by_cases h3 : t = 2147483647
      · rw [if_pos h3] at h; simp at h
      · rw [if_neg h3] at h
        simp at h
        subst h
        exact ⟨hw t h1, h2⟩
    · rw [if_neg h2] at h; simp at h
  · rw [if_neg h1] at h
    by_cases h3 : t = 2147483647 ∨ S.size = 0
    · rw [if_pos h3] at h; simp at h
    · rw [if_neg h3] at h
      cases hx : firstN S.data.toList t (V n) 0 256 with
      | none => rw [hx] at h; simp [FBv] at h
      | some y =>
        rw [hx] at h
        have hy := firstN_below 256 0 hx
        simp [FBv] at h
        subst h
        exact ⟨can_E' (by have := V_lim hn; omega), by rw [V_E]; exact hy⟩
theorem many_uniq {c k : Nat} {f X : Nat → ByteArray} {S : ByteArray} {t : Int} {E : Nat → Int} {w1 w1' w2 w2' : World} {e e' : Ending} (h : ManyNo c E w1 e w1') (h' : ManyP c k f X S t E w2 e' w2') : e' = e ∧ Below w2.heap.size w2 w2' := by
  obtain ⟨i, hi, h0, hne, rfl, -⟩ := h
  rcases h' with ⟨j, hj, g0, gne, rfl, b⟩ | ⟨g0, -⟩
  · obtain rfl : i = j := by
      rcases Nat.lt_trichotomy i j with q | q | q
      · exact absurd (g0 i q) hne
      · exact q
      · exact absurd (h0 j q) gne
    exact ⟨rfl, b⟩
  · exact absurd (g0 i hi) hne
theorem many_okc {c k : Nat} {f X : Nat → ByteArray} {S : ByteArray} {t : Int} {E : Nat → Int} {w2 w2' : World} {e' : Ending} (h : ∀ j, j < c → E j = 0) (h' : ManyP c k f X S t E w2 e' w2') : ManyOk c k f X S t E w2 e' w2' := by
  rcases h' with ⟨j, hj, g0, gne, -⟩ | h'
  · exact absurd (h j hj) gne
  · exact h'
end Go.Proofs.YtehbbghobagkjaaGreatDoor

