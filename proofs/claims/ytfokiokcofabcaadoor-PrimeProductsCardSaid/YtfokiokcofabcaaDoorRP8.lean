/-
  The reference of layer 4, the eighth part: Factors.
-/
import Derived.Test.YtfokiokcofabcaaDoorRP7
namespace Go.Proofs.YtfokiokcofabcaaDoor
open Go.RowKit Go.Deep
set_option linter.unusedVariables false

/-- The slice v holds the strings f 0 .. f (k - 1). -/
def StrsV (w : World) (v : Value) (k : Nat) (f : Nat → ByteArray) : Prop :=
  ∃ p cap, v = .slice p k cap ∧ ∀ j, j < k → ∃ g, p = some ⟨g, 0, none⟩ ∧ g < w.heap.size ∧ w.cell? ⟨g, j, none⟩ = some (.string (f j))
/-- The slice v holds the numbers f 0 .. f (k - 1). -/
def NumsV (w : World) (v : Value) (k : Nat) (f : Nat → Nat) : Prop :=
  ∃ p cap, v = .slice p k cap ∧ ∀ j, j < k → ∃ g, p = some ⟨g, 0, none⟩ ∧ g < w.heap.size ∧ w.cell? ⟨g, j, none⟩ = some (.int .u64 (f j : Nat))
theorem own_get {w : World} {base e n : Nat} {v : Value} {xs : List Value} (h : w.ownsRow base e 1 v n xs) :
    ∃ p cap, v = .slice p n cap ∧ ∀ j, j < n → ∃ g, p = some ⟨g, 0, none⟩ ∧ g < w.heap.size ∧ w.cell? ⟨g, j, none⟩ = xs[j]? := by
  have h0 := h
  obtain ⟨h1, ⟨rfl, h2⟩ | ⟨g, cap, cur, h3, h4, h5, h6⟩⟩ := h
  · subst h2; exact ⟨none, 0, rfl, fun j hj => absurd hj (by omega)⟩
  · subst h3
    exact ⟨_, cap, rfl, fun j hj => ⟨g, rfl, (Array.getElem?_eq_some_iff.1 h5).1, h0.cellAt j (by omega)⟩⟩
theorem own_nums {w : World} {base e : Nat} {v : Value} {L : List Nat} (h : w.ownsRow base e 1 v L.length (u64s L)) : NumsV w v L.length (fun j => L.getD j 0) := by
  obtain ⟨p, cap, rfl, hc⟩ := own_get h
  refine ⟨p, cap, rfl, fun j hj => ?_⟩
  obtain ⟨g, e1, e2, e3⟩ := hc j hj
  refine ⟨g, e1, e2, ?_⟩
  rw [e3]
  simp [u64s, List.getD, hj]
theorem own_strs {w : World} {base e : Nat} {v : Value} {L : List Nat} (h : w.ownsRow base e 1 v L.length (nats L)) : StrsV w v L.length (fun j => E (L.getD j 0)) := by
  obtain ⟨p, cap, rfl, hc⟩ := own_get h
  refine ⟨p, cap, rfl, fun j hj => ?_⟩
  obtain ⟨g, e1, e2, e3⟩ := hc j hj
  refine ⟨g, e1, e2, ?_⟩
  rw [e3]
  simp [nats, List.getD, hj]
theorem StrsV.below {w w' : World} {v : Value} {k : Nat} {f : Nat → ByteArray} (h : StrsV w v k f) (b : Below w.heap.size w w') : StrsV w' v k f := by
  obtain ⟨p, cap, e, hc⟩ := h
  refine ⟨p, cap, e, fun j hj => ?_⟩
  obtain ⟨g, e1, e2, e3⟩ := hc j hj
  exact ⟨g, e1, Nat.lt_of_lt_of_le e2 b.size, (b.cell (p := ⟨g, j, none⟩) e2).trans e3⟩
theorem NumsV.below {w w' : World} {v : Value} {k : Nat} {f : Nat → Nat} (h : NumsV w v k f) (b : Below w.heap.size w w') : NumsV w' v k f := by
  obtain ⟨p, cap, e, hc⟩ := h
  refine ⟨p, cap, e, fun j hj => ?_⟩
  obtain ⟨g, e1, e2, e3⟩ := hc j hj
  exact ⟨g, e1, Nat.lt_of_lt_of_le e2 b.size, (b.cell (p := ⟨g, j, none⟩) e2).trans e3⟩
theorem take_snoc4 {L : List Nat} {i : Nat} (h : i < L.length) : L.take (i + 1) = L.take i ++ [L.getD i 0] := by
  rw [List.take_succ_eq_append_getElem h, List.getD_eq_getElem?_getD, List.getElem?_eq_getElem h, Option.getD_some]
theorem facs_lt {n : Nat} (h0 : 0 < n) {i : Nat} (h : i < (QR.facs n).length) : (QR.facs n).getD i 0 ≤ n := by
  rw [List.getD_eq_getElem?_getD, List.getElem?_eq_getElem h, Option.getD_some]
  exact ((QR.facs_spec h0).2.1 _ (List.getElem_mem h)).2
/-- What Factors answers. -/
def FacP (n : Nat) (w : World) (e : Ending) (w' : World) : Prop :=
  ∃ v, e = .returned (.tuple #[v, .int .i64 0]) ∧ StrsV w' v (QR.facs n).length (fun j => E ((QR.facs n).getD j 0)) ∧ Below w.heap.size w w'
def RFacR (L : List Nat) (w w1 : World) (y : Nat) (vo vi : Value) (wr : World) : Prop :=
  ∃ i : Nat, i + y = L.length ∧ vi = .int .i64 i ∧ wr.ownsRow w1.heap.size 22 1 vo i (nats (L.take i)) ∧ Below w1.heap.size w1 wr

theorem rfac_form (s : ByteArray) (w : World) (h : ¬ Can s) :
    Calls Tryd.prog 25 #[.string s] w fun e w' => e = .returned (.tuple #[.slice none 0 0, .int .i64 3]) ∧ w = w' := by
  have HC := Lib.hid h; clear h
  go_enter Tryd.func25, Tryd.ntmps25
  go_wp2_with fail
  refine (formed4_no s _ HC.out).mono ?_; rintro e w' ⟨rfl, rfl⟩
  go_wp2
  go_ret2
  exact ⟨rfl, rfl⟩
theorem rfac_zero (s : ByteArray) (w : World) (h : Can s) (h0 : s.size = 0) :
    Calls Tryd.prog 25 #[.string s] w fun e w' => e = .returned (.tuple #[.slice none 0 0, .int .i64 11]) ∧ w = w' := by
  have HC := Lib.hid h; clear h
  have hE := empty_of h0
  clear h0
  go_enter Tryd.func25, Tryd.ntmps25
  go_wp2_with fail
  refine (formed4_yes s _ HC.out).mono ?_; rintro e w' ⟨rfl, rfl⟩
  go_wp2
  go_ret2
  exact ⟨rfl, rfl⟩
theorem rfac_long (s : ByteArray) (w : World) (h : Can s) (h8 : ¬ s.size ≤ 8) :
    Calls Tryd.prog 25 #[.string s] w fun e w' => e = .returned (.tuple #[.slice none 0 0, .int .i64 5]) ∧ w = w' := by
  have HC := Lib.hid h; clear h
  have hE := not_empty_of (s := s) (by omega)
  have H8 := Lib.hid h8; clear h8
  go_enter Tryd.func25, Tryd.ntmps25
  go_wp2_with fail
  refine (formed4_yes s _ HC.out).mono ?_; rintro e w' ⟨rfl, rfl⟩
  go_wp2_with fail
  refine (ru4_long s _ H8.out HC.out.1).mono ?_; rintro e w' ⟨⟨x, rfl⟩, rfl⟩
  go_wp2
  go_ret2
  exact ⟨rfl, rfl⟩
theorem rfac_big (n : Nat) (w : World) (h : ¬ n < 1099511627776) (hn : n < 18446744073709551616) :
    Calls Tryd.prog 25 #[.string (E n)] w fun e w' => e = .returned (.tuple #[.slice none 0 0, .int .i64 5]) ∧ w = w' := by
  have HS := Lib.hid (smallP hn); clear hn
  have hE := not_empty_of (E_size_ne (n := n) (by omega))
  have hi : (1099511627776 : Int) ≤ (n : Int) := by omega
  clear h
  go_enter Tryd.func25, Tryd.ntmps25
  go_wp2_with fail
  refine (formed4_yes _ _ HS.out.1).mono ?_; rintro e w' ⟨rfl, rfl⟩
  go_wp2_with fail
  refine (ru4_yes _ _ HS.out.2).mono ?_; rintro e w' ⟨rfl, rfl⟩
  rw [V_E]
  go_wp2
  go_ret2
  exact ⟨rfl, rfl⟩
set_option maxHeartbeats 2000000 in
set_option maxRecDepth 20000 in
theorem rfac_yes (n : Nat) (w : World) (h0 : 0 < n) (hn : n < 1099511627776) :
    Calls Tryd.prog 25 #[.string (E n)] w fun e w' => FacP n w e w' := by
  have HS := Lib.hid (smallP (n := n) (by omega))
  have hE := not_empty_of (E_size_ne (n := n) (by omega))
  have hi : ¬ (1099511627776 : Int) ≤ (n : Int) := by omega
  have HN := Lib.hid hn
  have H0 := Lib.hid h0
  obtain ⟨i0, hi0, hz0, hz1, hz2⟩ := info_parts Tryd.finfo22
  clear h0 hn
  go_enter Tryd.func25, Tryd.ntmps25
  go_wp2_with fail
  refine (formed4_yes _ _ HS.out.1).mono ?_; rintro e w' ⟨rfl, rfl⟩
  go_wp2_with fail
  refine (ru4_yes _ _ HS.out.2).mono ?_; rintro e w' ⟨rfl, rfl⟩
  rw [V_E]
  generalize hK : (1099511627776 : Int) = K at *
  clear hK
  go_wp2_with fail
  refine (rfactU_any n _ H0.out HN.out).mono ?_; rintro e w1 ⟨v, rfl, hown, b1⟩
  have hnv := own_nums hown
  clear hown hi hE
  have hlen := facs40 (pre := QR.facs n) (suf := []) H0.out HN.out (by simp)
  have hlt := fun i (h : i < (QR.facs n).length) => facs_lt H0.out h
  have HFL := Lib.hid hlt; clear hlt
  obtain ⟨L, hL⟩ : ∃ L, L = QR.facs n := ⟨_, rfl⟩
  rw [← hL] at hnv hlen HFL
  have HL := Lib.hid hL; clear hL
  obtain ⟨p, cap, rfl, hcells⟩ := hnv
  have HC := Lib.hid hcells; clear hcells
  have B1 := Lib.hid b1; clear b1
  go_wp2
  go_loopg [7, 8] L.length (fun y vo vi wr => RFacR L w w1 y vo vi wr)
  case atStart => exact ⟨0, by omega, rfl, World.ownsRow_nil _ _ _ _, Below.refl _ _⟩
  case round =>
    obtain ⟨i, hiy, rfl, hown, hbel⟩ := hrel
    by_cases hlt : i < L.length
    · obtain ⟨g, rfl, hg, hcell0⟩ := HC.out i hlt
      have hcell := (hbel.cell (p := ⟨g, i, none⟩) hg).trans hcell0
      have hxl := HFL.out i hlt
      have HT := Lib.hid (take_snoc4 hlt)
      obtain ⟨x, hx⟩ : ∃ x, x = L.getD i 0 := ⟨_, rfl⟩
      simp only [← hx] at hcell hxl
      rw [← hx] at HT
      have HX := Lib.hid (show x < 18446744073709551616 by have := HN.out; omega)
      clear hx hcell0 hxl
      have HO := Lib.hid hown; clear hown
      have HB := Lib.hid hbel; clear hbel
      have hlti : (i : Int) < (L.length : Int) := by omega
      go_wp2_with fail
      refine (rof4_any x _ HX.out).mono ?_; rintro e w2 ⟨rfl, b2⟩
      have hB2 := Lib.hid (bnext HB.out b2)
      have hown2 := own_below HO.out b2
      clear b2
      go_wp2_with (at_builtin; refine wpList_append_own _ rfl _ _ 47 rfl w1.heap.size 22 i0 (.string ⟨#[]⟩) 1 16 Tryd.fund47 hi0 hz0 hz1 hz2 rfl (by decide) _ _ _ rfl (hown2.alloc _) ⟨w2.heap.size, 0, none⟩ 1 1 [.string (E x)] rfl rfl (one_cells _ _ _) (by simp [Value.oneCell']) (by unfold maxLen; omega) (by omega) (by have := hB2.out.size; simp; omega) ?_)
      intro v' w3 hown' hgrow _
      rw [nats_snoc, ← HT.out] at hown'
      have HO' := Lib.hid hown'
      have HB' := Lib.hid ((hB2.out.alloc hB2.out.size _).grown hgrow (by have := hB2.out.size; simp; omega) (own_ge hown2))
      clear hown' hgrow hown2
      go_wp2
      go_roundg (L.length - (i + 1))
      case measure => omega
      case rel => exact ⟨i + 1, by omega, by go_num, HO'.out, HB'.out⟩
    · obtain rfl : i = L.length := by omega
      rw [List.take_length] at hown
      have HO := Lib.hid (own_strs hown); clear hown
      have HB := Lib.hid (bnext B1.out hbel); clear hbel
      go_wp2
      go_ret2
      exact ⟨_, rfl, by rw [← HL.out]; exact HO.out, HB.out⟩
end Go.Proofs.YtfokiokcofabcaaDoor
