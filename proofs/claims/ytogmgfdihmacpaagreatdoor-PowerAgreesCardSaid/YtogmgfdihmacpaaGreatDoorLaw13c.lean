/-
  Layer 13's statements: Products; lists of integers that come in.
-/
import Derived.Test.YtogmgfdihmacpaaGreatDoorLaw13b
import Derived.Deep.SlicePairs
namespace Go.Proofs.YtogmgfdihmacpaaGreatDoor
open Go.RowKit Go.Deep
set_option linter.unusedVariables false

theorem add_oneP (x : Addr) : x.add 1 = ⟨x.block, x.off + 1, none⟩ := by unfold Addr.add; simp
/-- A slice of integers that came in, opened. -/
theorem iv_open {H : Type} {enc : TypeId × Value → H} {P : Program} {w : World} {base : Nat} {spare : Nat → Bool} {held : Bool} {t e : TypeId} {f0 f1 : Field} {fuel : Nat} {v : Value} {x : DataW H × List MemPlace}
    (ht : P.underlying t = some (.slice e)) (he : P.underlying e = some (.struct #[f0, f1])) (ce : P.cellsOf e = 2) (o0 : f0.offset = 0) (o1 : f1.offset = 1) (c0 : P.cellsOf f0.type = 1) (c1 : P.cellsOf f1.type = 1)
    (hb : P.underlying f0.type = some .bool) (hs : P.underlying f1.type = some .string) (h : DataW.trod enc P w base spare held fuel t [v] = some x) :
    ∃ (k : Nat) (ng : Nat → Bool) (s : Nat → ByteArray), IVs w v k ng s ∧ k ≤ maxLen ∧ ∀ j, j < k → (s j).size ≤ maxLen := by
  rcases open_slice_pairs ht he ce o0 o1 c0 c1 h with ⟨hcs, -⟩ | ⟨a, len, cap, m, n, V0, V1, D0, D1, P0, P1, hcs, -, hl, hm, hmm, -, hc⟩
  · cases hcs
    exact ⟨0, fun _ => false, fun _ => ⟨#[]⟩, ⟨none, 0, rfl, fun j hj => absurd hj (by omega)⟩, Nat.zero_le _, fun j hj => absurd hj (by omega)⟩
  · cases hcs
    have hlm : len ≤ m := by rw [hmm]; split <;> omega
    have hx : ∀ i, i < len → ∃ q : Bool × ByteArray, V0 i = .bool q.1 ∧ V1 i = .string q.2 ∧ q.2.size ≤ maxLen := by
      intro i hi
      obtain ⟨-, -, h0, h1⟩ := hc i (by omega)
      obtain ⟨g, e0, -⟩ := DataW.trod_bool hb h0
      obtain ⟨y, e1, -, hy⟩ := DataW.trod_string hs h1
      simp at e0 e1
      exact ⟨(g, y), e0, e1, hy⟩
    obtain ⟨q, hq⟩ := choose_lt hx
    refine ⟨len, fun i => (q i).1, fun i => (q i).2, ⟨some a, cap, rfl, fun j hj => ?_⟩, by omega, fun j hj => (hq j hj).2.2⟩
    obtain ⟨h0, h1, -, -⟩ := hc j (by omega)
    rw [(hq j hj).1] at h0
    rw [(hq j hj).2.1] at h1
    exact ⟨a, rfl, by have := cell_ltP h0; rwa [add_blk] at this, h0, h1⟩
/-- Small (layer 13's word). -/
def FewP13 (M Q : ByteArray) (k1 : Nat) (f : Nat → ByteArray) (k2 : Nat) (s : Nat → ByteArray) : Prop := (∀ j, j < k2 → (s j).size ≤ 20) ∧ k1 ≤ 8 ∧ k2 ≤ 8 ∧ FewG M Q k1 f
set_option maxHeartbeats 4000000 in
set_option maxRecDepth 100000 in
theorem few13_any (v1 v2 : Value) (k1 k2 : Nat) (f : Nat → ByteArray) (ng : Nat → Bool) (s : Nat → ByteArray) (M Q : ByteArray) (w : World) (h1 : SV w v1 k1 f) (h2 : IVs w v2 k2 ng s) (hk1 : k1 ≤ 9223372036854775807) (hk2 : k2 ≤ 9223372036854775807) (hM : M.size ≤ 9223372036854775807) (hQ : Q.size ≤ 9223372036854775807) (hfs : ∀ j, j < k1 → (f j).size ≤ 9223372036854775807) (hss : ∀ j, j < k2 → (s j).size ≤ 9223372036854775807) :
    Calls Tryz.prog 21 #[.agg #[.string M, .string Q], v1, v2] w fun e w' => YnP (FewP13 M Q k1 f k2 s) w e w' := by
  have H1 := Lib.hid h1
  have H2 := Lib.hid h2
  obtain ⟨p1, cap1, rfl, -⟩ := h1
  obtain ⟨p2, cap2, rfl, -⟩ := h2
  have G := Lib.hid (Two.new w (.string M) (.string Q) 24 _ rfl)
  obtain ⟨q1, q2, q3, q4, q5⟩ := G.out
  have K := Lib.hid (belA w (.cells #[.string M, .string Q] 24))
  have HSS := Lib.hid hss
  have CF := Lib.hid (fun W (hV : SV W (.slice p1 k1 cap1) k1 f) => few9_any (.slice p1 k1 cap1) k1 f M Q W hV hk1 hM hQ hfs)
  clear hss hfs
  go_enter Tryz.func21, Tryz.ntmps21
  go_wp2
  generalize World.alloc w _ = W at *
  go_loop [7] (fun x => ∃ i : Nat, i ≤ k2 ∧ i ≤ 10 ∧ x = .int .i64 i ∧ Hid (∀ j, j < i → (s j).size ≤ 20)) (fun x => 10 - (intOf x).toNat)
  case atStart => exact ⟨0, by omega, by omega, rfl, fun j hj => absurd hj (by omega)⟩
  case round =>
    obtain ⟨i, hi, hi10, rfl, HI⟩ := hrel
    by_cases hlt : i < k2
    · have hlti : (i : Int) < (k2 : Int) := by omega
      have hd1 : decide ((i : Int) < (k2 : Int)) = true := decide_eq_true hlti
      by_cases h10 : i < 10
      · have hd2 : decide ((i : Int) < 10) = true := decide_eq_true (by omega)
        obtain ⟨a2, rfl, hc0, hc1⟩ := ivAt H2.out K.out hlt
        have hc2 : W.cell? ((a2.add (i * 2)).add 1) = some (.string (s i)) := by rw [add_oneP]; exact hc1
        have hsz := HSS.out i hlt
        by_cases hs : (s i).size ≤ 20
        · have HN := Lib.hid (few_up HI.out hs)
          have hd : decide ((20 : Int) < (s i).size) = false := decide_eq_false (by omega)
          have hd3 : ¬ (20 : Int) < (s i).size := by omega
          go_wp2
          go_round
          case rel => exact ⟨i + 1, by omega, by omega, by go_num, HN.out⟩
          case measure => simp [intOf]; omega
        · have hd : decide ((20 : Int) < (s i).size) = true := decide_eq_true (by omega)
          have hd3 : (20 : Int) < (s i).size := by omega
          have HR := Lib.hid (fun (q : FewP13 M Q k1 f k2 s) => hs (q.1 i hlt))
          go_wp2
          go_ret
          exact YnP.mk_f HR.out K.out
      · obtain rfl : i = 10 := by omega
        have hd2 : decide (((10 : Nat) : Int) < 10) = false := rfl
        have hd3 : decide ((k2 : Int) ≤ 8) = false := decide_eq_false (by omega)
        have HR := Lib.hid (show ¬ FewP13 M Q k1 f k2 s from fun q => absurd q.2.2.1 (by omega))
        by_cases h8 : k1 ≤ 8
        · have hd4 : decide ((k1 : Int) ≤ 8) = true := decide_eq_true (by omega)
          go_wp2
          go_ret
          exact YnP.mk_f HR.out K.out
        · have hd4 : decide ((k1 : Int) ≤ 8) = false := decide_eq_false (by omega)
          go_wp2
          go_ret
          exact YnP.mk_f HR.out K.out
    · obtain rfl : i = k2 := by omega
      have hd1 : decide ((i : Int) < (i : Int)) = false := decide_eq_false (by omega)
      by_cases h8 : k1 ≤ 8
      · have hd4 : decide ((k1 : Int) ≤ 8) = true := decide_eq_true (by omega)
        by_cases h9 : i ≤ 8
        · have hd3 : decide ((i : Int) ≤ 8) = true := decide_eq_true (by omega)
          by_cases hf : FewG M Q k1 f
          · have CT := Lib.hid (fun W hV => (CF.out W hV).mono fun _ _ q => q.yes hf)
            have HR := Lib.hid (show FewP13 M Q k1 f i s from ⟨HI.out, h8, h9, hf⟩)
            clear hf HI
            go_wp2_with fail
            refine (CT.out _ (H1.out.below K.out)).mono ?_; rintro e w2 ⟨rfl, b2⟩
            have K := Lib.hid (belP K.out b2)
            have G := Lib.hid (G.out.below b2 rfl)
            clear b2 q1 q2 q3 q4 q5
            obtain ⟨q1, q2, q3, q4, q5⟩ := G.out
            go_wp2
            go_ret
            exact YnP.mk_t HR.out K.out
          · have CT := Lib.hid (fun W hV => (CF.out W hV).mono fun _ _ q => q.no hf)
            have HR := Lib.hid (fun (q : FewP13 M Q k1 f i s) => hf q.2.2.2)
            clear hf HI
            go_wp2_with fail
            refine (CT.out _ (H1.out.below K.out)).mono ?_; rintro e w2 ⟨rfl, b2⟩
            have K := Lib.hid (belP K.out b2)
            have G := Lib.hid (G.out.below b2 rfl)
            clear b2 q1 q2 q3 q4 q5
            obtain ⟨q1, q2, q3, q4, q5⟩ := G.out
            go_wp2
            go_ret
            exact YnP.mk_f HR.out K.out
        · have hd3 : decide ((i : Int) ≤ 8) = false := decide_eq_false (by omega)
          have HR := Lib.hid (fun (q : FewP13 M Q k1 f i s) => h9 q.2.2.1)
          go_wp2
          go_ret
          exact YnP.mk_f HR.out K.out
      · have hd4 : decide ((k1 : Int) ≤ 8) = false := decide_eq_false (by omega)
        have HR := Lib.hid (fun (q : FewP13 M Q k1 f i s) => h8 q.2.1)
        go_wp2
        go_ret
        exact YnP.mk_f HR.out K.out
set_option maxHeartbeats 4000000 in
set_option maxRecDepth 100000 in
theorem law_PowerProducts (M Q : ByteArray) (v1 : Value) (k1 : Nat) (f : Nat → ByteArray) (v2 : Value) (k2 : Nat) (ng : Nat → Bool) (s : Nat → ByteArray) (lM : M.size ≤ maxLen) (lQ : Q.size ≤ maxLen) (w : World) (h1 : SV w v1 k1 f) (hk1 : k1 ≤ maxLen) (hz1 : ∀ j, j < k1 → (f j).size ≤ maxLen) (h2 : IVs w v2 k2 ng s) (hk2 : k2 ≤ maxLen) (hz2 : ∀ j, j < k2 → (s j).size ≤ maxLen) :
    Calls Tryz.prog 6 #[.agg #[.string M, .string Q], v1, v2] w fun e w' => e = .returned (.bool true) ∧ Below w.heap.size w w' := by
  unfold maxLen at lM lQ hk1 hk2 hz1 hz2
  have H1 := Lib.hid h1
  have H2 := Lib.hid h2
  have CF := Lib.hid (fun W (hV1 : SV W v1 k1 f) (hV2 : IVs W v2 k2 ng s) => few13_any v1 v2 k1 k2 f ng s M Q W hV1 hV2 (by omega) (by omega) (by omega) (by omega) hz1 hz2)
  have C1 := Lib.hid (fun W (hV1 : SV W v1 k1 f) (hV2 : IVs W v2 k2 ng s) (hs1 : k1 ≤ 8) (hs2 : k2 ≤ 8) => pwprod_any M Q v1 v2 k1 k2 f ng s W hV1 hV2 (by omega) (by omega))
  have C2 := Lib.hid (fun W (hV1 : SV W v1 k1 f) (hV2 : IVs W v2 k2 ng s) (hs1 : k1 ≤ 8) (hs2 : k2 ≤ 8) (hs : M.size ≤ 8) => r13prod_any M Q v1 v2 k1 k2 f ng s W (by omega) hV1 hV2 (by omega) (by omega))
  obtain ⟨⟨S, c⟩, hc⟩ : ∃ c, c = prodG M Q k1 f k2 ng s := ⟨_, rfl⟩
  rw [← hc] at C1 C2
  have hcc : (c == c) = true := by simp
  obtain ⟨p1, cap1, rfl, -⟩ := h1
  obtain ⟨p2, cap2, rfl, -⟩ := h2
  have G := Lib.hid (Two.new w (.string M) (.string Q) 24 _ rfl)
  have K := Lib.hid (belA w (.cells #[.string M, .string Q] 24))
  obtain ⟨q1, q2, q3, q4, q5⟩ := G.out
  clear hc hz1 hz2
  by_cases hf : FewP13 M Q k1 f k2 s
  · have CT := Lib.hid (fun W h1 h2 => (CF.out W h1 h2).mono fun _ _ q => q.yes hf)
    have D1 := Lib.hid (fun W h1 h2 => C1.out W h1 h2 hf.2.1 hf.2.2.1)
    have D2 := Lib.hid (fun W h1 h2 => C2.out W h1 h2 hf.2.1 hf.2.2.1 hf.2.2.2.2.1)
    clear hf
    go_enter Tryz.func6, Tryz.ntmps6
    go_wp2_with fail
    refine (CT.out _ (H1.out.below K.out) (H2.out.below K.out)).mono ?_; rintro e w1 ⟨rfl, b1⟩
    have K := Lib.hid (belP K.out b1)
    have G := Lib.hid (G.out.below b1 rfl)
    clear b1 q1 q2 q3 q4 q5
    obtain ⟨q1, q2, q3, q4, q5⟩ := G.out
    go_wp2_with fail
    refine (D1.out _ (H1.out.below K.out) (H2.out.below K.out)).mono ?_; rintro e w2 ⟨rfl, b2⟩
    have K := Lib.hid (belP K.out b2)
    have G := Lib.hid (G.out.below b2 rfl)
    clear b2 q1 q2 q3 q4 q5
    obtain ⟨q1, q2, q3, q4, q5⟩ := G.out
    go_wp2_with fail
    refine (D2.out _ (H1.out.below K.out) (H2.out.below K.out)).mono ?_; rintro e w3 ⟨rfl, b3⟩
    have K := Lib.hid (belP K.out b3)
    have G := Lib.hid (G.out.below b3 rfl)
    clear b3 q1 q2 q3 q4 q5
    obtain ⟨q1, q2, q3, q4, q5⟩ := G.out
    go_wp2_with fail
    refine (awake13 _).mono ?_; rintro e w4 ⟨rfl, b4⟩
    have K := Lib.hid (belP K.out b4)
    have G := Lib.hid (G.out.below b4 rfl)
    clear b4 q1 q2 q3 q4 q5
    obtain ⟨q1, q2, q3, q4, q5⟩ := G.out
    go_wp2
    go_ret
    exact ⟨rfl, K.out⟩
  · have CT := Lib.hid (fun W h1 h2 => (CF.out W h1 h2).mono fun _ _ q => q.no hf)
    clear hf
    go_enter Tryz.func6, Tryz.ntmps6
    go_wp2_with fail
    refine (CT.out _ (H1.out.below K.out) (H2.out.below K.out)).mono ?_; rintro e w1 ⟨rfl, b1⟩
    have K := Lib.hid (belP K.out b1)
    have G := Lib.hid (G.out.below b1 rfl)
    clear b1 q1 q2 q3 q4 q5
    obtain ⟨q1, q2, q3, q4, q5⟩ := G.out
    go_wp2_with fail
    refine (awake13 _).mono ?_; rintro e w4 ⟨rfl, b4⟩
    have K := Lib.hid (belP K.out b4)
    have G := Lib.hid (G.out.below b4 rfl)
    clear b4 q1 q2 q3 q4 q5
    obtain ⟨q1, q2, q3, q4, q5⟩ := G.out
    go_wp2
    go_ret
    exact ⟨rfl, K.out⟩
end Go.Proofs.YtogmgfdihmacpaaGreatDoor
