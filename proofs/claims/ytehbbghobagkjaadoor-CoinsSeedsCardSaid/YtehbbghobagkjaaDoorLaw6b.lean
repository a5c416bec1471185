/-
  Layer 6's statements: CoinsSpread.
-/
import Derived.Test.YtehbbghobagkjaaDoorLaw6a
import Derived.Deep.LoopGhost
import Derived.OpenShut
namespace Go.Proofs.YtehbbghobagkjaaDoor
open Go.RowKit Go.Deep
set_option linter.unusedVariables false

/-- One value. -/
def fE (i : Nat) (_ : Nat) : ByteArray := E i
theorem svE (i : Nat) (w : World) : SV (w.alloc (.cells #[.string (E i)] 33)) (.slice (some ⟨w.heap.size, 0, none⟩) 1 1) 1 (fE i) :=
  SV.of_row (t := 33) (by
    rw [show (svC 1 (fE i)).toArray = #[.string (E i)] from rfl]
    exact heap_alloc_last w _)
theorem wfE {i : Nat} (h : i < 18446744073709551616) : WF 1 (fE i) ((0 : Nat) : Int) := ⟨fun j _ => small_can h, by omega, by omega⟩
theorem spread_yes (i n : Nat) (z : Int) (hz : z = (i : Int) - (n : Int) + 1) (hn : 0 < n) (hn2 : n ≤ 40) (hi : i < 2 * n - 1) (v : Value) (w : World) (hv : SV w v 1 (fE i)) (htab : TabW w) :
    Calls Tryd.prog 22 #[.agg #[v, .string ⟨#[]⟩, .int .i64 0], .string (E n)] w fun e w' => SignP (ZG z) (ZS z) 1 (fE i) ⟨#[]⟩ 1 w e w' := by
  have h := signed_some v 1 (fE i) ⟨#[]⟩ 0 (E n) w hv (by omega) (wfE (by omega)) (small_can (by omega)) (small_size (by omega) hn) (by show 0 ≤ _; omega) htab
    (by rw [V_E]; exact small_lim (by omega)) (x := E i) (by
      rw [V_E]
      unfold nextV
      rw [if_pos (by omega), if_pos (by rw [show fE i 0 = E i from rfl, V_E, V_E]; omega), if_neg (by omega)]
      rfl) (small_can (by omega))
  rw [V_E, V_E, show (i : Int) - ((n - 1 : Nat) : Int) = z by omega] at h
  exact h
theorem spread_no (i n : Nat) (hn : 0 < n) (hn2 : n ≤ 40) (hi : i = 2 * n - 1) (v : Value) (w : World) (hv : SV w v 1 (fE i)) (htab : TabW w) :
    Calls Tryd.prog 22 #[.agg #[v, .string ⟨#[]⟩, .int .i64 0], .string (E n)] w fun e w' => NoSigned 2 w e w' :=
  signed_none v 1 (fE i) ⟨#[]⟩ 0 (E n) w hv (by omega) (wfE (by omega)) (small_can (by omega)) (small_size (by omega) hn) (by show 0 ≤ _; omega) htab
    (by rw [V_E]; exact small_lim (by omega)) (x := ⟨#[]⟩) (by
      rw [V_E]
      unfold nextV
      rw [if_pos (by omega), if_neg (by rw [show fE i 0 = E i from rfl, V_E, V_E]; omega)]) (by omega)
/-- The letter of the seed. -/
def sdB : ByteArray := ⟨#[115]⟩
theorem spread_zero (w : World) : Calls Tryd.prog 22 #[.agg #[.slice none 0 0, .string sdB, .int .i64 0], .string ⟨#[]⟩] w fun e w' => NoSigned 11 w e w' :=
  signed_bad _ 0 f0 sdB 0 ⟨#[]⟩ w (SV.nil w f0) (by omega) (.inr (.inl ⟨rfl, wfS, small_can (n := 0) (by omega), rfl⟩)) (by omega)
theorem k62 {w a b : World} {g : Nat} {c0 c1 : Value} (b99 : Below a.heap.size a b) (h : a.cell? ⟨g, 0, none⟩ = some c0 ∧ a.cell? ⟨g, 1, none⟩ = some c1 ∧ Below w.heap.size w a) :
    b.cell? ⟨g, 0, none⟩ = some c0 ∧ b.cell? ⟨g, 1, none⟩ = some c1 ∧ Below w.heap.size w b := ⟨kc6 b99 h.1, kc6 b99 h.2.1, bel_of h.2.2 b99⟩
theorem k62d {w a : World} {g : Nat} {c0 c1 : Value} (h : a.cell? ⟨g, 0, none⟩ = some c0 ∧ a.cell? ⟨g, 1, none⟩ = some c1 ∧ Below w.heap.size w a) :
    a.drew.cell? ⟨g, 0, none⟩ = some c0 ∧ a.drew.cell? ⟨g, 1, none⟩ = some c1 ∧ Below w.heap.size w a.drew := ⟨h.1, h.2.1, h.2.2.drew⟩
theorem k62l {w a : World} {g : Nat} {c0 c1 : Value} (h : a.cell? ⟨g, 0, none⟩ = some c0 ∧ a.cell? ⟨g, 1, none⟩ = some c1 ∧ Below w.heap.size w a) : Below w.heap.size w a := h.2.2
theorem bel_two (w : World) (T U : Obj) : Below w.heap.size w ((w.alloc T).alloc U) := by
  have b0 : Below w.heap.size w (w.alloc T) := (Below.refl _ _).alloc (Nat.le_refl _) _
  exact b0.alloc b0.size _
theorem spof (y z : Int) (W : World) (h : y = z) (h1 : -9223372036854775808 ≤ z) (h2 : z ≤ 9223372036854775807) :
    Calls Tryd.prog 24 #[.int .i64 y] W fun e w' => e = .returned (.agg #[.bool (ZG z), .string (ZS z)]) ∧ Below W.heap.size W w' := by
  subst h; exact iof_any y W h1 h2
/-- What the loop knows. -/
def SprR (w : World) (n y : Nat) (v : Value) (wr : World) : Prop := ∃ i : Nat, i + y = 2 * n - 1 ∧ v = .int .i64 i ∧ Below w.heap.size w wr

set_option maxHeartbeats 4000000 in
set_option maxRecDepth 100000 in
theorem spread_0 (w : World) (htab : TabW w) : Calls Tryd.prog 6 #[.int .u8 0] w fun e w' => e = .returned (.bool true) ∧ Below w.heap.size w w' := by
  have HTab := Lib.hid htab; clear htab
  have CS := Lib.hid (fun W => seed_any sdB W)
  go_enter Tryd.func6, Tryd.ntmps6
  go_wp2_with fail
  refine (CS.out _).mono ?_; rintro e w1 ⟨rfl, b1⟩
  have B1 := Lib.hid b1; clear b1
  go_wp2_with fail
  refine (spread_zero _).mono ?_; rintro e w2 ⟨rfl, b2⟩
  have B2 := Lib.hid ((bel_of B1.out b2)); clear b2 B1
  have B3 := Lib.hid (bel_of B2.out (bel_two w2 (.cells #[.bool false, .string ⟨#[]⟩] 45) (.cells #[.slice none 0 0, .string ⟨#[]⟩, .int .i64 0] 24)))
  go_wp2_with fail
  refine (awake6 _ (HTab.out.below B3.out)).mono ?_; rintro e w4 ⟨rfl, b4⟩
  have B4 := Lib.hid (bel_of B3.out b4); clear b4
  go_wp2
  go_ret
  exact ⟨rfl, B4.out⟩
set_option maxHeartbeats 8000000 in
set_option maxRecDepth 100000 in
theorem spread_n (c : Nat) (w : World) (hc0 : ¬ (c : Int) = 0) (hc : c < 256) (htab : TabW w) : Calls Tryd.prog 6 #[.int .u8 (c : Int)] w fun e w' => e = .returned (.bool true) ∧ Below w.heap.size w w' := by
  have HTab := Lib.hid htab; clear htab
  obtain ⟨r, hr, hr40⟩ : ∃ r : Nat, (c : Int) % 40 = (r : Int) ∧ r < 40 := ⟨c % 40, by omega, by omega⟩
  go_enter Tryd.func6, Tryd.ntmps6
  go_upto_if 31 with fail
  go_cut [6] (fun x wx => ∃ n : Nat, x = .int .i64 n ∧ Hid (0 < n ∧ n ≤ 40) ∧ wx = w)
  case first =>
    by_cases h0 : r = 0
    · subst h0
      go_wp2
      go_meet
      case rel => exact ⟨40, rfl, ⟨by omega, by omega⟩, rfl⟩
    · go_wp2
      go_meet
      case rel => exact ⟨r, rfl, ⟨by omega, by omega⟩, rfl⟩
  case rest =>
    obtain ⟨n, rfl, HN, rfl⟩ := hcut
    clear hr hr40 hc0 hc
    obtain ⟨hn0, hn40⟩ := HN.out
    go_wp2
    go_loopg [7] (2 * n - 1) (fun y v wr => SprR wc n y v wr)
    case atStart => exact ⟨0, by omega, rfl, Below.refl _ _⟩
    case round =>
      obtain ⟨i, hi, rfl, hb⟩ := hrel
      have HB := Lib.hid hb; clear hb
      by_cases hlt : i < 2 * n - 1
      · have hlti : (i : Int) < 2 * (n : Int) - 1 := by omega
        obtain ⟨z, hz⟩ : ∃ z : Int, z = (i : Int) - (n : Int) + 1 := ⟨_, rfl⟩
        have HS := Lib.hid (fun v W hv hT => spread_yes i n z hz hn0 hn40 hlt v W hv hT)
        have HZ1 := Lib.hid (show -9223372036854775808 ≤ z by omega)
        have HZ2 := Lib.hid (show z ≤ 9223372036854775807 by omega)
        have HI := Lib.hid hi; clear hi
        have HZ := Lib.hid hz.symm
        have HLT := Lib.hid hlt; clear hlt hz
        have CI := Lib.hid (fun W => of_any i W (by omega))
        have CN := Lib.hid (fun W => of_any n W (by omega))
        go_wp2_with fail
        refine (CI.out _).mono ?_; rintro e w1 ⟨rfl, b1⟩
        have B1 := Lib.hid (bel_of (bel_of HB.out b1) (bel_alloc w1 (.cells #[.string (E i)] 33))); clear b1
        have V1 := Lib.hid (svE i w1)
        go_wp2_with fail
        refine (values_any _ 1 (fE i) _ V1.out (by omega)).mono ?_; rintro e w2 ⟨g2, c2, rfl, hg2, hs2, b2⟩
        have B2 := Lib.hid (bel_of B1.out b2); clear b2 hg2
        have V2 := Lib.hid hs2; clear hs2
        go_wp2_with fail
        refine (CN.out _).mono ?_; rintro e w3 ⟨rfl, b3⟩
        have B3 := Lib.hid (bel_of B2.out b3)
        have V3 := Lib.hid (V2.out.below b3); clear b3
        go_wp2_with fail
        refine (HS.out _ _ V3.out (HTab.out.below B3.out)).mono ?_; rintro e w4 ⟨g4, c4, rfl, hg4, hs4, b4⟩
        have B4 := Lib.hid (bel_of B3.out b4); clear b4 hg4 hs4
        have B5 := Lib.hid (bel_of B4.out (bel_two w4 (.cells #[.bool (ZG z), .string (ZS z)] 45) (.cells #[.slice (some ⟨g4, 0, none⟩) 1 c4, .string ⟨#[]⟩, .int .i64 1] 24)))
        obtain ⟨q0, q1, q2, q3, q4⟩ := Two.below (Two.new w4 (.bool (ZG z)) (.string (ZS z)) 45 _ rfl) (bel_alloc _ (.cells #[.slice (some ⟨g4, 0, none⟩) 1 c4, .string ⟨#[]⟩, .int .i64 1] 24)) rfl
        clear q2 q3 q4 B1 B2 B3 B4 V1 V2 V3 CI CN HS
        go_wp2_with fail
        go_region_held3 (fun w' => w'.cell? ⟨w4.heap.size, 0, none⟩ = some (.bool (ZG z)) ∧ w'.cell? ⟨w4.heap.size, 1, none⟩ = some (.string (ZS z)) ∧ Below wc.heap.size wc w') (first | exact ⟨q0, q1, B5.out.drew⟩ | exact k62 b99 (by assumption))
          (first
          | (go_at_call 24; ((refine (spof _ z _ (by have := HZ.out; simp only [IntKind.wrap_i64]; omega) HZ1.out HZ2.out).mono ?_); rintro e w99 ⟨rfl, b99⟩)))
        go_wp2
        go_roundg (2 * n - 1 - (i + 1))
        case measure => have := HLT.out; have := HI.out; omega
        case rel => exact ⟨i + 1, by have := HI.out; have := HLT.out; omega, by go_num, k62l (by assumption)⟩
      · have hni : i = 2 * n - 1 := by omega
        have hlti : ¬ (i : Int) < 2 * (n : Int) - 1 := by omega
        have HS := Lib.hid (fun v W hv hT => spread_no i n hn0 hn40 hni v W hv hT)
        have HI := Lib.hid (show (i : Int) = 2 * (n : Int) - 1 by omega); clear hi
        have CI := Lib.hid (fun (x : Int) W (h : (i : Int) = x) => h ▸ of_any i W (by omega))
        have CN := Lib.hid (fun W => of_any n W (by omega))
        clear hni
        go_wp2_with fail
        refine (CI.out _ _ (by have := HI.out; omega)).mono ?_; rintro e w1 ⟨rfl, b1⟩
        have B1 := Lib.hid (bel_of (bel_of HB.out b1) (bel_alloc w1 (.cells #[.string (E i)] 33))); clear b1
        have V1 := Lib.hid (svE i w1)
        go_wp2_with fail
        refine (values_any _ 1 (fE i) _ V1.out (by omega)).mono ?_; rintro e w2 ⟨g2, c2, rfl, hg2, hs2, b2⟩
        have B2 := Lib.hid (bel_of B1.out b2); clear b2 hg2
        have V2 := Lib.hid hs2; clear hs2
        go_wp2_with fail
        refine (CN.out _).mono ?_; rintro e w3 ⟨rfl, b3⟩
        have B3 := Lib.hid (bel_of B2.out b3)
        have V3 := Lib.hid (V2.out.below b3); clear b3
        go_wp2_with fail
        refine (HS.out _ _ V3.out (HTab.out.below B3.out)).mono ?_; rintro e w4 ⟨rfl, b4⟩
        have B4 := Lib.hid (bel_of B3.out b4); clear b4
        have B5 := Lib.hid (bel_of B4.out (bel_two w4 (.cells #[.bool false, .string ⟨#[]⟩] 45) (.cells #[.slice none 0 0, .string ⟨#[]⟩, .int .i64 0] 24)))
        clear B1 B2 B3 B4 V1 V2 V3 CI CN HS
        go_wp2_with fail
        refine (awake6 _ (HTab.out.below B5.out)).mono ?_; rintro e w6 ⟨rfl, b6⟩
        have B6 := Lib.hid (bel_of B5.out b6); clear b6
        go_wp2
        go_ret
        exact ⟨rfl, B6.out⟩
theorem law_CoinsSpread (a : Int) (wa : (Lit.int .u8 a).wf = true) (w : World) (htab : TabW w) : Calls Tryd.prog 6 #[.int .u8 a] w fun e w' => e = .returned (.bool true) ∧ Below w.heap.size w w' := by
  have hw := bounds_u8 wa
  obtain ⟨c, rfl⟩ : ∃ c : Nat, a = (c : Int) := ⟨a.toNat, by omega⟩
  by_cases h0 : (c : Int) = 0
  · rw [h0]; exact spread_0 w htab
  · exact spread_n c w h0 (by omega) htab
end Go.Proofs.YtehbbghobagkjaaDoor
