/-
  Several parts in one text (CD).
-/
import Derived.Test.YtehbbghobagkjaaDoorLaw6a
import Derived.Deep.LoopGhost
import Derived.OpenShut
import Derived.Test.YtehbbghobagkjaaDoorCR
import Derived.Deep.RegionHeld3
import Derived.Deep.RegionWith
/-
  Layer 6's statements: CoinsSpread.
-/
namespace Go.Proofs.YtehbbghobagkjaaDoor
open Go.RowKit Go.Deep
set_option linter.unusedVariables false

/-- One value. -/
def fE (i : Nat) (_ : Nat) : ByteArray := E i
theorem svE (i : Nat) (w : World) : SV (w.alloc (.cells #[.string (E i)] 33)) (.slice (some ⟨w.heap.size, 0, none⟩) 1 1) 1 (fE i) :=
  SV.of_row (t := 33) (by
    rw [show (svC 1 (fE i)).toArray = #[.string (E i)] from rfl]
    exact heap_alloc_last w _)
theorem wfE {i : Nat} (h : i < 18446744073709551616) : WF 1 (fE i) ((0 : Nat) : Int) := ⟨fun j _ => small_can h, by omega, by omega⟩
theorem spread_yes (i n : Nat) (z : Int) (hz : z = (i : Int) - (n : Int) + 1) (hn : 0 < n) (hn2 : n ≤ 40) (hi : i < 2 * n - 1) (v : Value) (w : World) (hv : SV w v 1 (fE i)) (htab : TabW w) :
    Calls Tryd.prog 22 #[.agg #[v, .string ⟨#[]⟩, .int .i64 0], .string (E n)] w fun e w' => SignP (ZG z) (ZS z) 1 (fE i) ⟨#[]⟩ 1 w e w' := by
  have h := signed_some v 1 (fE i) ⟨#[]⟩ 0 (E n) w hv (by omega) (wfE (by omega)) (small_can (by omega)) (small_size (by omega) hn) (by show 0 ≤ _; omega) htab
    (by rw [V_E]; exact small_lim (by omega)) (x := E i) (by
      rw [V_E]
      unfold nextV
      rw [if_pos (by omega), if_pos (by rw [show fE i 0 = E i from rfl, V_E, V_E]; omega), if_neg (by omega)]
      rfl) (small_can (by omega))
  rw [V_E, V_E, show (i : Int) - ((n - 1 : Nat) : Int) = z by omega] at h
  exact h
theorem spread_no (i n : Nat) (hn : 0 < n) (hn2 : n ≤ 40) (hi : i = 2 * n - 1) (v : Value) (w : World) (hv : SV w v 1 (fE i)) (htab : TabW w) :
    Calls Tryd.prog 22 #[.agg #[v, .string ⟨#[]⟩, .int .i64 0], .string (E n)] w fun e w' => NoSigned 2 w e w' :=
  signed_none v 1 (fE i) ⟨#[]⟩ 0 (E n) w hv (by omega) (wfE (by omega)) (small_can (by omega)) (small_size (by omega) hn) (by show 0 ≤ _; omega) htab
    (by rw [V_E]; exact small_lim (by omega)) (x := ⟨#[]⟩) (by
      rw [V_E]
      unfold nextV
      rw [if_pos (by omega), if_neg (by rw [show fE i 0 = E i from rfl, V_E, V_E]; omega)]) (by omega)
/-- The letter of the seed. -/
def sdB : ByteArray := ⟨#[115]⟩
theorem spread_zero (w : World) : Calls Tryd.prog 22 #[.agg #[.slice none 0 0, .string sdB, .int .i64 0], .string ⟨#[]⟩] w fun e w' => NoSigned 11 w e w' :=
  signed_bad _ 0 f0 sdB 0 ⟨#[]⟩ w (SV.nil w f0) (by omega) (.inr (.inl ⟨rfl, wfS, small_can (n := 0) (by omega), rfl⟩)) (by omega)
theorem k62 {w a b : World} {g : Nat} {c0 c1 : Value} (b99 : Below a.heap.size a b) (h : a.cell? ⟨g, 0, none⟩ = some c0 ∧ a.cell? ⟨g, 1, none⟩ = some c1 ∧ Below w.heap.size w a) :
    b.cell? ⟨g, 0, none⟩ = some c0 ∧ b.cell? ⟨g, 1, none⟩ = some c1 ∧ Below w.heap.size w b := ⟨kc6 b99 h.1, kc6 b99 h.2.1, bel_of h.2.2 b99⟩
theorem k62d {w a : World} {g : Nat} {c0 c1 : Value} (h : a.cell? ⟨g, 0, none⟩ = some c0 ∧ a.cell? ⟨g, 1, none⟩ = some c1 ∧ Below w.heap.size w a) :
    a.drew.cell? ⟨g, 0, none⟩ = some c0 ∧ a.drew.cell? ⟨g, 1, none⟩ = some c1 ∧ Below w.heap.size w a.drew := ⟨h.1, h.2.1, h.2.2.drew⟩
theorem k62l {w a : World} {g : Nat} {c0 c1 : Value} (h : a.cell? ⟨g, 0, none⟩ = some c0 ∧ a.cell? ⟨g, 1, none⟩ = some c1 ∧ Below w.heap.size w a) : Below w.heap.size w a := h.2.2
theorem bel_two (w : World) (T U : Obj) : Below w.heap.size w ((w.alloc T).alloc U) := by
  have b0 : Below w.heap.size w (w.alloc T) := (Below.refl _ _).alloc (Nat.le_refl _) _
  exact b0.alloc b0.size _
theorem spof (y z : Int) (W : World) (h : y = z) (h1 : -9223372036854775808 ≤ z) (h2 : z ≤ 9223372036854775807) :
    Calls Tryd.prog 24 #[.int .i64 y] W fun e w' => e = .returned (.agg #[.bool (ZG z), .string (ZS z)]) ∧ Below W.heap.size W w' := by
  subst h; exact iof_any y W h1 h2
/-- What the loop knows. -/
def SprR (w : World) (n y : Nat) (v : Value) (wr : World) : Prop := ∃ i : Nat, i + y = 2 * n - 1 ∧ v = .int .i64 i ∧ Below w.heap.size w wr

set_option maxHeartbeats 4000000 in
set_option maxRecDepth 100000 in
theorem spread_0 (w : World) (htab : TabW w) : Calls Tryd.prog 6 #[.int .u8 0] w fun e w' => e = .returned (.bool true) ∧ Below w.heap.size w w' := by
  have HTab := Lib.hid htab; clear htab
  have CS := Lib.hid (fun W => seed_any sdB W)
  go_enter Tryd.func6, Tryd.ntmps6
  go_wp2_with fail
  refine (CS.out _).mono ?_; rintro e w1 ⟨rfl, b1⟩
  have B1 := Lib.hid b1; clear b1
  go_wp2_with fail
  refine (spread_zero _).mono ?_; rintro e w2 ⟨rfl, b2⟩
  have B2 := Lib.hid ((bel_of B1.out b2)); clear b2 B1
  have B3 := Lib.hid (bel_of B2.out (bel_two w2 (.cells #[.bool false, .string ⟨#[]⟩] 45) (.cells #[.slice none 0 0, .string ⟨#[]⟩, .int .i64 0] 24)))
  go_wp2_with fail
  refine (awake6 _ (HTab.out.below B3.out)).mono ?_; rintro e w4 ⟨rfl, b4⟩
  have B4 := Lib.hid (bel_of B3.out b4); clear b4
  go_wp2
  go_ret
  exact ⟨rfl, B4.out⟩
set_option maxHeartbeats 8000000 in
set_option maxRecDepth 100000 in
theorem spread_n (c : Nat) (w : World) (hc0 : ¬ (c : Int) = 0) (hc : c < 256) (htab : TabW w) : Calls Tryd.prog 6 #[.int .u8 (c : Int)] w fun e w' => e = .returned (.bool true) ∧ Below w.heap.size w w' := by
  have HTab := Lib.hid htab; clear htab
  obtain ⟨r, hr, hr40⟩ : ∃ r : Nat, (c : Int) % 40 = (r : Int) ∧ r < 40 := ⟨c % 40, by omega, by omega⟩
  go_enter Tryd.func6, Tryd.ntmps6
  go_upto_if 31 with fail
  go_cut [6] (fun x wx => ∃ n : Nat, x = .int .i64 n ∧ Hid (0 < n ∧ n ≤ 40) ∧ wx = w)
  case first =>
    by_cases h0 : r = 0
    · subst h0
      go_wp2
      go_meet
      case rel => exact ⟨40, rfl, ⟨by omega, by omega⟩, rfl⟩
    · go_wp2
      go_meet
      case rel => exact ⟨r, rfl, ⟨by omega, by omega⟩, rfl⟩
  case rest =>
    obtain ⟨n, rfl, HN, rfl⟩ := hcut
    clear hr hr40 hc0 hc
    obtain ⟨hn0, hn40⟩ := HN.out
    go_wp2
    go_loopg [7] (2 * n - 1) (fun y v wr => SprR wc n y v wr)
    case atStart => exact ⟨0, by omega, rfl, Below.refl _ _⟩
    case round =>
      obtain ⟨i, hi, rfl, hb⟩ := hrel
      have HB := Lib.hid hb; clear hb
      by_cases hlt : i < 2 * n - 1
      · have hlti : (i : Int) < 2 * (n : Int) - 1 := by omega
        obtain ⟨z, hz⟩ : ∃ z : Int, z = (i : Int) - (n : Int) + 1 := ⟨_, rfl⟩
        have HS := Lib.hid (fun v W hv hT => spread_yes i n z hz hn0 hn40 hlt v W hv hT)
        have HZ1 := Lib.hid (show -9223372036854775808 ≤ z by omega)
        have HZ2 := Lib.hid (show z ≤ 9223372036854775807 by omega)
        have HI := Lib.hid hi; clear hi
        have HZ := Lib.hid hz.symm
        have HLT := Lib.hid hlt; clear hlt hz
        have CI := Lib.hid (fun W => of_any i W (by omega))
        have CN := Lib.hid (fun W => of_any n W (by omega))
        go_wp2_with fail
        refine (CI.out _).mono ?_; rintro e w1 ⟨rfl, b1⟩
        have B1 := Lib.hid (bel_of (bel_of HB.out b1) (bel_alloc w1 (.cells #[.string (E i)] 33))); clear b1
        have V1 := Lib.hid (svE i w1)
        go_wp2_with fail
        refine (values_any _ 1 (fE i) _ V1.out (by omega)).mono ?_; rintro e w2 ⟨g2, c2, rfl, hg2, hs2, b2⟩
        have B2 := Lib.hid (bel_of B1.out b2); clear b2 hg2
        have V2 := Lib.hid hs2; clear hs2
        go_wp2_with fail
        refine (CN.out _).mono ?_; rintro e w3 ⟨rfl, b3⟩
        have B3 := Lib.hid (bel_of B2.out b3)
        have V3 := Lib.hid (V2.out.below b3); clear b3
        go_wp2_with fail
        refine (HS.out _ _ V3.out (HTab.out.below B3.out)).mono ?_; rintro e w4 ⟨g4, c4, rfl, hg4, hs4, b4⟩
        have B4 := Lib.hid (bel_of B3.out b4); clear b4 hg4 hs4
        have B5 := Lib.hid (bel_of B4.out (bel_two w4 (.cells #[.bool (ZG z), .string (ZS z)] 45) (.cells #[.slice (some ⟨g4, 0, none⟩) 1 c4, .string ⟨#[]⟩, .int .i64 1] 24)))
        obtain ⟨q0, q1, q2, q3, q4⟩ := Two.below (Two.new w4 (.bool (ZG z)) (.string (ZS z)) 45 _ rfl) (bel_alloc _ (.cells #[.slice (some ⟨g4, 0, none⟩) 1 c4, .string ⟨#[]⟩, .int .i64 1] 24)) rfl
        clear q2 q3 q4 B1 B2 B3 B4 V1 V2 V3 CI CN HS
        go_wp2_with fail
        go_region_held3 (fun w' => w'.cell? ⟨w4.heap.size, 0, none⟩ = some (.bool (ZG z)) ∧ w'.cell? ⟨w4.heap.size, 1, none⟩ = some (.string (ZS z)) ∧ Below wc.heap.size wc w') (first | exact ⟨q0, q1, B5.out.drew⟩ | exact k62 b99 (by assumption))
          (first
          | (go_at_call 24; ((refine (spof _ z _ (by have := HZ.out; simp only [IntKind.wrap_i64]; omega) HZ1.out HZ2.out).mono ?_); rintro e w99 ⟨rfl, b99⟩)))
        go_wp2
        go_roundg (2 * n - 1 - (i + 1))
        case measure => have := HLT.out; have := HI.out; omega
        case rel => exact ⟨i + 1, by have := HI.out; have := HLT.out; omega, by go_num, k62l (by assumption)⟩
      · have hni : i = 2 * n - 1 := by omega
        have hlti : ¬ (i : Int) < 2 * (n : Int) - 1 := by omega
        have HS := Lib.hid (fun v W hv hT => spread_no i n hn0 hn40 hni v W hv hT)
        have HI := Lib.hid (show (i : Int) = 2 * (n : Int) - 1 by omega); clear hi
        have CI := Lib.hid (fun (x : Int) W (h : (i : Int) = x) => h ▸ of_any i W (by omega))
        have CN := Lib.hid (fun W => of_any n W (by omega))
        clear hni
        go_wp2_with fail
        refine (CI.out _ _ (by have := HI.out; omega)).mono ?_; rintro e w1 ⟨rfl, b1⟩
        have B1 := Lib.hid (bel_of (bel_of HB.out b1) (bel_alloc w1 (.cells #[.string (E i)] 33))); clear b1
        have V1 := Lib.hid (svE i w1)
        go_wp2_with fail
        refine (values_any _ 1 (fE i) _ V1.out (by omega)).mono ?_; rintro e w2 ⟨g2, c2, rfl, hg2, hs2, b2⟩
        have B2 := Lib.hid (bel_of B1.out b2); clear b2 hg2
        have V2 := Lib.hid hs2; clear hs2
        go_wp2_with fail
        refine (CN.out _).mono ?_; rintro e w3 ⟨rfl, b3⟩
        have B3 := Lib.hid (bel_of B2.out b3)
        have V3 := Lib.hid (V2.out.below b3); clear b3
        go_wp2_with fail
        refine (HS.out _ _ V3.out (HTab.out.below B3.out)).mono ?_; rintro e w4 ⟨rfl, b4⟩
        have B4 := Lib.hid (bel_of B3.out b4); clear b4
        have B5 := Lib.hid (bel_of B4.out (bel_two w4 (.cells #[.bool false, .string ⟨#[]⟩] 45) (.cells #[.slice none 0 0, .string ⟨#[]⟩, .int .i64 0] 24)))
        clear B1 B2 B3 B4 V1 V2 V3 CI CN HS
        go_wp2_with fail
        refine (awake6 _ (HTab.out.below B5.out)).mono ?_; rintro e w6 ⟨rfl, b6⟩
        have B6 := Lib.hid (bel_of B5.out b6); clear b6
        go_wp2
        go_ret
        exact ⟨rfl, B6.out⟩
theorem law_CoinsSpread (a : Int) (wa : (Lit.int .u8 a).wf = true) (w : World) (htab : TabW w) : Calls Tryd.prog 6 #[.int .u8 a] w fun e w' => e = .returned (.bool true) ∧ Below w.heap.size w w' := by
  have hw := bounds_u8 wa
  obtain ⟨c, rfl⟩ : ∃ c : Nat, a = (c : Int) := ⟨a.toNat, by omega⟩
  by_cases h0 : (c : Int) = 0
  · rw [h0]; exact spread_0 w htab
  · exact spread_n c w h0 (by omega) htab
end Go.Proofs.YtehbbghobagkjaaDoor


/-
  Layer 6's statements: CoinsExplicit.
-/
namespace Go.Proofs.YtehbbghobagkjaaDoor
open Go.RowKit Go.Deep
set_option linter.unusedVariables false

theorem few_facts {k : Nat} {f : Nat → ByteArray} {S : ByteArray} (h : FewP k f S true) : k ≤ 40 ∧ S.size ≤ 100 ∧ ∀ j, j < k → (f j).size ≤ 140 := h rfl
theorem snats_yes (v1 v2 : Value) (k : Nat) (f : Nat → ByteArray) (w : World) (h1 : SV w v1 k f) (h2 : SV w v2 k f) (hk : k ≤ 9223372036854775807) :
    Calls Tryd.prog 20 #[v1, v2] w fun e w' => e = .returned (.bool true) ∧ Below w.heap.size w w' := by
  refine (sameNats_any v1 v2 k k f f w h1 h2 hk hk).mono ?_
  rintro e w' ⟨⟨b, rfl, hb⟩, hw⟩
  obtain rfl : b = true := hb.mpr ⟨rfl, fun _ _ => rfl⟩
  exact ⟨rfl, hw⟩
theorem same_yes (v1 v2 : Value) (k : Nat) (f g : Nat → ByteArray) (S : ByteArray) (t : Int) (w : World) (h1 : SV w v1 k f) (h2 : SV w v2 k g) (hk : k ≤ 9223372036854775807) (he : ∀ j, j < k → f j = g j) :
    Calls Tryd.prog 10 #[.agg #[v1, .string S, .int .i64 t], .agg #[v2, .string S, .int .i64 t]] w fun e w' => e = .returned (.bool true) ∧ Below w.heap.size w w' := by
  refine (same_any v1 v2 k k f g S S t t w h1 h2 hk hk).mono ?_
  rintro e w' ⟨⟨b, rfl, hb⟩, hw⟩
  obtain rfl : b = true := hb.mpr ⟨rfl, rfl, rfl, he⟩
  exact ⟨rfl, hw⟩
/-- The cells of two tapes' variables, an element of the first, both lists. -/
def ExS (w : World) (a b : Nat) (p : Addr) (k g c : Nat) (cap : Nat) (q : Option Addr) (f : Nat → ByteArray) (S x : ByteArray) (t t1 : Int) (W : World) : Prop :=
  W.cell? ⟨a, 0, none⟩ = some (.slice q k cap) ∧ W.cell? ⟨a, 1, none⟩ = some (.string S) ∧ W.cell? ⟨a, 2, none⟩ = some (.int .i64 t) ∧
  W.cell? ⟨b, 0, none⟩ = some (.slice (some ⟨g, 0, none⟩) k c) ∧ W.cell? ⟨b, 1, none⟩ = some (.string S) ∧ W.cell? ⟨b, 2, none⟩ = some (.int .i64 t1) ∧
  W.cell? p = some (.string x) ∧ SV W (.slice q k cap) k f ∧ SV W (.slice (some ⟨g, 0, none⟩) k c) k f ∧ Below w.heap.size w W
theorem ExS.next {w : World} {a b : Nat} {p : Addr} {k g c cap : Nat} {q : Option Addr} {f : Nat → ByteArray} {S x : ByteArray} {t t1 : Int} {W V : World} (h : ExS w a b p k g c cap q f S x t t1 W) (b99 : Below W.heap.size W V) : ExS w a b p k g c cap q f S x t t1 V := by
  obtain ⟨h0, h1, h2, h3, h4, h5, h6, h7, h8, h9⟩ := h
  exact ⟨kc6 b99 h0, kc6 b99 h1, kc6 b99 h2, kc6 b99 h3, kc6 b99 h4, kc6 b99 h5, kc6 b99 h6, h7.below b99, h8.below b99, bel_of h9 b99⟩
theorem ExS.drew {w : World} {a b : Nat} {p : Addr} {k g c cap : Nat} {q : Option Addr} {f : Nat → ByteArray} {S x : ByteArray} {t t1 : Int} {W : World} (h : ExS w a b p k g c cap q f S x t t1 W) : ExS w a b p k g c cap q f S x t t1 W.drew := by
  obtain ⟨h0, h1, h2, h3, h4, h5, h6, h7, h8, h9⟩ := h
  exact ⟨h0, h1, h2, h3, h4, h5, h6, h7, h8, h9.drew⟩
theorem ExS.bel {w : World} {a b : Nat} {p : Addr} {k g c cap : Nat} {q : Option Addr} {f : Nat → ByteArray} {S x : ByteArray} {t t1 : Int} {W : World} (h : ExS w a b p k g c cap q f S x t t1 W) : Below w.heap.size w W := h.2.2.2.2.2.2.2.2.2
theorem ExS.sv1 {w : World} {a b : Nat} {p : Addr} {k g c cap : Nat} {q : Option Addr} {f : Nat → ByteArray} {S x : ByteArray} {t t1 : Int} {W : World} (h : ExS w a b p k g c cap q f S x t t1 W) : SV W (.slice q k cap) k f := h.2.2.2.2.2.2.2.1
theorem ExS.sv2 {w : World} {a b : Nat} {p : Addr} {k g c cap : Nat} {q : Option Addr} {f : Nat → ByteArray} {S x : ByteArray} {t t1 : Int} {W : World} (h : ExS w a b p k g c cap q f S x t t1 W) : SV W (.slice (some ⟨g, 0, none⟩) k c) k f := h.2.2.2.2.2.2.2.2.1

set_option maxHeartbeats 16000000 in
set_option maxRecDepth 400000 in
theorem law_CoinsExplicit (v : Value) (k : Nat) (f : Nat → ByteArray) (S : ByteArray) (t : Int) (n : ByteArray) (wS : S.size ≤ maxLen) (wt : (Lit.int .i64 t).wf = true) (wn : n.size ≤ maxLen) (w : World) (hv : SV w v k f) (hk : k ≤ maxLen) (htab : TabW w) :
    Calls Tryd.prog 4 #[.agg #[v, .string S, .int .i64 t], .string n] w fun e w' => e = .returned (.bool true) ∧ Below w.heap.size w w' := by
  have HTab := Lib.hid htab; clear htab
  unfold maxLen at hk wS wn
  have hti := bounds_i64 wt
  clear wt
  have HB0 := Lib.hid (bel_alloc w (.cells #[v, .string S, .int .i64 t] 24))
  have HV0 := Lib.hid (hv.below HB0.out)
  have HT0 := Lib.hid (Three.new w v (.string S) (.int .i64 t) 24 _ rfl)
  obtain ⟨p, cap, rfl, -⟩ := hv
  obtain ⟨q0, q1, q2, q3, q4, q5, q6⟩ := HT0.out
  go_enter Tryd.func4, Tryd.ntmps4
  go_wp2_with fail
  refine (few_any _ k f S t _ HV0.out hk).mono ?_; rintro e w1 ⟨⟨b, rfl, hb⟩, b1⟩
  have HF := Lib.hid hb; clear hb
  have B1 := Lib.hid (bel_of HB0.out b1)
  have V1 := Lib.hid (HV0.out.below b1)
  have T1 := Lib.hid (HT0.out.below b1 rfl)
  clear b1 HB0 HV0 HT0 q0 q1 q2 q3 q4 q5 q6
  obtain ⟨q0, q1, q2, q3, q4, q5, q6⟩ := T1.out
  cases b with
  | false =>
    go_wp2_with fail
    refine (awake6 _ (HTab.out.below B1.out)).mono ?_; rintro e w9 ⟨rfl, b9⟩
    have B9 := Lib.hid (bel_of B1.out b9); clear b9
    go_wp2
    go_ret
    exact ⟨rfl, B9.out⟩
  | true =>
    obtain ⟨hk40, hS100, -⟩ := few_facts HF.out
    clear HF
    by_cases hn : (140 : Int) < n.size
    · have hd := decide_eq_true hn
      go_wp2_with fail
      refine (awake6 _ (HTab.out.below B1.out)).mono ?_; rintro e w9 ⟨rfl, b9⟩
      have B9 := Lib.hid (bel_of B1.out b9); clear b9
      go_wp2
      go_ret
      exact ⟨rfl, B9.out⟩
    · have hd := decide_eq_false hn
      by_cases ht0 : t < 0
      · have hd2 := decide_eq_true ht0
        go_wp2_with fail
        refine (awake6 _ (HTab.out.below B1.out)).mono ?_; rintro e w9 ⟨rfl, b9⟩
        have B9 := Lib.hid (bel_of B1.out b9); clear b9
        go_wp2
        go_ret
        exact ⟨rfl, B9.out⟩
      · have hd2 := decide_eq_false ht0
        by_cases htk : (k : Int) ≤ t
        · have hd3 := decide_eq_true htk
          go_wp2_with fail
          refine (awake6 _ (HTab.out.below B1.out)).mono ?_; rintro e w9 ⟨rfl, b9⟩
          have B9 := Lib.hid (bel_of B1.out b9); clear b9
          go_wp2
          go_ret
          exact ⟨rfl, B9.out⟩
        · have hd3 := decide_eq_false htk
          obtain ⟨s, rfl⟩ := Int.eq_ofNat_of_zero_le (show 0 ≤ t by omega)
          by_cases hw : WF k f (s : Int)
          · obtain ⟨d, hd4⟩ : ∃ d, d = k - s := ⟨_, rfl⟩
            have CL := Lib.hid (fun v W (hV : SV W v k f) => (show Calls Tryd.prog 15 #[.agg #[v, .string S, .int .i64 s]] W fun e w' => e = .returned (.int .i64 (d : Int)) ∧ Below W.heap.size W w' by rw [hd4]; exact left_yes v k f S s W hV hk hw))
            have hdz : ((d : Int) == 0) = false := beq_eq_false_iff_ne.2 (by omega)
            have HD4 := Lib.hid hd4; clear hd4
            have hkn : ¬ k ≤ s := by omega
            have hd5 : decide (k ≤ s) = false := decide_eq_false hkn
            go_wp2_with fail
            refine (CL.out _ _ V1.out).mono ?_; rintro e w2 ⟨rfl, b2⟩
            have B2 := Lib.hid (bel_of B1.out b2)
            have V2 := Lib.hid (V1.out.below b2)
            have T2 := Lib.hid (T1.out.below b2 rfl)
            clear b2 B1 V1 T1 q0 q1 q2 q3 q4 q5 q6
            obtain ⟨q0, q1, q2, q3, q4, q5, q6⟩ := T2.out
            by_cases hc : Can n
            · have HC := Lib.hid hc; clear hc
              go_wp2_with fail
              refine (valid_yes n _ HC.out).mono ?_; rintro e wx ⟨rfl, rfl⟩
              by_cases h0 : n.size = 0
              · have hE := empty_of h0
                go_wp2_with fail
                refine (awake6 _ (HTab.out.below B2.out)).mono ?_; rintro e w9 ⟨rfl, b9⟩
                have B9 := Lib.hid (bel_of B2.out b9); clear b9
                go_wp2
                go_ret
                exact ⟨rfl, B9.out⟩
              · have hE := not_empty_of h0
                have H0 := Lib.hid (Nat.pos_of_ne_zero h0); clear h0
                have HW := Lib.hid hw; clear hw
                obtain ⟨p', cap', e', hc2⟩ := V2.out
                obtain ⟨rfl, rfl⟩ : p = p' ∧ cap = cap' := by cases e'; exact ⟨rfl, rfl⟩
                obtain ⟨a, rfl, ha, hcell⟩ := hc2 s (by omega)
                clear hc2 e'
                have hsk : s < k := by omega
                have HCS := Lib.hid (HW.out.1 s hsk)
                by_cases hlt : V (f s) < V n
                · have hX : nextV k f S s n = .tuple #[.string (f s), .int .i64 0] := by
                    unfold nextV
                    rw [if_pos hsk, if_pos hlt, if_neg (by omega)]
                  have hsgn : sgn (V (f s)) (V n) = -1 := by unfold sgn; rw [if_pos hlt]
                  have hcmp := Lib.hid (fun W => (show Calls Tryd.prog 19 #[.string (f s), .string n] W fun e w' => e = .returned (.int .i64 (-1)) ∧ W = w' by rw [← hsgn]; exact cmp_yes (f s) n W HCS.out HC.out))
                  clear hsgn
                  obtain ⟨t1, ht1⟩ : ∃ t1 : Int, t1 = ((s + 1 : Nat) : Int) := ⟨_, rfl⟩
                  have CB := Lib.hid (fun W hV hT => (show Calls Tryd.prog 18 #[.agg #[.slice (some a) k cap, .string S, .int .i64 s], .string n] W fun e w' => DrawP (f s) k f S t1 W e w' by rw [ht1]; exact below_some _ k f S s n W hV (by omega) HW.out HC.out H0.out (by omega) hT hX))
                  have hw1 : IntKind.i64.wrap ((s : Int) + 1) = t1 := by rw [ht1, IntWalk.i64_in _ (by omega)]; omega
                  obtain ⟨d1, hd7⟩ : ∃ d1, d1 = k - (s + 1) := ⟨_, rfl⟩
                  have CM := Lib.hid (fun v W (hV : SV W v k f) => (show Calls Tryd.prog 15 #[.agg #[v, .string S, .int .i64 t1]] W fun e w' => e = .returned (.int .i64 (d1 : Int)) ∧ Below W.heap.size W w' by rw [ht1, hd7]; exact left_yes v k f S (s + 1) W hV hk ⟨HW.out.1, by omega, by omega⟩))
                  have hw2 : IntKind.i64.wrap ((d : Int) - 1) = (d1 : Int) := by have hd4 := HD4.out; rw [IntWalk.i64_in _ (by omega)]; omega
                  have hki : (s : Int) < (k : Int) := by omega
                  have HK := Lib.hid hk
                  clear hX ht1 hd7 hlt hk40 hS100 hsk
                  go_wp2_with fail
                  refine (CB.out _ V2.out (HTab.out.below B2.out)).mono ?_; rintro e w3 ⟨g3, c3, rfl, hg3, hs3, b3⟩
                  have d3 := bel_alloc w3 (.cells #[.slice (some ⟨g3, 0, none⟩) k c3, .string S, .int .i64 t1] 24)
                  have HE := Lib.hid (show ExS w w.heap.size w3.heap.size (a.add s) k g3 c3 cap (some a) f S (f s) (s : Int) t1 (w3.alloc (.cells #[.slice (some ⟨g3, 0, none⟩) k c3, .string S, .int .i64 t1] 24)) from
                    ⟨kc6 d3 (kc6 b3 q0), kc6 d3 (kc6 b3 q1), kc6 d3 (kc6 b3 q2), (Three.new w3 _ _ _ 24 _ rfl).1, (Three.new w3 _ _ _ 24 _ rfl).2.1, (Three.new w3 _ _ _ 24 _ rfl).2.2.1, kc6 d3 (kc6 b3 hcell), (V2.out.below b3).below d3, hs3.below d3, bel_of (bel_of B2.out b3) d3⟩)
                  clear b3 d3 hs3 hg3 hcell B2 V2 T2 CB q0 q1 q2 q3 q4 q5 q6
                  obtain ⟨q0, q1, q2, u0, u1, u2, hcell, -⟩ := HE.out
                  go_wp2_with fail
                  refine (hcmp.out _).mono ?_; rintro e wx ⟨rfl, rfl⟩
                  go_wp2_with fail
                  go_region_held3 (fun W => W.cell? ⟨w.heap.size, 0, none⟩ = some (.slice (some a) k cap) ∧ W.cell? ⟨w.heap.size, 1, none⟩ = some (.string S) ∧ W.cell? ⟨w.heap.size, 2, none⟩ = some (.int .i64 (s : Int)) ∧ W.cell? ⟨w3.heap.size, 0, none⟩ = some (.slice (some ⟨g3, 0, none⟩) k c3) ∧ W.cell? ⟨w3.heap.size, 1, none⟩ = some (.string S) ∧ W.cell? ⟨w3.heap.size, 2, none⟩ = some (.int .i64 t1) ∧ W.cell? (a.add s) = some (.string (f s)) ∧ SV W (.slice (some a) k cap) k f ∧ SV W (.slice (some ⟨g3, 0, none⟩) k c3) k f ∧ Below w.heap.size w W) (first | exact ExS.drew HE.out | exact ExS.next (by assumption) b99)
                    (first
                    | (go_at_call 9; ((refine (awake6 _ (HTab.out.below (ExS.bel (by assumption)))).mono ?_); rintro e w99 ⟨rfl, b99⟩))
                    | (go_at_call 20; ((refine (snats_yes _ _ k f _ (ExS.sv2 (by assumption)) (ExS.sv1 (by assumption)) HK.out).mono ?_); rintro e w99 ⟨rfl, b99⟩))
                    | (go_at_call_of 15 t1; ((refine (CM.out _ _ (ExS.sv2 (by assumption))).mono ?_); rintro e w99 ⟨rfl, b99⟩))
                    | (go_at_call_of 15 s; ((refine (CL.out _ _ (ExS.sv1 (by assumption))).mono ?_); rintro e w99 ⟨rfl, b99⟩)))
                  go_wp2
                  go_ret
                  exact ⟨rfl, ExS.bel (by assumption)⟩
                · have hX : nextV k f S s n = .tuple #[.string ⟨#[]⟩, .int .i64 2] := by
                    unfold nextV
                    rw [if_pos hsk, if_neg hlt]
                  have CB := Lib.hid (fun W hV hT => (show Calls Tryd.prog 18 #[.agg #[.slice (some a) k cap, .string S, .int .i64 s], .string n] W fun e w' => NoTape 2 W e w' from below_none _ k f S s n W hV hk HW.out HC.out H0.out (by omega) hT hX (by omega)))
                  have hcmp := Lib.hid (fun W => cmp_yes (f s) n W HCS.out HC.out)
                  have hsg : ¬ sgn (V (f s)) (V n) < 0 := by unfold sgn; split; exact absurd ‹_› hlt; split <;> omega
                  obtain ⟨y, hy⟩ : ∃ y, y = sgn (V (f s)) (V n) := ⟨_, rfl⟩
                  rw [← hy] at hcmp hsg
                  have hsg2 : (0 : Int) ≤ y := by omega
                  clear hX hlt hk40 hS100 hsk hy
                  go_wp2_with fail
                  refine (CB.out _ V2.out (HTab.out.below B2.out)).mono ?_; rintro e w3 ⟨rfl, b3⟩
                  have d3 := bel_alloc w3 (.cells #[.slice none 0 0, .string ⟨#[]⟩, .int .i64 0] 24)
                  have B3 := Lib.hid (bel_of (bel_of B2.out b3) d3)
                  have U3 := Lib.hid (Three.new w3 (.slice none 0 0) (.string ⟨#[]⟩) (.int .i64 0) 24 _ rfl)
                  have T3 := Lib.hid ((T2.out.below b3 rfl).below d3 rfl)
                  have hcell2 := kc6 d3 (kc6 b3 hcell)
                  clear b3 d3 hcell B2 V2 T2 CB q0 q1 q2 q3 q4 q5 q6
                  obtain ⟨q0, q1, q2, q3, q4, q5, q6⟩ := T3.out
                  go_wp2_with fail
                  refine (hcmp.out _).mono ?_; rintro e wx ⟨rfl, rfl⟩
                  clear q0 q1 q2 q3 q4 q5 q6 T3 hcell2
                  go_wp2_with fail
                  refine (awake6 _ (HTab.out.below B3.out)).mono ?_; rintro e w4 ⟨rfl, b4⟩
                  have B4 := Lib.hid (bel_of B3.out b4)
                  have U4 := Lib.hid (U3.out.below b4 rfl)
                  clear b4 B3 U3
                  obtain ⟨u0, u1, u2, u3, u4, u5, u6⟩ := U4.out
                  go_wp2_with fail
                  refine (same_yes _ _ 0 f f _ _ _ (SV.nil _ f) (SV.nil _ f) (by omega) (fun _ _ => rfl)).mono ?_; rintro e w5 ⟨rfl, b5⟩
                  have B5 := Lib.hid (bel_of B4.out b5)
                  go_wp2
                  go_ret
                  exact ⟨rfl, B5.out⟩
            · have HC := Lib.hid hc; clear hc
              go_wp2_with fail
              refine (valid_no n _ HC.out).mono ?_; rintro e wx ⟨rfl, rfl⟩
              go_wp2_with fail
              refine (awake6 _ (HTab.out.below B2.out)).mono ?_; rintro e w9 ⟨rfl, b9⟩
              have B9 := Lib.hid (bel_of B2.out b9); clear b9
              go_wp2
              go_ret
              exact ⟨rfl, B9.out⟩
          · go_wp2_with fail
            refine (left_no _ k f S s _ V1.out hk hw).mono ?_; rintro e w2 ⟨rfl, b2⟩
            have B2 := Lib.hid (bel_of B1.out b2); clear b2
            go_wp2_with fail
            refine (awake6 _ (HTab.out.below B2.out)).mono ?_; rintro e w9 ⟨rfl, b9⟩
            have B9 := Lib.hid (bel_of B2.out b9); clear b9
            go_wp2
            go_ret
            exact ⟨rfl, B9.out⟩
end Go.Proofs.YtehbbghobagkjaaDoor


/-
  Layer 6's statements: CoinsSeeds.
-/
namespace Go.Proofs.YtehbbghobagkjaaDoor
open Go.RowKit Go.Deep
set_option linter.unusedVariables false

theorem firstN_lt {S : List UInt8} {t n x : Nat} : ∀ (k a : Nat), firstN S t n a k = some x → x < n
  | 0, a, h => by cases h
  | k + 1, a, h => by
    unfold firstN at h
    split at h
    · rename_i hl; obtain rfl := Option.some.inj h; exact hl
    · exact firstN_lt k (a + 1) h
theorem nextV_seed {k : Nat} {f : Nat → ByteArray} {S n : ByteArray} {t : Nat} (h : ¬ t < k) (h2 : ¬ t = 2147483647) (hS : S.size ≠ 0) : nextV k f S t n = FBv (firstN S.data.toList t (V n) 0 256) := by
  unfold nextV
  rw [if_neg h, if_neg (fun q => q.elim h2 hS)]

set_option maxHeartbeats 16000000 in
set_option maxRecDepth 400000 in
theorem law_CoinsSeeds (v : Value) (k : Nat) (f : Nat → ByteArray) (S n : ByteArray) (wS : S.size ≤ maxLen) (wn : n.size ≤ maxLen) (w : World) (hv : SV w v k f) (hk : k ≤ maxLen) (htab : TabW w) :
    Calls Tryd.prog 7 #[v, .string S, .string n] w fun e w' => e = .returned (.bool true) ∧ Below w.heap.size w w' := by
  have HTab := Lib.hid htab; clear htab
  unfold maxLen at hk wS wn
  have HV0 := Lib.hid hv
  obtain ⟨p, cap, rfl, -⟩ := hv
  go_enter Tryd.func7, Tryd.ntmps7
  go_wp2_with fail
  refine (few_any _ k f S 0 _ HV0.out hk).mono ?_; rintro e w1 ⟨⟨b, rfl, hb⟩, b1⟩
  have HF := Lib.hid hb; clear hb
  have B1 := Lib.hid b1
  have V1 := Lib.hid (HV0.out.below b1)
  clear b1 HV0
  cases b with
  | false =>
    go_wp2_with fail
    refine (awake6 _ (HTab.out.below B1.out)).mono ?_; rintro e w9 ⟨rfl, b9⟩
    have B9 := Lib.hid (bel_of B1.out b9); clear b9
    go_wp2
    go_ret
    exact ⟨rfl, B9.out⟩
  | true =>
    obtain ⟨hk40, hS100, -⟩ := few_facts HF.out
    clear HF
    by_cases hn : (40 : Int) < n.size
    · have hd := decide_eq_true hn
      go_wp2_with fail
      refine (awake6 _ (HTab.out.below B1.out)).mono ?_; rintro e w9 ⟨rfl, b9⟩
      have B9 := Lib.hid (bel_of B1.out b9); clear b9
      go_wp2
      go_ret
      exact ⟨rfl, B9.out⟩
    · have hd := decide_eq_false hn
      by_cases hc : Can n
      · have HC := Lib.hid hc; clear hc
        go_wp2_with fail
        refine (valid_yes n _ HC.out).mono ?_; rintro e wx ⟨rfl, rfl⟩
        by_cases h0 : n.size = 0
        · have hE := empty_of h0
          go_wp2_with fail
          refine (awake6 _ (HTab.out.below B1.out)).mono ?_; rintro e w9 ⟨rfl, b9⟩
          have B9 := Lib.hid (bel_of B1.out b9); clear b9
          go_wp2
          go_ret
          exact ⟨rfl, B9.out⟩
        · have hE := not_empty_of h0
          have H0 := Lib.hid (Nat.pos_of_ne_zero h0); clear h0
          by_cases hs0 : S.size = 0
          · have hE2 := empty_of hs0
            go_wp2_with fail
            refine (awake6 _ (HTab.out.below B1.out)).mono ?_; rintro e w9 ⟨rfl, b9⟩
            have B9 := Lib.hid (bel_of B1.out b9); clear b9
            go_wp2
            go_ret
            exact ⟨rfl, B9.out⟩
          · have hE2 := not_empty_of hs0
            have HS0 := Lib.hid hs0; clear hs0
            have HK40 := Lib.hid hk40
            have HS1 := Lib.hid hS100
            go_wp2_with fail
            go_loop [7] (fun x => ∃ i : Nat, i ≤ k ∧ x = .int .i64 i ∧ Hid (∀ j, j < i → Can (f j))) (fun x => k - (intOf x).toNat)
            case atStart => exact ⟨0, by omega, rfl, fun j hj => absurd hj (by omega)⟩
            case round =>
              obtain ⟨i, hi, rfl, HI⟩ := hrel
              by_cases hlt : i < k
              · obtain ⟨p', cap', e', hc2⟩ := V1.out
                obtain ⟨rfl, rfl⟩ : p = p' ∧ cap = cap' := by cases e'; exact ⟨rfl, rfl⟩
                obtain ⟨a, rfl, ha, hcell⟩ := hc2 i hlt
                clear hc2 e'
                have hlti : (i : Int) < (k : Int) := by omega
                by_cases hcan : Can (f i)
                · have HN := Lib.hid (all_upto (P := fun j => Can (f j)) HI.out hcan)
                  have HCN := Lib.hid hcan; clear hcan
                  go_wp2_with fail
                  refine (valid_yes (f i) _ HCN.out).mono ?_; rintro e wx ⟨rfl, rfl⟩
                  go_wp2
                  go_round
                  case rel => exact ⟨i + 1, by omega, by go_num, HN.out⟩
                  case measure => simp [intOf]; omega
                · have HCN := Lib.hid hcan; clear hcan
                  go_wp2_with fail
                  refine (valid_no (f i) _ HCN.out).mono ?_; rintro e wx ⟨rfl, rfl⟩
                  go_wp2_with fail
                  refine (awake6 _ (HTab.out.below B1.out)).mono ?_; rintro e w9 ⟨rfl, b9⟩
                  have B9 := Lib.hid (bel_of B1.out b9); clear b9
                  go_wp2
                  go_ret
                  exact ⟨rfl, B9.out⟩
              · obtain rfl : i = k := by omega
                have HW := Lib.hid (show WF i f (i : Int) from ⟨HI.out, by omega, by have := HK40.out; omega⟩)
                have HW0 := Lib.hid (show WF 0 f (i : Int) from ⟨fun j hj => absurd hj (by omega), by omega, by have := HK40.out; omega⟩)
                have hx1 := nextV_seed (f := f) (n := n) (show ¬ i < i by omega) (show ¬ i = 2147483647 by have := HK40.out; omega) HS0.out
                have hx2 := nextV_seed (f := f) (n := n) (show ¬ i < 0 by omega) (show ¬ i = 2147483647 by have := HK40.out; omega) HS0.out
                have HNL : ¬ i < i := by omega
                cases hx : firstN S.data.toList i (V n) 0 256 with
                | none =>
                  rw [hx] at hx1 hx2
                  have CA := Lib.hid (fun W hV hT => (show Calls Tryd.prog 18 #[.agg #[.slice p i cap, .string S, .int .i64 i], .string n] W fun e w' => NoTape 14 W e w' from below_none _ i f S i n W hV hk HW.out HC.out H0.out (by have := HS1.out; omega) hT hx1 (by omega)))
                  have CB := Lib.hid (fun W hT => (show Calls Tryd.prog 18 #[.agg #[.slice none 0 0, .string S, .int .i64 i], .string n] W fun e w' => NoTape 14 W e w' from below_none _ 0 f S i n W (SV.nil W f) (by omega) HW0.out HC.out H0.out (by have := HS1.out; omega) hT hx2 (by omega)))
                  clear hx hx1 hx2 hi hk40 hS100
                  go_wp2_with fail
                  refine (CA.out _ V1.out (HTab.out.below B1.out)).mono ?_; rintro e w3 ⟨rfl, b3⟩
                  have B3 := Lib.hid (bel_of (bel_of B1.out b3) (bel_alloc w3 (.cells #[.slice none 0 0, .string ⟨#[]⟩, .int .i64 0] 24)))
                  clear b3
                  go_wp2_with fail
                  refine (CB.out _ (HTab.out.below B3.out)).mono ?_; rintro e w4 ⟨rfl, b4⟩
                  have B4 := Lib.hid (bel_of (bel_of B3.out b4) (bel_alloc w4 (.cells #[.slice none 0 0, .string ⟨#[]⟩, .int .i64 0] 24)))
                  clear b4
                  go_wp2_with fail
                  refine (awake6 _ (HTab.out.below B4.out)).mono ?_; rintro e w9 ⟨rfl, b9⟩
                  have B9 := Lib.hid (bel_of B4.out b9); clear b9
                  go_wp2
                  go_ret
                  exact ⟨rfl, B9.out⟩
                | some x =>
                  have hxn := firstN_lt 256 0 hx
                  rw [hx] at hx1 hx2
                  have hcx : Can (E x) := can_E' (by have := V_lim HC.out; omega)
                  have hcmp := Lib.hid (fun W => (show Calls Tryd.prog 19 #[.string (E x), .string n] W fun e w' => e = .returned (.int .i64 (-1)) ∧ W = w' by
                    have h := cmp_yes (E x) n W hcx HC.out
                    rw [V_E, sgn_lt0 hxn] at h
                    exact h))
                  obtain ⟨t1, ht1⟩ : ∃ t1 : Int, t1 = ((i + 1 : Nat) : Int) := ⟨_, rfl⟩
                  have CA := Lib.hid (fun W hV hT => (show Calls Tryd.prog 18 #[.agg #[.slice p i cap, .string S, .int .i64 i], .string n] W fun e w' => DrawP (E x) i f S t1 W e w' by rw [ht1]; exact below_some _ i f S i n W hV (by have := HK40.out; omega) HW.out HC.out H0.out (by have := HS1.out; omega) hT hx1))
                  have CB := Lib.hid (fun W hT => (show Calls Tryd.prog 18 #[.agg #[.slice none 0 0, .string S, .int .i64 i], .string n] W fun e w' => DrawP (E x) 0 f S t1 W e w' by rw [ht1]; exact below_some _ 0 f S i n W (SV.nil W f) (by omega) HW0.out HC.out H0.out (by have := HS1.out; omega) hT hx2))
                  have HK := Lib.hid hk
                  clear hx hx1 hx2 hi hk40 hS100 hxn hcx ht1
                  go_wp2_with fail
                  refine (CA.out _ V1.out (HTab.out.below B1.out)).mono ?_; rintro e w3 ⟨g3, c3, rfl, hg3, hs3, b3⟩
                  have d3 := bel_alloc w3 (.cells #[.slice (some ⟨g3, 0, none⟩) i c3, .string S, .int .i64 t1] 24)
                  have B3 := Lib.hid (bel_of (bel_of B1.out b3) d3)
                  have U3 := Lib.hid (Three.new w3 (.slice (some ⟨g3, 0, none⟩) i c3) (.string S) (.int .i64 t1) 24 _ rfl)
                  have X3 := Lib.hid (hs3.below d3)
                  have V3 := Lib.hid ((V1.out.below b3).below d3)
                  clear b3 d3 hs3 hg3
                  go_wp2_with fail
                  refine (CB.out _ (HTab.out.below B3.out)).mono ?_; rintro e w4 ⟨g4, c4, rfl, hg4, hs4, b4⟩
                  have d4 := bel_alloc w4 (.cells #[.slice (some ⟨g4, 0, none⟩) 0 c4, .string S, .int .i64 t1] 24)
                  have B4 := Lib.hid (bel_of (bel_of B3.out b4) d4)
                  have U4 := Lib.hid ((U3.out.below b4 rfl).below d4 rfl)
                  have X4 := Lib.hid ((X3.out.below b4).below d4)
                  have V4 := Lib.hid ((V3.out.below b4).below d4)
                  have Y4 := Lib.hid (Three.new w4 (.slice (some ⟨g4, 0, none⟩) 0 c4) (.string S) (.int .i64 t1) 24 _ rfl)
                  clear b4 d4 hs4 hg4 U3 X3 V3 CA CB
                  go_wp2_with fail
                  refine (awake6 _ (HTab.out.below B4.out)).mono ?_; rintro e w5 ⟨rfl, b5⟩
                  have B5 := Lib.hid (bel_of B4.out b5)
                  have X5 := Lib.hid (X4.out.below b5)
                  have V5 := Lib.hid (V4.out.below b5)
                  have U5 := Lib.hid (U4.out.below b5 rfl)
                  have Y5 := Lib.hid (Y4.out.below b5 rfl)
                  clear b5 X4 V4 U4 Y4
                  obtain ⟨u0, u1, u2, u3, u4, u5, u6⟩ := U5.out
                  obtain ⟨y0, y1, y2, y3, y4, y5, y6⟩ := Y5.out
                  go_wp2_with fail
                  refine (hcmp.out _).mono ?_; rintro e wx ⟨rfl, rfl⟩
                  go_wp2_with fail
                  refine (snats_yes _ _ i f _ X5.out V5.out HK.out).mono ?_; rintro e w6 ⟨rfl, b6⟩
                  have B6 := Lib.hid (bel_of B5.out b6)
                  have Y6 := Lib.hid (Y5.out.below b6 rfl)
                  clear b6 u0 u1 u2 u3 u4 u5 u6 y0 y1 y2 y3 y4 y5 y6
                  obtain ⟨y0, y1, y2, y3, y4, y5, y6⟩ := Y6.out
                  go_wp2
                  go_ret
                  exact ⟨rfl, B6.out⟩
      · have HC := Lib.hid hc; clear hc
        go_wp2_with fail
        refine (valid_no n _ HC.out).mono ?_; rintro e wx ⟨rfl, rfl⟩
        go_wp2_with fail
        refine (awake6 _ (HTab.out.below B1.out)).mono ?_; rintro e w9 ⟨rfl, b9⟩
        have B9 := Lib.hid (bel_of B1.out b9); clear b9
        go_wp2
        go_ret
        exact ⟨rfl, B9.out⟩
end Go.Proofs.YtehbbghobagkjaaDoor

