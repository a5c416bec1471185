/-
  Contracts of package natural, the eleventh part: divide, DivMod.
-/
import Derived.Test.YtjbcicgbemepbaaDoorNat10
namespace Go.Proofs.YtjbcicgbemepbaaDoor
open Go.RowKit
set_option linter.unusedVariables false

theorem setCells_row {g t L : Nat} : ∀ (ns : List Nat) (o : Nat) (w : World) (f : Nat → Nat), w.rowIs g t L (fun j => .int .u32 (f j : Nat)) →
    ∃ f' : Nat → Nat, (w.setCells g o (ns.map fun x => Value.int .u32 (x : Nat))).rowIs g t L (fun j => .int .u32 (f' j : Nat)) ∧ (∀ i (h : i < ns.length), f' (o + i) = ns[i]) ∧ (∀ j, j < o → f' j = f j) ∧ Only g w (w.setCells g o (ns.map fun x => Value.int .u32 (x : Nat))) := by
  intro ns
  induction ns with
  | nil => intro o w f h; exact ⟨f, h, fun i hi => absurd hi (by simp), fun _ _ => rfl, Only.refl _ _⟩
  | cons x ns ih =>
    intro o w f h
    have h1 := set_row (h := fun j => if j = o then x else f j) h (i := o) (v := (x : Nat)) (by simp) (fun j hj => by simp [hj])
    obtain ⟨f', r1, r2, r3, r4⟩ := ih (o + 1) _ _ h1
    refine ⟨f', r1, fun i hi => ?_, fun j hj => ?_, ((Only.refl g w).set o _).trans r4⟩
    · cases i with
      | zero => rw [Nat.add_zero, r3 o (by omega)]; simp
      | succ i =>
        have := r2 i (by simpa using hi)
        rw [show o + (i + 1) = o + 1 + i by omega, this]; rfl
    · rw [r3 j (by omega)]
      show (if j = o then _ else _) = _
      rw [if_neg (by omega)]
theorem run_copy_words {W : World} {g t n gu ou c cu N ty : Nat} (h : W.rowIs g t n (fun _ => .int .u32 0)) (hu : Words W gu ou n N) :
    ∃ W', (Builtin.copy_ #[44, 44] ty #[.slice (some ⟨g, 0, none⟩) n c, .slice (some ⟨gu, ou, none⟩) n cu]).run Tryd.prog W = .ok (goInt n) W' ∧ Row W' g t n n N ∧ Only g W W' := by
  have hr : W.rowIs g t n (fun j => .int .u32 ((fun _ => 0 : Nat → Nat) j : Nat)) := h
  obtain ⟨f', r1, r2, r3, r4⟩ := setCells_row ((List.range n).map (wd N)) 0 W _ hr
  have hlen : (((List.range n).map (wd N)).map fun x => Value.int .u32 (x : Nat)).length = n := by simp
  refine ⟨_, ?_, ⟨f', r1, fun j hj => ?_⟩, r4⟩
  · have hs : ((Tryd.prog.info? 49).map (·.size)) = some 1 := by kernel_rfl
    have := Go.run_copy_cells (P := Tryd.prog) W 44 44 ty 49 g 0 n c ⟨gu, ou, none⟩ n cu (((List.range n).map (wd N)).map fun x => Value.int .u32 (x : Nat)) Tryd.underlying44 hs (by simp)
      (fun j v hj => by
        have hjn : j < n := by
          have := (List.getElem?_eq_some_iff.1 hj).1
          simpa using this
        have e : (⟨gu, ou, none⟩ : Addr).add j = ⟨gu, ou + j, none⟩ := by unfold Addr.add; split <;> simp_all
        rw [e, hu j hjn]
        simp [hjn] at hj
        rw [hj]) (fun j hj => by rw [Nat.zero_add, h.cell (by simpa using hj)]; rfl) (fun j _ => h.frozen _) (fun v hv => by
        simp at hv
        obtain ⟨a, _, rfl⟩ := hv
        rfl)
    rw [hlen] at this
    exact this
  · have := r2 j (by simpa using hj)
    simpa using this

theorem nd_one {D : Nat} (h : nd D = 1) : D < 4294967296 ∧ 0 < D ∧ wd D 0 = D := by
  have h1 := nd_lt D
  rw [h, Nat.pow_one] at h1
  refine ⟨h1, ?_, ?_⟩
  · rcases Nat.eq_zero_or_pos D with e | e
    · rw [e] at h; exact absurd h (by decide)
    · exact e
  · unfold wd; simp; exact Nat.mod_eq_of_lt h1
theorem nd_small {U D : Nat} (h : nd U < nd D) : U < D := by
  rcases Nat.lt_or_ge U D with h1 | h1
  · exact h1
  · have : nd D ≤ nd U := nd_le.2 (Nat.lt_of_le_of_lt h1 (nd_lt U))
    omega
theorem nd_top {D : Nat} (h : 2 ≤ nd D) : wd D (nd D - 1) ≠ 0 := by
  intro e
  have h1 : D < B32 ^ (nd D - 1 + 1) := by rw [Nat.sub_add_cancel (by omega)]; exact nd_lt D
  have := nd_le.2 ((wd_top h1).1 e)
  omega

set_option maxHeartbeats 1000000 in
set_option maxRecDepth 20000 in
theorem divide_any (vu vv : Value) (U D : Nat) (w : World) (hu : Sl w vu (nd U) U) (hv : Sl w vv (nd D) D) (hn : nd U ≤ 100) (hD : 0 < D) (hn2 : nd D ≤ 100) :
    Calls Tryd.prog 25 #[vu, vv] w (DivP U D w) := by
  have hu0 := hu
  obtain ⟨A, c, rfl, h1, h2, h3⟩ := hu
  obtain ⟨A', c', rfl, h4, h5, h6⟩ := hv
  have hd1 := nd_pos hD
  obtain ⟨gv, ov, rfl, hgv, hwv⟩ := h6 hd1
  have HU0 := Lib.hid hu0; clear hu0
  have HWV := Lib.hid hwv; clear hwv
  clear h6
  by_cases hlt : nd U < nd D
  · have hud := nd_small hlt
    have e1 : U / D = 0 := Nat.div_eq_of_lt hud
    have e2 : U % D = U := Nat.mod_eq_of_lt hud
    have E1 := Lib.hid e1; clear e1
    have E2 := Lib.hid e2; clear e2
    clear h3
    have hlti : (nd U : Int) < (nd D : Int) := by omega
    go_enter Tryd.func25, Tryd.ntmps25
    go_wp2
    go_ret2
    refine ⟨_, _, rfl, ?_, ?_, Below.refl _ _⟩
    · rw [E1.out]; exact ⟨none, 0, rfl, by decide, by omega, fun h => absurd h (by decide)⟩
    · rw [E2.out]; exact HU0.out
  · obtain ⟨gu, ou, rfl, hgu, hwu⟩ := h3 (by omega)
    have HWU := Lib.hid hwu; clear hwu h3
    by_cases hone : nd D = 1
    · have hn1 := nd_one hone
      have hcell := HWV.out 0 (by omega)
      rw [hn1.2.2] at hcell
      have hul := nd_lt U
      have hone' : ((nd D : Int) == 1) = true := by rw [hone]; rfl
      have HUL := Lib.hid hul; clear hul
      have hD1 : D < 4294967296 := hn1.1
      have HONE := Lib.hid hone
      rw [hone] at hlt h4 ⊢
      clear hn1 hone hone' hd1 hn2
      generalize hn' : nd U = n at *
      have HN := Lib.hid hn'; clear hn'
      have hmk := run_make_words n (by omega)
      go_enter Tryd.func25, Tryd.ntmps25
      go_wp2
      have hr1 : (w.alloc (.cells (madeCells #[.int .u32 0] n) 49)).rowIs w.heap.size 49 n (fun _ => .int .u32 0) := World.rowIs_made w (.int .u32 0) n _
      have hb1 : Below w.heap.size w (w.alloc (.cells (madeCells #[.int .u32 0] n) 49)) := (Below.refl _ _).alloc (Nat.le_refl _) _
      have hw1 := HWU.out.below hb1 hgu
      have hc1 : (w.alloc (.cells (madeCells #[.int .u32 0] n) 49)).cell? ⟨gv, ov, none⟩ = some (.int .u32 (D : Nat)) := (hb1.cell (p := ⟨gv, ov, none⟩) hgv).trans hcell
      have hs1 : (w.alloc (.cells (madeCells #[.int .u32 0] n) 49)).heap.size = w.heap.size + 1 := by simp
      generalize w.alloc _ = w1 at *
      obtain ⟨w2, hrun, hrow2, ho2⟩ := run_copy_words (c := n) (cu := c) (ty := 3) hr1 hw1
      rw [hrun]
      have hc2 : w2.cell? ⟨gv, ov, none⟩ = some (.int .u32 (D : Nat)) := by
        rw [ho2.cell (by omega) (by omega)]; exact hc1
      have hb2 : Below w.heap.size w w2 := ho2.below hb1 (by omega) (Nat.le_refl _)
      have HR2 := Lib.hid hrow2; clear hrow2
      have hg2 : w.heap.size < w2.heap.size := HR2.out.lt
      clear hrun ho2 hr1 hb1 hw1 hc1 hs1 hmk hcell
      go_wp2_with fail
      refine (divideByDigit_any w.heap.size n n D n 49 U _ (by omega) (by omega) (by omega) hD hD1 HR2.out HUL.out).mono ?_
      rintro e w3 ⟨rfl, hrow3, ho3⟩
      have hrl : U % D < 4294967296 := Nat.lt_trans (Nat.mod_lt _ hD) hD1
      obtain ⟨r, hr⟩ : ∃ r, r = U % D := ⟨_, rfl⟩
      rw [← hr] at hrl ⊢
      have HRR := Lib.hid hr; clear hr
      have hb3 : Below w.heap.size w w3 := ho3.below hb2 (by omega) (Nat.le_refl _)
      have hg3 : w.heap.size < w3.heap.size := Nat.lt_of_lt_of_le hg2 ho3.size
      have hq : U / D < B32 ^ n := Nat.lt_of_le_of_lt (Nat.div_le_self _ _) HUL.out
      have hqw := hrow3.words (Nat.le_refl _)
      have HQ := Lib.hid hq; clear hq
      have HQW := Lib.hid hqw; clear hqw hrow3 hc2 hb2
      go_wp2_with fail
      refine (trim_any w.heap.size 0 n n (U / D) _ (by omega) (by omega) HQ.out HQW.out).mono ?_
      rintro e w' ⟨rfl, rfl⟩
      go_wp2_with fail
      have hwr : Words (w3.alloc (.cells #[.int .u32 (r : Nat)] 49)) w3.heap.size 0 1 r := by
        intro j hj
        obtain rfl : j = 0 := by omega
        rw [Nat.add_zero, World.cell?_alloc_new]
        unfold wd
        rw [Nat.pow_zero, Nat.div_one, b32_eq, Nat.mod_eq_of_lt hrl]
        rfl
      have hb4 : Below w3.heap.size w3 (w3.alloc (.cells #[.int .u32 (r : Nat)] 49)) := (Below.refl _ _).alloc (Nat.le_refl _) _
      have hs4 : (w3.alloc (.cells #[.int .u32 (r : Nat)] 49)).heap.size = w3.heap.size + 1 := by simp
      have hr1 : r < B32 ^ 1 := by rw [Nat.pow_one]; exact hrl
      refine (trim_any w3.heap.size 0 1 1 r _ (by omega) (by omega) hr1 hwr).mono ?_
      rintro e w' ⟨rfl, rfl⟩
      generalize w3.alloc _ = w4 at *
      have HW4 := Lib.hid hwr; clear hwr
      have HR1 := Lib.hid hr1; clear hr1
      go_wp2
      go_ret2
      have hn1 : nd (U / D) ≤ n := nd_le.2 HQ.out
      have hn2 : nd r ≤ 1 := nd_le.2 HR1.out
      have hq4 := HQW.out.below hb4 hg3
      refine ⟨_, _, rfl, ⟨_, _, rfl, by omega, by omega, fun _ => ⟨_, 0, rfl, by omega, fun i hi => hq4 i (by omega)⟩⟩, ?_, hb3.trans (hb4.mono hb3.size)⟩
      rw [← HRR.out]
      exact ⟨_, _, rfl, by omega, by omega, fun _ => ⟨_, 0, rfl, by omega, fun i hi => HW4.out i (by omega)⟩⟩
    · have htop := nd_top (show 2 ≤ nd D by omega)
      have hul := nd_lt U
      have hdl := nd_lt D
      have HT := Lib.hid htop; clear htop
      have HUL := Lib.hid hul; clear hul
      have HDL := Lib.hid hdl; clear hdl
      generalize hn' : nd U = n at *
      generalize hm' : nd D = m at *
      have HN := Lib.hid hn'; clear hn'
      have HM := Lib.hid hm'; clear hm'
      have hm1 : ((m : Int) == 1) = false := by rw [beq_eq_false_iff_ne]; omega
      go_enter Tryd.func25, Tryd.ntmps25
      go_wp2_with fail
      refine (divideLong_any gu ou n c gv ov m c' U D _ (by omega) (by omega) hn h1 h2 h4 h5 hgu hgv HUL.out HDL.out HT.out HWU.out HWV.out).mono ?_
      rintro e w' ⟨v1, v2, rfl, s1, s2, hb⟩
      have S1 := Lib.hid s1; clear s1
      have S2 := Lib.hid s2; clear s2
      go_wp2
      go_ret2
      exact ⟨v1, v2, rfl, S1.out, S2.out, hb⟩

theorem sl_load {w : World} {s : ByteArray} {g : Nat} (h : Can s) (hr : w.rowIs g 49 ((s.size + 3) / 4) (fun j => .int .u32 (wd (V s) j : Nat))) :
    Sl w (.slice (some ⟨g, 0, none⟩) ((s.size + 3) / 4) ((s.size + 3) / 4)) (nd (V s)) (V s) := by
  have h1 := h.1
  rw [← nd_can h] at hr ⊢
  have h2 : nd (V s) ≤ 100 := by rw [nd_can h]; omega
  exact ⟨_, _, rfl, Nat.le_refl _, by omega, fun _ => ⟨g, 0, rfl, hr.lt, words_of_row hr (Nat.le_refl _)⟩⟩
/-- Quotient and remainder, or ErrZero. -/
def divN (a b : Nat) : Value := if b = 0 then .tuple #[.string (E 0), .string (E 0), .int .i64 11] else .tuple #[.string (E (a / b)), .string (E (a % b)), .int .i64 0]
theorem ret_three {a b c x y z : Value} (h1 : a = x) (h2 : b = y) (h3 : c = z) : Ending.returned (.tuple #[a, b, c]) = .returned (.tuple #[x, y, z]) := by rw [h1, h2, h3]

set_option maxHeartbeats 400000 in
theorem divMod_no (s t : ByteArray) (w : World) (h : ¬ (Can s ∧ Can t)) :
    Calls Tryd.prog 13 #[.string s, .string t] w fun e w' => e = .returned (.tuple #[.string (E 0), .string (E 0), .int .i64 3]) ∧ w = w' := by
  by_cases hc : Can s
  · have hd : ¬ Can t := fun q => h ⟨hc, q⟩
    have HC := Lib.hid hc; clear hc h
    have HD := Lib.hid hd; clear hd
    go_enter Tryd.func13, Tryd.ntmps13
    go_wp2_with fail
    refine (valid_yes s _ HC.out).mono ?_; rintro e w' ⟨rfl, rfl⟩
    go_wp2_with fail
    refine (valid_no t _ HD.out).mono ?_; rintro e w' ⟨rfl, rfl⟩
    go_wp2
    go_ret3
    exact ⟨rfl, rfl⟩
  · have HC := Lib.hid hc; clear hc h
    go_enter Tryd.func13, Tryd.ntmps13
    go_wp2_with fail
    refine (valid_no s _ HC.out).mono ?_; rintro e w' ⟨rfl, rfl⟩
    go_wp2
    go_ret3
    exact ⟨rfl, rfl⟩
theorem V_zero_iff {s : ByteArray} (h : Can s) : V s = 0 ↔ s.size = 0 := by
  constructor
  · intro e
    have := enc_bval h.2
    unfold V at e
    rw [e] at this
    rw [size_eq, ← this]; rfl
  · intro e
    unfold V
    have : s.data.toList = [] := List.eq_nil_of_length_eq_zero (by rw [← size_eq]; exact e)
    rw [this]; rfl

set_option maxHeartbeats 1000000 in
theorem divMod_yes (s t : ByteArray) (w : World) (hs : Can s) (ht : Can t) :
    Calls Tryd.prog 13 #[.string s, .string t] w fun e w' => e = .returned (divN (V s) (V t)) ∧ Below w.heap.size w w' := by
  by_cases h0 : t.size = 0
  · have hE := empty_of h0
    have hz : divN (V s) (V t) = .tuple #[.string (E 0), .string (E 0), .int .i64 11] := by unfold divN; rw [if_pos ((V_zero_iff ht).2 h0)]
    rw [hz]
    have HS := Lib.hid hs; clear hs
    have HT := Lib.hid ht; clear ht hz h0
    go_enter Tryd.func13, Tryd.ntmps13
    go_wp2_with fail
    refine (valid_yes s _ HS.out).mono ?_; rintro e w' ⟨rfl, rfl⟩
    go_wp2_with fail
    refine (valid_yes t _ HT.out).mono ?_; rintro e w' ⟨rfl, rfl⟩
    go_wp2
    go_ret3
    exact ⟨rfl, Below.refl _ _⟩
  · have hE := not_empty_of h0
    have hv0 : V t ≠ 0 := fun e => h0 ((V_zero_iff ht).1 e)
    have hz : divN (V s) (V t) = .tuple #[.string (E (V s / V t)), .string (E (V s % V t)), .int .i64 0] := by unfold divN; rw [if_neg hv0]
    rw [hz]
    have h1 := hs.1
    have h2 := ht.1
    have hq : V s / V t < Lim := Nat.lt_of_le_of_lt (Nat.div_le_self _ _) (V_lim hs)
    have hr : V s % V t < Lim := Nat.lt_of_le_of_lt (Nat.mod_le _ _) (V_lim hs)
    have hdp : 0 < V t := by omega
    have HS := Lib.hid hs; clear hs
    have HT := Lib.hid ht; clear ht hz h0 hv0
    have HQ := Lib.hid (okN_yes hq); clear hq
    have HR := Lib.hid (okN_yes hr); clear hr
    go_enter Tryd.func13, Tryd.ntmps13
    go_wp2_with fail
    refine (valid_yes s _ HS.out).mono ?_; rintro e w' ⟨rfl, rfl⟩
    go_wp2_with fail
    refine (valid_yes t _ HT.out).mono ?_; rintro e w' ⟨rfl, rfl⟩
    go_wp2_with fail
    refine (load_any s _ (by omega)).mono ?_
    rintro e w1 ⟨rfl, hx, hb1⟩
    have HX := Lib.hid (sl_load HS.out hx); clear hx
    go_wp2_with fail
    refine (load_any t _ (by omega)).mono ?_
    rintro e w2 ⟨rfl, hy, hb2⟩
    have HY := Lib.hid (sl_load HT.out hy); clear hy
    have HX2 := Lib.hid (HX.out.below hb2); clear HX
    have hn1 : nd (V s) ≤ 100 := by rw [nd_can HS.out]; omega
    have hn2 : nd (V t) ≤ 100 := by rw [nd_can HT.out]; omega
    go_wp2_with fail
    refine (divide_any _ _ (V s) (V t) _ HX2.out HY.out hn1 hdp hn2).mono ?_
    rintro e w3 ⟨v1, v2, rfl, s1, s2, hb3⟩
    have S1 := Lib.hid s1; clear s1
    have S2 := Lib.hid s2; clear s2
    go_wp2_with fail
    refine (store_any v1 _ _ _ (nd_lt _) S1.out).mono ?_
    rintro e w4 ⟨rfl, hb4⟩
    rw [HQ.out]
    have S3 := Lib.hid (S2.out.below hb4); clear S2
    go_wp2_with fail
    refine (store_any v2 _ _ _ (nd_lt _) S3.out).mono ?_
    rintro e w5 ⟨rfl, hb5⟩
    rw [HR.out]
    go_wp2
    go_ret3
    have l1 := hb1.size
    have l2 := hb2.size
    have l3 := hb3.size
    have l4 := hb4.size
    exact ⟨rfl, (((hb1.trans (hb2.mono (by omega))).trans (hb3.mono (by omega))).trans (hb4.mono (by omega))).trans (hb5.mono (by omega))⟩
end Go.Proofs.YtjbcicgbemepbaaDoor
