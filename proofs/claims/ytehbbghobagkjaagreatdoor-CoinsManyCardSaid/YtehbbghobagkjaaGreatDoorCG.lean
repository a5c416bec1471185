/-
  Several parts in one text (CG).
-/
import Derived.Test.YtehbbghobagkjaaGreatDoorCE
import Derived.Test.YtehbbghobagkjaaGreatDoorCH
/-
  The reference of package coins, the eleventh part: Many.
-/
namespace Go.Proofs.YtehbbghobagkjaaGreatDoor
open Go.RowKit Go.Deep
set_option linter.unusedVariables false

/-- A list that was there before the call, or is the call's own. -/
def OldV (w : World) (B : Nat) (v : Value) (k : Nat) (f : Nat → ByteArray) : Prop := SV w v k f ∨ NewV B v
theorem OldV.keep {w W : World} {B : Nat} {v : Value} {k : Nat} {f : Nat → ByteArray} (h : OldV w B v k f) (hs : SV W v k f) {p : Addr} (hp : p.block < B) (hw : w.heap.size ≤ p.block) (b : Below w.heap.size w W) (x : Value) : SV (W.setCell p x) v k f := by
  rcases h with h | h
  · exact h.below (b.setCell hw x)
  · exact hs.far (h.ne hp) rfl x
def RManyOk (c k : Nat) (f X : Nat → ByteArray) (S : ByteArray) (t : Int) (E : Nat → Int) (w : World) (e : Ending) (w' : World) : Prop :=
  (∀ j, j < c → E j = 0) ∧ ∃ q cq q2 cg, e = .returned (.tuple #[.slice q c cq, .agg #[.slice q2 k cg, .string S, .int .i64 t], .int .i64 0]) ∧ SV w' (.slice q c cq) c X ∧ SV w' (.slice q2 k cg) k f ∧ Below w.heap.size w w'
def RManyP (c k : Nat) (f X : Nat → ByteArray) (S : ByteArray) (t : Int) (E : Nat → Int) (w : World) (e : Ending) (w' : World) : Prop := ManyNo c E w e w' ∨ RManyOk c k f X S t E w e w'
def RManR (w : World) (k : Nat) (f X : Nat → ByteArray) (S : ByteArray) (t c : Nat) (E : Nat → Int) (y : Nat) (vd vi : Value) (wr : World) : Prop :=
  ∃ i p cap, i + y = c ∧ vi = .int .i64 i ∧ t + i ≤ 2147483647 ∧ (∀ j, j < i → E j = 0) ∧ Below w.heap.size w wr ∧ Three wr w.heap.size (.slice p k cap) (.string S) (.int .i64 ((t + i : Nat) : Int)) ∧ SV wr (.slice p k cap) k f ∧ OldV w (w.heap.size + 1 + 1) (.slice p k cap) k f ∧
    Three wr (w.heap.size + 1) (.slice none 0 0) (.string ⟨#[]⟩) (.int .i64 0) ∧ wr.ownsRow (w.heap.size + 1 + 1) 25 1 vd i (svC i X) ∧ w.heap.size + 1 + 1 ≤ wr.heap.size
theorem Three.away6 {w : World} {b g : Nat} {c0 c1 c2 : Value} (h : Three w g c0 c1 c2) (hne : b ≠ g) (x y z : Value) : Three (((w.setCell ⟨b, 0, none⟩ x).setCell ⟨b, 1, none⟩ y).setCell ⟨b, 2, none⟩ z) g c0 c1 c2 := by
  obtain ⟨q0, q1, q2, q3, q4, q5, q6⟩ := h
  refine ⟨?_, ?_, ?_, ?_, ?_, ?_, ?_⟩
  · rw [World.cell?_setCell_far _ _ _ _ hne, World.cell?_setCell_far _ _ _ _ hne, World.cell?_setCell_far _ _ _ _ hne]; exact q0
  · rw [World.cell?_setCell_far _ _ _ _ hne, World.cell?_setCell_far _ _ _ _ hne, World.cell?_setCell_far _ _ _ _ hne]; exact q1
  · rw [World.cell?_setCell_far _ _ _ _ hne, World.cell?_setCell_far _ _ _ _ hne, World.cell?_setCell_far _ _ _ _ hne]; exact q2
  · simp [go_sem, q3]
  · simp [go_sem, q4]
  · simp [go_sem, q5]
  · simp only [World.size_setCell]; exact q6
theorem own_set3 {w : World} {B b n : Nat} {v : Value} {xs : List Value} {e : Nat} (h : w.ownsRow B e 1 v n xs) (hb : b < B) (x y z : Value) : (((w.setCell ⟨b, 0, none⟩ x).setCell ⟨b, 1, none⟩ y).setCell ⟨b, 2, none⟩ z).ownsRow B e 1 v n xs := by
  have key : ∀ (W : World) (o : Nat) (u : Value), W.ownsRow B e 1 v n xs → (W.setCell ⟨b, o, none⟩ u).ownsRow B e 1 v n xs := fun W o u hW =>
    hW.kept (grown_set6 W ⟨b, o, none⟩ u) (.inr fun q => by have := own_geS hW _ q; simp at this; omega)
  exact key _ 2 z (key _ 1 y (key _ 0 x h))
theorem one_cellsT (W : World) (x : Value) (t : TypeId) (o : Obj) : ∀ j u, [x][j]? = some u → ((W.alloc o).alloc (.cells #[x] t)).cell? ((⟨W.heap.size + 1, 0, none⟩ : Addr).add j) = some u := by
  have h := one_cellsS (W.alloc o) x t
  rw [World.size_alloc] at h
  exact h
theorem own_sv {W w3 : World} {C k c : Nat} {q : Option Addr} {f : Nat → ByteArray} {v : Value} {o : Obj} (h : SV W (.slice q k c) k f) (hn : NewV C (.slice q k c)) (hg : (W.alloc o).grownBy w3 v.ownBlock) (hv : ∀ k, v.ownBlock = some k → k < C) : SV w3 (.slice q k c) k f := by
  have h2 := h.below (bel_alloc W o)
  rcases hn with e | ⟨g, k', c', e, hC⟩
  · cases e; exact SV.nil _ _
  · obtain ⟨q', c2, e2, hc⟩ := h2
    obtain ⟨rfl, rfl⟩ : q = q' ∧ c = c2 := by cases e2; exact ⟨rfl, rfl⟩
    obtain rfl : q = some ⟨g, 0, none⟩ := by cases e; rfl
    refine ⟨_, _, rfl, fun j hj => ?_⟩
    obtain ⟨a, e1, hb, hcell⟩ := hc j hj
    obtain rfl : (⟨g, 0, none⟩ : Addr) = a := Option.some.inj e1
    refine ⟨_, rfl, Nat.lt_of_lt_of_le hb hg.size, hg.cell hcell (fun q => ?_)⟩
    have := hv _ q.symm
    rw [add_blk] at this
    show False
    have h9 : g < C := this
    omega
/-- What the call's own row leaves: all below B. -/
theorem own_under {W w3 : World} {B : Nat} {v : Value} {o : Obj} (hB : B ≤ W.heap.size) (hg : (W.alloc o).grownBy w3 v.ownBlock) (hv : ∀ k, v.ownBlock = some k → B ≤ k) : Below B W w3 :=
  ((Below.refl B W).alloc hB o).grown hg (by rw [World.size_alloc]; omega) hv
theorem own_three {W w3 : World} {b : Nat} {c0 c1 c2 v : Value} {o : Obj} (h : Three W b c0 c1 c2) (hb : b + 1 = W.heap.size) (hg : (W.alloc o).grownBy w3 v.ownBlock) (hv : ∀ k, v.ownBlock = some k → k < b) : Three w3 b c0 c1 c2 := by
  have h2 := h.alloc o
  have hne : ∀ (a : Addr), a.block = b → some a.block ≠ v.ownBlock := fun a ha q => by have := hv _ q.symm; omega
  obtain ⟨q0, q1, q2, q3, q4, q5, q6⟩ := h2
  have hbl := hg.block b q6 (fun q => by have := hv _ q.symm; omega)
  refine ⟨hg.cell q0 (hne _ rfl), hg.cell q1 (hne _ rfl), hg.cell q2 (hne _ rfl), ?_, ?_, ?_, Nat.lt_of_lt_of_le q6 hg.size⟩
  · rw [World.frozen?_of_block (w := W.alloc o) hbl]; exact q3
  · rw [World.frozen?_of_block (w := W.alloc o) hbl]; exact q4
  · rw [World.frozen?_of_block (w := W.alloc o) hbl]; exact q5
theorem own_lt {W : World} {B e n C : Nat} {v : Value} {xs : List Value} (h : W.ownsRow B e 1 v n xs) (hB : B ≤ W.heap.size) (hw : W.heap.size ≤ C) : ∀ k, v.ownBlock = some k → k < C := fun k hk => Nat.lt_of_lt_of_le (h.lt k hk).2 hw
theorem old_set3 {w W : World} {k : Nat} {f : Nat → ByteArray} {v : Value} (h : OldV w (w.heap.size + 1 + 1) v k f) (hs : SV W v k f) (b : Below w.heap.size w W) (x y z : Value) :
    SV (((W.setCell ⟨w.heap.size + 1, 0, none⟩ x).setCell ⟨w.heap.size + 1, 1, none⟩ y).setCell ⟨w.heap.size + 1, 2, none⟩ z) v k f := by
  rcases h with h | h
  · exact h.below (Below.set3 b (Nat.le_succ _) x y z)
  · exact ((hs.far (h.ne (b := w.heap.size + 1) (by omega)) rfl x).far (h.ne (b := w.heap.size + 1) (by omega)) rfl y).far (h.ne (b := w.heap.size + 1) (by omega)) rfl z
set_option maxHeartbeats 4000000 in
set_option maxRecDepth 100000 in
theorem rmany_any (v : Value) (k : Nat) (f : Nat → ByteArray) (S : ByteArray) (t c : Nat) (n : ByteArray) (w : World) (hv : SV w v k f) (hk : k ≤ 40) (hwf : WF k f t) (hn : Can n) (hn0 : 0 < n.size) (hS : S.size ≤ 1099511627776) (hc : c ≤ 4096)
    (X : Nat → ByteArray) (E : Nat → Int) (hX : NextsP k f S n t X E) :
    Calls Tryz.prog 14 #[.agg #[v, .string S, .int .i64 t], .string n, .int .i64 c] w fun e w' => RManyP c k f X S ((t + c : Nat) : Int) E w e w' := by
  have b1 := box2_below w (.cells #[v, .string S, .int .i64 t] 24) (.cells #[.slice none 0 0, .string ⟨#[]⟩, .int .i64 0] 24)
  have hk9 : k ≤ 9223372036854775807 := by omega
  have ht : t ≤ 2147483647 := by have := hwf.2.2; omega
  have CD := Lib.hid (fun (u : Nat) (vv : Value) W (hV : SV W vv k f) (hu : u ≤ 2147483647) (x : ByteArray) (ee : Int) (hx : nextV k f S u n = .tuple #[.string x, .int .i64 ee]) => draw_any vv k f S u n W hV hk ⟨hwf.1, by omega, by omega⟩ hn hn0 hS hx)
  have HTT := Lib.hid ht
  have HXX := Lib.hid hX
  have HB := Lib.hid b1
  have HV := Lib.hid hv
  have HVB := Lib.hid (hv.below b1)
  have HWF := Lib.hid hwf
  have HCN := Lib.hid hn
  have hEn := not_empty_of (show n.size ≠ 0 by omega)
  have HT1 := Lib.hid (box2_second w (.slice none 0 0) (.string ⟨#[]⟩) (.int .i64 0) 24 (.cells #[v, .string S, .int .i64 t] 24))
  have HT0 := Lib.hid (box2_first w v (.string S) (.int .i64 t) 24 (.cells #[.slice none 0 0, .string ⟨#[]⟩, .int .i64 0] 24))
  obtain ⟨p, cap, rfl, -⟩ := hv
  obtain ⟨q0, q1, q2, q3, q4, q5, q6⟩ := HT0.out
  have hci : ¬ (4096 : Int) < (c : Int) := by omega
  have HC := Lib.hid hc
  clear b1 hwf hn hn0 hS ht hX hk hc
  go_enter Tryz.func14, Tryz.ntmps14
  go_wp2_with fail
  refine (good_yes _ k f S t _ HVB.out hk9 HWF.out).mono ?_; rintro e w1 ⟨rfl, b1⟩
  have HM := Lib.hid (show RManR w k f X S t c E c (.slice none 0 0) (.int .i64 0) w1 from
    ⟨0, p, cap, by omega, rfl, HTT.out, fun j hj => absurd hj (by omega), bel_of HB.out b1, HT0.out.below b1 rfl, HVB.out.below b1, .inl HV.out, HT1.out.below b1 rfl, World.ownsRow_nil _ _ _ _, (HT1.out.below b1 rfl).2.2.2.2.2.2⟩)
  clear q0 q1 q2 q3 q4 q5 q6 b1 HB HT0 HT1 HVB
  go_wp2_with fail
  refine (rvalid_yes n _ HCN.out).mono ?_; rintro e wx ⟨rfl, rfl⟩
  go_wp2_with fail
  obtain ⟨i0, hi, hz0, hz1, hz2⟩ := info_parts Tryz.hinfS
  go_loopg [9, 10] c (fun y vd vi wr => RManR w k f X S t c E y vd vi wr)
  case atStart => exact HM.out
  case round =>
    obtain ⟨i, p, cap, hiy, rfl, hu, hE, hb, hT, hV, hO, hR, hown, hsz⟩ := hrel
    clear HM HV
    have HY := Lib.hid hiy
    have HB := Lib.hid hb
    have HE := Lib.hid hE
    have HT := Lib.hid hT
    have HV := Lib.hid hV
    have HOV := Lib.hid hO
    have HR := Lib.hid hR
    have HO := Lib.hid hown
    have HU := Lib.hid hu
    have HSZ := Lib.hid hsz
    clear hiy hb hE hT hV hO hR hown hu hsz
    by_cases hlt : i < c
    · have hlti : (i : Int) < (c : Int) := by omega
      obtain ⟨u, hue⟩ : ∃ u, u = t + i := ⟨_, rfl⟩
      obtain ⟨x, hx⟩ : ∃ x, x = X i := ⟨_, rfl⟩
      obtain ⟨ee, hee⟩ : ∃ ee, ee = E i := ⟨_, rfl⟩
      have hnx : nextV k f S u n = .tuple #[.string x, .int .i64 ee] := by rw [hue, hx, hee]; exact HXX.out i
      obtain ⟨z, hz⟩ : ∃ z : Int, z = ((u + 1 : Nat) : Int) := ⟨_, rfl⟩
      have CDi := Lib.hid (CD.out u (.slice p k cap) wr HV.out (by have := HU.out; omega) x ee hnx)
      rw [← hz] at CDi
      have HUE := Lib.hid hue
      have HX := Lib.hid hx
      have HEE := Lib.hid hee
      have HNX := Lib.hid hnx
      have HZ := Lib.hid hz
      obtain ⟨q0, q1, q2, q3, q4, q5, q6⟩ := HT.out
      rw [← hue] at q2
      clear hnx hue hx hee hz
      by_cases he : ee = 0
      · subst he
        have CDj := Lib.hid (CDi.out.mono (fun e w' hh => hh.1 rfl))
        clear CDi
        go_wp2_with fail
        refine CDj.out.mono ?_; rintro e w2 ⟨g2, c2, rfl, hs2, hn2, b2⟩
        have d2 := bel_alloc w2 (.cells #[.slice g2 k c2, .string S, .int .i64 z] 24)
        have HS2 := Lib.hid (Nat.le_trans HSZ.out (Nat.le_trans b2.size d2.size))
        have HO2 := Lib.hid ((HO.out.kept (grown_of_below b2) (by cases u9.ownBlock <;> simp)).alloc (.cells #[.slice g2 k c2, .string S, .int .i64 z] 24))
        have HN2 := Lib.hid (Three.new w2 (.slice g2 k c2) (.string S) (.int .i64 z) 24 _ rfl)
        have HV2 := Lib.hid (hs2.below d2)
        have HG2 := Lib.hid hn2
        have HL2 := Lib.hid (show Below (w.heap.size + 1 + 1) wr (w2.alloc (.cells #[.slice g2 k c2, .string S, .int .i64 z] 24)) from (b2.mono HSZ.out).alloc (Nat.le_trans HSZ.out b2.size) _)
        have HWR := Lib.hid b2.size
        have HN2L := Lib.hid (show w2.heap.size + 1 = (w2.alloc (.cells #[.slice g2 k c2, .string S, .int .i64 z] 24)).heap.size from (World.size_alloc _ _).symm)
        have HL3 := Lib.hid (HL2.out.alloc HS2.out (.cells #[.string x] 25))
        clear b2 d2 hs2 hn2 CDj q0 q1 q2 q3 q4 q5 q6
        go_wp2_with (at_builtin; go_must (refine wpList_append_own _ rfl _ _ 22 rfl (w.heap.size + 1 + 1) 25 i0 (.string ⟨#[]⟩) 1 16 Tryz.hundS hi hz0 hz1 hz2 rfl (by decide) _ _ _ rfl (HO2.out.alloc _) ⟨w2.heap.size + 1, 0, none⟩ 1 1 [.string x] rfl rfl (one_cellsT w2 _ _ _) (by simp [Value.oneCell']) (by have := HC.out; unfold maxLen; omega) (by have := HC.out; omega) (by have := HS2.out; rw [World.size_alloc]; omega) ?_; intro v' w3 hown' hgrow _; have HO3 := Lib.hid hown'; have HG3 := Lib.hid hgrow; clear hown' hgrow; have HL4 := Lib.hid (HL3.out.grown HG3.out (by have := HS2.out; rw [World.size_alloc]; omega) (own_geS HO2.out)); have HT3 := Lib.hid (HT.out.lower HL4.out (by omega) (HL4.out.size)); have HN3 := Lib.hid (own_three HN2.out HN2L.out HG3.out (own_lt HO.out HSZ.out HWR.out)); obtain ⟨q0, q1, q2, q3, q4, q5, q6⟩ := HT3.out; obtain ⟨n0, n1, n2, n3, n4, n5, n6⟩ := HN3.out; have HV3 := Lib.hid (own_sv HV2.out HG2.out HG3.out (own_lt HO.out HSZ.out (Nat.le_refl _)))))
        have HR3 := Lib.hid (HR.out.lower HL4.out (by omega) (HL4.out.size))
        have HB3 := Lib.hid (HB.out.trans (HL4.out.mono (by omega)))
        have HS3 := Lib.hid (Nat.le_trans HSZ.out HL4.out.size)
        clear q0 q1 q2 q3 q4 q5 q6 n0 n1 n2 n3 n4 n5 n6
        go_roundg (gk - 1)
        case measure => have := HY.out; omega
        case rel =>
          have hsz3 := HS3.out
          have hszr := HSZ.out
          have hE2 : ∀ j, j < i + 1 → E j = 0 := fun j hj => by
            by_cases hji : j = i
            · rw [hji]; exact HEE.out.symm
            · exact HE.out j (by omega)
          have hnx := HNX.out
          have hzz : z = ((t + (i + 1) : Nat) : Int) := by have := HZ.out; have := HUE.out; omega
          refine ⟨i + 1, g2, c2, by have := HY.out; omega, by go_num, by have := nextV_end hnx; have := HU.out; have := HUE.out; omega, hE2, Below.set3 HB3.out (Nat.le_refl _) _ _ _, ?_, ?_, .inr (newv_low HG2.out hszr), HR3.out.away6 (by omega) _ _ _, own_set3 ?_ (by omega) _ _ _, by simp only [World.size_setCell]; exact hsz3⟩
          · have h := HT3.out.set3 (.slice g2 k c2) (.string S) (.int .i64 z)
            rw [hzz] at h ⊢
            exact h
          · exact ((HV3.out.far (HG2.out.ne (b := w.heap.size) (by omega)) rfl _).far (HG2.out.ne (b := w.heap.size) (by omega)) rfl _).far (HG2.out.ne (b := w.heap.size) (by omega)) rfl _
          · have h := HO3.out
            rw [HX.out, svC_snoc] at h
            exact h
      · have CDj := Lib.hid (CDi.out.mono (fun e w' hh => (hh.2 he).2))
        have hcn : (ee == 0) = false := beq_eq_false_iff_ne.2 he
        have HNE := Lib.hid (show E i ≠ 0 by rw [← HEE.out]; exact he)
        clear he CDi
        go_wp2_with fail
        refine CDj.out.mono ?_; rintro e w2 ⟨rfl, b2⟩
        have d2 := bel_alloc w2 (.cells #[.slice none 0 0, .string ⟨#[]⟩, .int .i64 0] 24)
        have HB2 := Lib.hid (bel_of (bel_of HB.out b2) d2)
        have HR2 := Lib.hid ((HR.out.below b2 rfl).below d2 rfl)
        have HEN := Lib.hid (And.intro (Below.set3 (b := w.heap.size + 1) HB2.out (Nat.le_succ _) (.slice none 0 0) (.string ⟨#[]⟩) (.int .i64 0)) (Three.set3 HR2.out (.slice none 0 0) (.string ⟨#[]⟩) (.int .i64 0)))
        clear b2 d2 CDj q0 q1 q2 q3 q4 q5 q6
        obtain ⟨s0, s1, s2, s3, s4, s5, s6⟩ := HR2.out
        go_wp2
        have hen := HEN.out
        clear HEN
        generalize World.setCell _ _ _ = W3 at hen ⊢
        obtain ⟨h2, m0, m1, m2, m3, m4, m5, m6⟩ := hen
        exact bodyPost_ret (v := .tuple #[.slice none 0 0, .agg #[.slice none 0 0, .string ⟨#[]⟩, .int .i64 0], .int .i64 ee]) (by simp [results, Tryz.results14, go_sem, m0, m1, m2]) rfl (.inl ⟨i, hlt, HE.out, HNE.out, by rw [← HEE.out], h2⟩)
    · obtain rfl : i = c := by have := HY.out; omega
      obtain ⟨qd, cd, hvd, hsd, hqd⟩ := sv_of_ownsS HO.out
      subst hvd
      have HSD := Lib.hid hsd
      have HQD := Lib.hid hqd
      clear hsd hqd
      obtain ⟨u, hue⟩ : ∃ u : Int, u = ((t + i : Nat) : Int) := ⟨_, rfl⟩
      have HUE := Lib.hid hue
      obtain ⟨q0, q1, q2, q3, q4, q5, q6⟩ := HT.out
      rw [← HUE.out] at q2
      obtain ⟨s0, s1, s2, s3, s4, s5, s6⟩ := HR.out
      clear hue
      have HE1 := Lib.hid (Below.set3 (b := w.heap.size + 1) HB.out (Nat.le_succ _) (.slice p k cap) (.string S) (.int .i64 u))
      have HE2 := Lib.hid (HSD.out.away3 (b := w.heap.size + 1) (by rcases HQD.out with h | ⟨g, h, hg⟩; exact .inl h; exact .inr ⟨g, h, by omega⟩) (.slice p k cap) (.string S) (.int .i64 u))
      have HE3 := Lib.hid (old_set3 HOV.out HV.out HB.out (.slice p k cap) (.string S) (.int .i64 u))
      have HE4 := Lib.hid (Three.set3 HR.out (.slice p k cap) (.string S) (.int .i64 u))
      go_wp2_with fail
      go_region
      clear q0 q1 q2 q3 q4 q5 q6 s0 s1 s2 s3 s4 s5 s6
      go_wp2
      have he1 := HE1.out
      have he2 := HE2.out
      have he3 := HE3.out
      have he4 := HE4.out
      clear HE1 HE2 HE3 HE4
      generalize World.setCell _ _ _ = W3 at he1 he2 he3 he4 ⊢
      obtain ⟨m0, m1, m2, m3, m4, m5, m6⟩ := he4
      exact bodyPost_ret (v := .tuple #[.slice qd i cd, .agg #[.slice p k cap, .string S, .int .i64 u], .int .i64 0]) (by simp [results, Tryz.results14, go_sem, m0, m1, m2]) rfl (.inr ⟨HE.out, _, _, _, _, by rw [← HUE.out], he2, he3, he1.drew⟩)
end Go.Proofs.YtehbbghobagkjaaGreatDoor


/-
  The reference of package coins, the twelfth part: the refusals of Many.
-/
namespace Go.Proofs.YtehbbghobagkjaaGreatDoor
open Go.RowKit Go.Deep
set_option linter.unusedVariables false

set_option maxHeartbeats 2000000 in
set_option maxRecDepth 100000 in
theorem rmany_bad (v : Value) (k : Nat) (f : Nat → ByteArray) (S : ByteArray) (t : Int) (n : ByteArray) (count : Int) (w : World) (hv : SV w v k f) (hk : k ≤ 9223372036854775807) {c : Int} (h : ChkT k f t n c) (hc : c ≠ 0) :
    Calls Tryz.prog 14 #[.agg #[v, .string S, .int .i64 t], .string n, .int .i64 count] w fun e w' => NoMany c w e w' := by
  have b1 := box2_below w (.cells #[v, .string S, .int .i64 t] 24) (.cells #[.slice none 0 0, .string ⟨#[]⟩, .int .i64 0] 24)
  have HB := Lib.hid b1
  have HV := Lib.hid (hv.below b1)
  have HT1 := Lib.hid (box2_second w (.slice none 0 0) (.string ⟨#[]⟩) (.int .i64 0) 24 (.cells #[v, .string S, .int .i64 t] 24))
  have HT0 := Lib.hid (box2_first w v (.string S) (.int .i64 t) 24 (.cells #[.slice none 0 0, .string ⟨#[]⟩, .int .i64 0] 24))
  obtain ⟨p, cap, rfl, -⟩ := hv
  obtain ⟨q0, q1, q2, q3, q4, q5, q6⟩ := HT0.out
  clear b1
  rcases h with ⟨rfl, h⟩ | ⟨rfl, hw, hn, h0⟩ | ⟨rfl, -⟩
  · by_cases hw : WF k f t
    · have hn : ¬ Can n := fun q => h ⟨hw, q⟩
      have HW := Lib.hid hw
      have HN := Lib.hid hn
      clear h hw hn hc
      go_enter Tryz.func14, Tryz.ntmps14
      go_wp2_with fail
      refine (good_yes _ k f S t _ HV.out hk HW.out).mono ?_; rintro e w1 ⟨rfl, b1⟩
      have HB2 := Lib.hid (bel_of HB.out b1)
      have HT2 := Lib.hid (HT1.out.below b1 rfl)
      clear b1 HB HT1 HT0 q0 q1 q2 q3 q4 q5 q6
      go_wp2_with fail
      refine (rvalid_no n _ HN.out).mono ?_; rintro e wx ⟨rfl, rfl⟩
      obtain ⟨s0, s1, s2, s3, s4, s5, s6⟩ := HT2.out
      have HE := Lib.hid (And.intro (Below.set3 (b := w.heap.size + 1) HB2.out (Nat.le_succ _) (.slice none 0 0) (.string ⟨#[]⟩) (.int .i64 0)) (Three.set3 HT2.out (.slice none 0 0) (.string ⟨#[]⟩) (.int .i64 0)))
      clear HB2 HT2
      go_wp2
      have he := HE.out
      clear HE
      generalize World.setCell _ _ _ = W3 at he ⊢
      obtain ⟨h2, m0, m1, m2, m3, m4, m5, m6⟩ := he
      exact bodyPost_ret (v := .tuple #[.slice none 0 0, .agg #[.slice none 0 0, .string ⟨#[]⟩, .int .i64 0], .int .i64 3]) (by simp [results, Tryz.results14, go_sem, m0, m1, m2]) rfl ⟨rfl, h2⟩
    · have HW := Lib.hid hw
      clear h hw hc
      go_enter Tryz.func14, Tryz.ntmps14
      go_wp2_with fail
      refine (good_no _ k f S t _ HV.out hk HW.out).mono ?_; rintro e w1 ⟨rfl, b1⟩
      have HB2 := Lib.hid (bel_of HB.out b1)
      have HT2 := Lib.hid (HT1.out.below b1 rfl)
      clear b1 HB HT1 HT0 q0 q1 q2 q3 q4 q5 q6
      obtain ⟨s0, s1, s2, s3, s4, s5, s6⟩ := HT2.out
      have HE := Lib.hid (And.intro (Below.set3 (b := w.heap.size + 1) HB2.out (Nat.le_succ _) (.slice none 0 0) (.string ⟨#[]⟩) (.int .i64 0)) (Three.set3 HT2.out (.slice none 0 0) (.string ⟨#[]⟩) (.int .i64 0)))
      clear HB2 HT2
      go_wp2
      have he := HE.out
      clear HE
      generalize World.setCell _ _ _ = W3 at he ⊢
      obtain ⟨h2, m0, m1, m2, m3, m4, m5, m6⟩ := he
      exact bodyPost_ret (v := .tuple #[.slice none 0 0, .agg #[.slice none 0 0, .string ⟨#[]⟩, .int .i64 0], .int .i64 3]) (by simp [results, Tryz.results14, go_sem, m0, m1, m2]) rfl ⟨rfl, h2⟩
  · have HW := Lib.hid hw
    have HN := Lib.hid hn
    have hE := empty_of h0
    clear hw hn h0 hc
    go_enter Tryz.func14, Tryz.ntmps14
    go_wp2_with fail
    refine (good_yes _ k f S t _ HV.out hk HW.out).mono ?_; rintro e w1 ⟨rfl, b1⟩
    have HB2 := Lib.hid (bel_of HB.out b1)
    have HT2 := Lib.hid (HT1.out.below b1 rfl)
    clear b1 HB HT1 HT0 q0 q1 q2 q3 q4 q5 q6
    go_wp2_with fail
    refine (rvalid_yes n _ HN.out).mono ?_; rintro e wx ⟨rfl, rfl⟩
    obtain ⟨s0, s1, s2, s3, s4, s5, s6⟩ := HT2.out
    have HE := Lib.hid (And.intro (Below.set3 (b := w.heap.size + 1) HB2.out (Nat.le_succ _) (.slice none 0 0) (.string ⟨#[]⟩) (.int .i64 0)) (Three.set3 HT2.out (.slice none 0 0) (.string ⟨#[]⟩) (.int .i64 0)))
    clear HB2 HT2
    go_wp2
    have he := HE.out
    clear HE
    generalize World.setCell _ _ _ = W3 at he ⊢
    obtain ⟨h2, m0, m1, m2, m3, m4, m5, m6⟩ := he
    exact bodyPost_ret (v := .tuple #[.slice none 0 0, .agg #[.slice none 0 0, .string ⟨#[]⟩, .int .i64 0], .int .i64 11]) (by simp [results, Tryz.results14, go_sem, m0, m1, m2]) rfl ⟨rfl, h2⟩
  · exact absurd rfl hc
set_option maxHeartbeats 2000000 in
set_option maxRecDepth 100000 in
theorem rmany_long (v : Value) (k : Nat) (f : Nat → ByteArray) (S : ByteArray) (t : Int) (n : ByteArray) (count : Int) (w : World) (hv : SV w v k f) (hk : k ≤ 9223372036854775807) (hw : WF k f t) (hn : Can n) (hn0 : 0 < n.size) (hc : count < 0 ∨ 4096 < count) :
    Calls Tryz.prog 14 #[.agg #[v, .string S, .int .i64 t], .string n, .int .i64 count] w fun e w' => NoMany 6 w e w' := by
  have b1 := box2_below w (.cells #[v, .string S, .int .i64 t] 24) (.cells #[.slice none 0 0, .string ⟨#[]⟩, .int .i64 0] 24)
  have HB := Lib.hid b1
  have HV := Lib.hid (hv.below b1)
  have HT1 := Lib.hid (box2_second w (.slice none 0 0) (.string ⟨#[]⟩) (.int .i64 0) 24 (.cells #[v, .string S, .int .i64 t] 24))
  have HT0 := Lib.hid (box2_first w v (.string S) (.int .i64 t) 24 (.cells #[.slice none 0 0, .string ⟨#[]⟩, .int .i64 0] 24))
  obtain ⟨p, cap, rfl, -⟩ := hv
  obtain ⟨q0, q1, q2, q3, q4, q5, q6⟩ := HT0.out
  clear b1
  have HW := Lib.hid hw
  have HN := Lib.hid hn
  have hE := not_empty_of (show n.size ≠ 0 by omega)
  clear hw hn hn0
  by_cases h0 : count < 0
  · have hd := decide_eq_true h0
    clear hc
    go_enter Tryz.func14, Tryz.ntmps14
    go_wp2_with fail
    refine (good_yes _ k f S t _ HV.out hk HW.out).mono ?_; rintro e w1 ⟨rfl, b1⟩
    have HB2 := Lib.hid (bel_of HB.out b1)
    have HT2 := Lib.hid (HT1.out.below b1 rfl)
    clear b1 HB HT1 HT0 q0 q1 q2 q3 q4 q5 q6
    go_wp2_with fail
    refine (rvalid_yes n _ HN.out).mono ?_; rintro e wx ⟨rfl, rfl⟩
    obtain ⟨s0, s1, s2, s3, s4, s5, s6⟩ := HT2.out
    have HE := Lib.hid (And.intro (Below.set3 (b := w.heap.size + 1) HB2.out (Nat.le_succ _) (.slice none 0 0) (.string ⟨#[]⟩) (.int .i64 0)) (Three.set3 HT2.out (.slice none 0 0) (.string ⟨#[]⟩) (.int .i64 0)))
    clear HB2 HT2
    go_wp2
    have he := HE.out
    clear HE
    generalize World.setCell _ _ _ = W3 at he ⊢
    obtain ⟨h2, m0, m1, m2, m3, m4, m5, m6⟩ := he
    exact bodyPost_ret (v := .tuple #[.slice none 0 0, .agg #[.slice none 0 0, .string ⟨#[]⟩, .int .i64 0], .int .i64 6]) (by simp [results, Tryz.results14, go_sem, m0, m1, m2]) rfl ⟨rfl, h2⟩
  · have hd := decide_eq_false h0
    have h1 : (4096 : Int) < count := by omega
    have hd1 := decide_eq_true h1
    clear hc
    go_enter Tryz.func14, Tryz.ntmps14
    go_wp2_with fail
    refine (good_yes _ k f S t _ HV.out hk HW.out).mono ?_; rintro e w1 ⟨rfl, b1⟩
    have HB2 := Lib.hid (bel_of HB.out b1)
    have HT2 := Lib.hid (HT1.out.below b1 rfl)
    clear b1 HB HT1 HT0 q0 q1 q2 q3 q4 q5 q6
    go_wp2_with fail
    refine (rvalid_yes n _ HN.out).mono ?_; rintro e wx ⟨rfl, rfl⟩
    obtain ⟨s0, s1, s2, s3, s4, s5, s6⟩ := HT2.out
    have HE := Lib.hid (And.intro (Below.set3 (b := w.heap.size + 1) HB2.out (Nat.le_succ _) (.slice none 0 0) (.string ⟨#[]⟩) (.int .i64 0)) (Three.set3 HT2.out (.slice none 0 0) (.string ⟨#[]⟩) (.int .i64 0)))
    clear HB2 HT2
    go_wp2
    have he := HE.out
    clear HE
    generalize World.setCell _ _ _ = W3 at he ⊢
    obtain ⟨h2, m0, m1, m2, m3, m4, m5, m6⟩ := he
    exact bodyPost_ret (v := .tuple #[.slice none 0 0, .agg #[.slice none 0 0, .string ⟨#[]⟩, .int .i64 0], .int .i64 6]) (by simp [results, Tryz.results14, go_sem, m0, m1, m2]) rfl ⟨rfl, h2⟩
end Go.Proofs.YtehbbghobagkjaaGreatDoor

