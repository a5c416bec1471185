/-
  Layer 13's statements: Agrees.
-/
import Derived.Test.YtogmgfdihmacpaaGreatDoorLaw13c
namespace Go.Proofs.YtogmgfdihmacpaaGreatDoor
open Go.RowKit Go.Deep
set_option linter.unusedVariables false

theorem agr_gcd {m n : Nat} (hm : 1 < m) (h : UnitN m n) : 0 < n ∧ Nat.gcd n m = 1 := by
  obtain ⟨y, h1, h2⟩ := h
  rw [Nat.mod_eq_of_lt hm] at h2
  refine ⟨?_, ?_⟩
  · rcases Nat.eq_zero_or_pos n with q | q
    · subst q; rw [Nat.zero_mul, Nat.zero_mod] at h2; omega
    · exact q
  · have d1 : Nat.gcd n m ∣ n * y := Nat.dvd_trans (Nat.gcd_dvd_left n m) (Nat.dvd_mul_right n y)
    have d2 : Nat.gcd n m ∣ n * y % m := (Nat.dvd_mod_iff (Nat.gcd_dvd_right n m)).2 d1
    rw [h2] at d2
    exact Nat.dvd_one.1 d2
theorem agr_pwU {m x : Nat} (h : UnitN m x) (z : Int) : UnitN m (pwN m x z) := by
  have hi : UnitN m (invN x m) := ⟨x % m, Nat.mod_lt _ h.pos, by rw [Nat.mul_mod_mod, Nat.mul_comm]; exact h.inv⟩
  unfold pwN
  split
  · exact (h.pow _).mod
  · exact (hi.pow _).mod
theorem agr_one {m x q : Nat} (hm : 1 < m) (h : x ^ q % m = 1) (k : Nat) : (x ^ k % m) ^ q % m = 1 := by
  rw [← Nat.pow_mod, ← Nat.pow_mul, Nat.mul_comm, Nat.pow_mul, Nat.pow_mod, h, Nat.one_pow, Nat.mod_eq_of_lt hm]
theorem agr_inv {m x q : Nat} (hm : 1 < m) (hu : UnitN m x) (h : x ^ q % m = 1) : invN x m ^ q % m = 1 := by
  have := hu.invpow q
  rwa [Nat.mul_mod, h, Nat.one_mul, Nat.mod_mod, Nat.mod_eq_of_lt hm] at this
/-- The powers of an element are elements. -/
theorem agr_pw {M Q x : ByteArray} (h : EltG M Q x) (hM : Can M) (hw : WfG M Q) (z : Int) : EltG M Q (E (pwN (V M) (V x) z)) := by
  have hm := wfG_pos hw
  have hu := h.unit hM hw
  have hl := pwN_lt (m := V M) (x := V x) (z := z) (by omega)
  obtain ⟨g1, g2⟩ := agr_gcd hm (agr_pwU hu z)
  refine ⟨can_E' (Nat.lt_trans hl (V_lim hM)), ?_⟩
  rcases h.2 with ⟨h0, hE⟩ | hE
  · left
    unfold EltU
    rw [V_E]
    exact ⟨h0, g1, hl, g2⟩
  · right
    unfold EltK
    rw [V_E]
    refine ⟨hE.1, g1, hl, ?_⟩
    unfold pwN
    split
    · exact agr_one hm hE.2.2.2 _
    · exact agr_one hm (agr_inv hm hu hE.2.2.2) _
/-- The product of two elements is one. -/
theorem agr_mul {M Q a b : ByteArray} (ha : EltG M Q a) (hb : EltG M Q b) (hM : Can M) (hw : WfG M Q) : EltG M Q (E (V a * V b % V M)) := by
  have hm := wfG_pos hw
  have hu := (ha.unit hM hw).mul (hb.unit hM hw)
  have hl : V a * V b % V M < V M := Nat.mod_lt _ (by omega)
  obtain ⟨g1, g2⟩ := agr_gcd hm hu.mod
  refine ⟨can_E' (Nat.lt_trans hl (V_lim hM)), ?_⟩
  rcases ha.2 with ⟨h0, hE⟩ | hE
  · left
    unfold EltU
    rw [V_E]
    exact ⟨h0, g1, hl, g2⟩
  · right
    unfold EltK
    rw [V_E]
    refine ⟨hE.1, g1, hl, ?_⟩
    rcases hb.2 with ⟨h0, -⟩ | hF
    · exact absurd h0 hE.1
    · rw [← Nat.pow_mod, Nat.mul_pow, Nat.mul_mod, hE.2.2.2, hF.2.2.2, Nat.one_mul, Nat.mod_eq_of_lt hm]
/-- One is an element. -/
theorem agr_unit {M Q : ByteArray} (hM : Can M) (hw : WfG M Q) : EltG M Q (E (1 % V M)) := by
  have hm := wfG_pos hw
  rw [Nat.mod_eq_of_lt hm]
  refine ⟨can_E' (small_lim (by omega)), ?_⟩
  by_cases h0 : Q.size = 0
  · left
    unfold EltU
    rw [V_E]
    exact ⟨h0, by omega, hm, Nat.gcd_one_left _⟩
  · right
    unfold EltK
    rw [V_E]
    exact ⟨h0, by omega, hm, by rw [Nat.one_pow, Nat.mod_eq_of_lt hm]⟩
theorem agr_prod {M Q : ByteArray} {k : Nat} {f : Nat → ByteArray} {Z : Nat → Int} (hM : Can M) (hw : WfG M Q) (he : ∀ j, j < k → EltG M Q (f j)) : ∀ i, i ≤ k → EltG M Q (E (prZ (V M) (fun j => V (f j)) Z i))
  | 0, _ => agr_unit hM hw
  | i + 1, h => by
    have h1 := agr_prod hM hw he (Z := Z) i (by omega)
    have h2 := agr_mul h1 (agr_pw (he i (by omega)) hM hw (Z i)) hM hw
    rwa [V_E, V_E] at h2
theorem prodG_none {M Q : ByteArray} {k1 : Nat} {f : Nat → ByteArray} {k2 : Nat} {ng : Nat → Bool} {s : Nat → ByteArray} (h : (prodG M Q k1 f k2 ng s).2 ≠ 0) : (prodG M Q k1 f k2 ng s).1 = ⟨#[]⟩ := by
  unfold prodG at h ⊢
  split
  · rfl
  · split
    · rfl
    · split
      · rfl
      · split
        · rename_i a b c d
          rw [if_neg a, if_neg b, if_neg c, if_pos d] at h
          exact absurd rfl h
        · rfl
theorem prodG_some {M Q : ByteArray} {k1 : Nat} {f : Nat → ByteArray} {k2 : Nat} {ng : Nat → Bool} {s : Nat → ByteArray} (h : (prodG M Q k1 f k2 ng s).2 = 0) : k1 = k2 ∧ ValL k2 ng s ∧ chkG M Q = 0 ∧ (∀ j, j < k1 → EltG M Q (f j)) := by
  unfold prodG at h
  split at h
  · exact absurd h (by decide)
  · split at h
    · rename_i a b
      exact absurd h b
    · split at h
      · exact absurd h (by decide)
      · split at h
        · rename_i a b c d
          exact ⟨Classical.not_not.1 c, Classical.not_not.1 a, (chkNs_zero (Classical.not_not.1 b)).2, d⟩
        · exact absurd h (by decide)
/-! ### a row of integers that grows -/
theorem Tryz.infoI : (Tryz.prog.info? 37).map (fun i => (i.zero, i.size, i.bytes)) = some (some (.agg #[.bool false, .string ⟨#[]⟩]), 2, 24) := by kernel_rfl
theorem Tryz.undI : Tryz.prog.underlying 42 = some (.slice 37) := by kernel_rfl
/-- The cells of k integers. -/
def ivR (k : Nat) (ng : Nat → Bool) (s : Nat → ByteArray) : List Value := (List.range k).flatMap fun j => [.bool (ng j), .string (s j)]
theorem ivR_snoc (i : Nat) (ng : Nat → Bool) (s : Nat → ByteArray) : ivR i ng s ++ [.bool (ng i), .string (s i)] = ivR (i + 1) ng s := by simp [ivR, List.range_succ]
theorem ivR_len (ng : Nat → Bool) (s : Nat → ByteArray) : ∀ i, (ivR i ng s).length = i * 2
  | 0 => rfl
  | i + 1 => by rw [← ivR_snoc, List.length_append, ivR_len ng s i]; simp; omega
theorem ivR_get (ng : Nat → Bool) (s : Nat → ByteArray) : ∀ i j, j < i → (ivR i ng s)[j * 2]? = some (.bool (ng j)) ∧ (ivR i ng s)[j * 2 + 1]? = some (.string (s j))
  | 0, j, h => absurd h (by omega)
  | i + 1, j, h => by
    rw [← ivR_snoc]
    have hl := ivR_len ng s i
    by_cases e : j = i
    · subst e
      refine ⟨?_, ?_⟩
      · rw [List.getElem?_append_right (by omega), hl, Nat.sub_self]; rfl
      · rw [List.getElem?_append_right (by omega), hl, show j * 2 + 1 - j * 2 = 1 by omega]; rfl
    · obtain ⟨h1, h2⟩ := ivR_get ng s i j (by omega)
      exact ⟨by rw [List.getElem?_append_left (by omega)]; exact h1, by rw [List.getElem?_append_left (by omega)]; exact h2⟩
theorem iv_of_row {w : World} {B i : Nat} {v : Value} {ng : Nat → Bool} {s : Nat → ByteArray} (h : w.ownsRow B 37 2 v i (ivR i ng s)) : IVs w v i ng s := by
  have h0 := h
  obtain ⟨-, ⟨rfl, rfl⟩ | ⟨g, cap, cur, rfl, hb, -⟩⟩ := h0
  · exact ⟨none, 0, rfl, fun j hj => absurd hj (by omega)⟩
  · exact ⟨_, _, rfl, fun j hj => ⟨_, rfl, (h.lt g rfl).2, h.cells (g := g) rfl _ _ (ivR_get ng s i j hj).1, h.cells (g := g) rfl _ _ (ivR_get ng s i j hj).2⟩⟩
theorem two_cellR (W : World) (x y : Value) (t : TypeId) (g : Nat) (hg : g = W.heap.size) : ∀ j u, [x, y][j]? = some u → (W.alloc (.cells #[x, y] t)).cell? ((⟨g, 0, none⟩ : Addr).add j) = some u := by
  subst hg
  intro j u hj
  match j, hj with
  | 0, hj =>
    simp at hj; subst hj
    show (W.alloc (.cells #[x, y] t)).cell? ⟨W.heap.size, 0 + 0, none⟩ = _
    rw [World.cell?_alloc_new]; rfl
  | 1, hj =>
    simp at hj; subst hj
    show (W.alloc (.cells #[x, y] t)).cell? ⟨W.heap.size, 0 + 1, none⟩ = _
    rw [World.cell?_alloc_new]; rfl
  | j + 2, hj => simp at hj
/-- What the loop of Agrees knows. -/
def AgR (w : World) (M Q : ByteArray) (X : Nat → ByteArray) (ng : Nat → Bool) (s : Nat → ByteArray) (i : Nat) (vf ve : Value) (W : World) : Prop :=
  Below w.heap.size w W ∧ Two W w.heap.size (.string M) (.string Q) ∧ W.ownsRow (w.heap.size + 1) 22 1 vf i (svR i X) ∧ W.ownsRow (w.heap.size + 1) 37 2 ve i (ivR i ng s) ∧ Dj vf ve
theorem AgR.below {w : World} {M Q : ByteArray} {X : Nat → ByteArray} {ng : Nat → Bool} {s : Nat → ByteArray} {i : Nat} {vf ve : Value} {W W' : World} (h : AgR w M Q X ng s i vf ve W) (b : Below W.heap.size W W') : AgR w M Q X ng s i vf ve W' := by
  obtain ⟨h1, h2, h3, h4, h5⟩ := h
  exact ⟨belP h1 b, h2.below b rfl, h3.kept (grown_bel b) (by cases vf.ownBlock <;> simp), h4.kept (grown_bel b) (by cases ve.ownBlock <;> simp), h5⟩
/-- The state between the two appends. -/
def AgM (w : World) (M Q : ByteArray) (X : Nat → ByteArray) (ng : Nat → Bool) (s : Nat → ByteArray) (i : Nat) (vf ve : Value) (W : World) : Prop :=
  Below w.heap.size w W ∧ Two W w.heap.size (.string M) (.string Q) ∧ W.ownsRow (w.heap.size + 1) 22 1 vf (i + 1) (svR (i + 1) X) ∧ W.ownsRow (w.heap.size + 1) 37 2 ve i (ivR i ng s) ∧ Dj vf ve
theorem ag_first {w : World} {M Q : ByteArray} {X : Nat → ByteArray} {ng : Nat → Bool} {s : Nat → ByteArray} {i : Nat} {vf ve v' : Value} {W w' : World} {o : Obj} (h : AgR w M Q X ng s i vf ve W)
    (h1 : w'.ownsRow (w.heap.size + 1) 22 1 v' (i + 1) (svR (i + 1) X)) (hg : (W.alloc o).grownBy w' vf.ownBlock) (hp : v'.ownBlock = vf.ownBlock ∨ v'.ownBlock = some (W.alloc o).heap.size) : AgM w M Q X ng s i v' ve w' := by
  obtain ⟨k1, k2, k3, k4, k5⟩ := h
  have hlt := k2.2.2.2.2
  refine ⟨Below.grown (belP k1 (belA _ o)) hg (by simp; omega) (fun k e => by have := (k3.lt k e).1; omega), (k2.alloc o).grownP hg (fun k e => by have := (k3.lt k e).1; omega), h1, (k4.alloc o).kept hg k5.symm_, ?_⟩
  rcases hp with hp | hp
  · unfold Dj; rw [hp]; exact k5
  · refine .inr (fun e => ?_)
    have := (k4.lt _ (e.symm.trans hp)).2
    simp at this
    omega
theorem ag_second {w : World} {M Q : ByteArray} {X : Nat → ByteArray} {ng : Nat → Bool} {s : Nat → ByteArray} {i : Nat} {vf ve v' : Value} {W w' : World} {o : Obj} (h : AgM w M Q X ng s i vf ve W)
    (h1 : w'.ownsRow (w.heap.size + 1) 37 2 v' (i + 1) (ivR (i + 1) ng s)) (hg : (W.alloc o).grownBy w' ve.ownBlock) (hp : v'.ownBlock = ve.ownBlock ∨ v'.ownBlock = some (W.alloc o).heap.size) : AgR w M Q X ng s (i + 1) vf v' w' := by
  obtain ⟨k1, k2, k3, k4, k5⟩ := h
  have hlt := k2.2.2.2.2
  refine ⟨Below.grown (belP k1 (belA _ o)) hg (by simp; omega) (fun k e => by have := (k4.lt k e).1; omega), (k2.alloc o).grownP hg (fun k e => by have := (k4.lt k e).1; omega), (k3.alloc o).kept hg k5, h1, ?_⟩
  rcases hp with hp | hp
  · unfold Dj; rw [hp]; exact k5
  · refine .inr (fun e => ?_)
    have := (k3.lt _ (e.trans hp)).2
    simp at this
    omega
/-- append of one integer to a row of the call's own. -/
theorem wpList_app2 {ops : Array Oper} {rest : List Oper} {o : Oper} {a : Act} {Q : Exit → Act → World → Prop} {W : World} (hgd : o.guard = none) (sl x : Operand)
    (ho : o.op = .call { callee := .builtin .append, args := #[sl, x], argTypes := #[42, 42] }) (B n g : Nat) (v : Value) (ng : Nat → Bool) (s : Nat → ByteArray)
    (hs : a.eval sl = v) (hown : W.ownsRow B 37 2 v n (ivR n ng s)) (b : Bool) (y : ByteArray) (hb : b = ng n) (hy : y = s n) (hg : g = W.heap.size) (hx : a.eval x = .slice (some ⟨g, 0, none⟩) 1 1) (hn : n ≤ 1000000) (hB : B ≤ W.heap.size)
    (h : ∀ v' w', w'.ownsRow B 37 2 v' (n + 1) (ivR (n + 1) ng s) → (W.alloc (.cells #[.bool b, .string y] 37)).grownBy w' v.ownBlock → (v'.ownBlock = v.ownBlock ∨ v'.ownBlock = some (W.alloc (.cells #[.bool b, .string y] 37)).heap.size) → wpList Tryz.prog ops Q rest (a.put o.dst v') w') :
    wpList Tryz.prog ops Q (o :: rest) a (W.alloc (.cells #[.bool b, .string y] 37)) := by
  obtain ⟨i0, hi, hz0, hz1, hz2⟩ := info_parts Tryz.infoI
  refine wpList_append_own_at _ hgd sl x 42 ho B 37 i0 (.agg #[.bool false, .string ⟨#[]⟩]) 2 24 Tryz.undI hi hz0 hz1 hz2 rfl (by decide) v n (ivR n ng s) hs (hown.alloc _) ⟨g, 0, none⟩ 1 1 [.bool b, .string y] hx rfl (two_cellR W _ _ _ g hg) (by simp [Value.oneCell']) (by unfold maxLen; omega) (by omega) (by simp; omega) ?_
  intro v' w' h1 h2 _ h4
  rw [hb, hy, ivR_snoc] at h1
  subst hb hy
  exact h v' w' h1 h2 h4
set_option maxHeartbeats 8000000 in
set_option maxRecDepth 100000 in
theorem agrees_n1 (M Q : ByteArray) (v1 : Value) (k1 : Nat) (f : Nat → ByteArray) (v2 : Value) (k2 : Nat) (ng : Nat → Bool) (s : Nat → ByteArray) (lM : M.size ≤ maxLen) (lQ : Q.size ≤ maxLen) (w : World) (h1 : SV w v1 k1 f) (hk1 : k1 ≤ maxLen) (hz1 : ∀ j, j < k1 → (f j).size ≤ maxLen) (h2 : IVs w v2 k2 ng s) (hk2 : k2 ≤ maxLen) (hz2 : ∀ j, j < k2 → (s j).size ≤ maxLen) (hf : ¬ FewP13 M Q k1 f k2 s) :
    Calls Tryz.prog 8 #[.agg #[.string M, .string Q], v1, v2] w fun e w' => e = .returned (.bool true) ∧ Below w.heap.size w w' := by
  unfold maxLen at lM lQ hk1 hk2 hz1 hz2
  have H1 := Lib.hid h1
  have H2 := Lib.hid h2
  have CF := Lib.hid (fun W (hV1 : SV W v1 k1 f) (hV2 : IVs W v2 k2 ng s) => few13_any v1 v2 k1 k2 f ng s M Q W hV1 hV2 (by omega) (by omega) (by omega) (by omega) hz1 hz2)
  obtain ⟨p1, cap1, rfl, -⟩ := h1
  obtain ⟨p2, cap2, rfl, -⟩ := h2
  have G := Lib.hid (Two.new w (.string M) (.string Q) 24 _ rfl)
  have K := Lib.hid (belA w (.cells #[.string M, .string Q] 24))
  obtain ⟨q1, q2, q3, q4, q5⟩ := G.out
  have CT := Lib.hid (fun W h1 h2 => (CF.out W h1 h2).mono fun _ _ q => q.no hf)
  clear hf hz1 hz2
  go_enter Tryz.func8, Tryz.ntmps8
  go_wp2_with fail
  refine (CT.out _ (H1.out.below K.out) (H2.out.below K.out)).mono ?_; rintro e w1 ⟨rfl, b1⟩
  have K := Lib.hid (belP K.out b1)
  have G := Lib.hid (G.out.below b1 rfl)
  clear b1 q1 q2 q3 q4 q5
  obtain ⟨q1, q2, q3, q4, q5⟩ := G.out
  go_wp2_with fail
  refine (awake13 _).mono ?_; rintro e w2 ⟨rfl, b2⟩
  have K := Lib.hid (belP K.out b2)
  have G := Lib.hid (G.out.below b2 rfl)
  clear b2 q1 q2 q3 q4 q5
  obtain ⟨q1, q2, q3, q4, q5⟩ := G.out
  go_wp2
  go_ret
  exact ⟨rfl, K.out⟩
set_option maxHeartbeats 8000000 in
set_option maxRecDepth 100000 in
theorem agrees_n2 (M Q : ByteArray) (v1 : Value) (k1 : Nat) (f : Nat → ByteArray) (v2 : Value) (k2 : Nat) (ng : Nat → Bool) (s : Nat → ByteArray) (lM : M.size ≤ maxLen) (lQ : Q.size ≤ maxLen) (w : World) (h1 : SV w v1 k1 f) (hk1 : k1 ≤ maxLen) (hz1 : ∀ j, j < k1 → (f j).size ≤ maxLen) (h2 : IVs w v2 k2 ng s) (hk2 : k2 ≤ maxLen) (hz2 : ∀ j, j < k2 → (s j).size ≤ maxLen) (hf : FewP13 M Q k1 f k2 s) (hc : (prodG M Q k1 f k2 ng s).2 ≠ 0) :
    Calls Tryz.prog 8 #[.agg #[.string M, .string Q], v1, v2] w fun e w' => e = .returned (.bool true) ∧ Below w.heap.size w w' := by
  unfold maxLen at lM lQ hk1 hk2 hz1 hz2
  have H1 := Lib.hid h1
  have H2 := Lib.hid h2
  have CF := Lib.hid (fun W (hV1 : SV W v1 k1 f) (hV2 : IVs W v2 k2 ng s) => few13_any v1 v2 k1 k2 f ng s M Q W hV1 hV2 (by omega) (by omega) (by omega) (by omega) hz1 hz2)
  obtain ⟨p1, cap1, rfl, -⟩ := h1
  obtain ⟨p2, cap2, rfl, -⟩ := h2
  have G := Lib.hid (Two.new w (.string M) (.string Q) 24 _ rfl)
  have K := Lib.hid (belA w (.cells #[.string M, .string Q] 24))
  obtain ⟨q1, q2, q3, q4, q5⟩ := G.out
  have CT := Lib.hid (fun W h1 h2 => (CF.out W h1 h2).mono fun _ _ q => q.yes hf)
  have C1 := Lib.hid (fun W (hV1 : SV W (.slice p1 k1 cap1) k1 f) (hV2 : IVs W (.slice p2 k2 cap2) k2 ng s) => pwprod_any M Q _ _ k1 k2 f ng s W hV1 hV2 (by have := hf.2.1; omega) (by have := hf.2.2.1; omega))
  rw [prodG_none hc] at C1
  generalize (prodG M Q k1 f k2 ng s).2 = c at *
  have h0 : (c != 0) = true := by simpa using hc
  clear hf hz1 hz2 hc
  go_enter Tryz.func8, Tryz.ntmps8
  go_wp2_with fail
  refine (CT.out _ (H1.out.below K.out) (H2.out.below K.out)).mono ?_; rintro e w1 ⟨rfl, b1⟩
  have K := Lib.hid (belP K.out b1)
  have G := Lib.hid (G.out.below b1 rfl)
  clear b1 q1 q2 q3 q4 q5
  obtain ⟨q1, q2, q3, q4, q5⟩ := G.out
  go_wp2_with fail
  refine (C1.out _ (H1.out.below K.out) (H2.out.below K.out)).mono ?_; rintro e w2 ⟨rfl, b2⟩
  have K := Lib.hid (belP K.out b2)
  have G := Lib.hid (G.out.below b2 rfl)
  clear b2 q1 q2 q3 q4 q5
  obtain ⟨q1, q2, q3, q4, q5⟩ := G.out
  go_wp2_with fail
  refine (awake13 _).mono ?_; rintro e w3 ⟨rfl, b3⟩
  have K := Lib.hid (belP K.out b3)
  have G := Lib.hid (G.out.below b3 rfl)
  clear b3 q1 q2 q3 q4 q5
  obtain ⟨q1, q2, q3, q4, q5⟩ := G.out
  go_wp2
  go_ret
  exact ⟨rfl, K.out⟩
set_option maxHeartbeats 8000000 in
set_option maxRecDepth 100000 in
theorem agrees_yes (M Q : ByteArray) (v1 : Value) (k1 : Nat) (f : Nat → ByteArray) (v2 : Value) (k2 : Nat) (ng : Nat → Bool) (s : Nat → ByteArray) (lM : M.size ≤ maxLen) (lQ : Q.size ≤ maxLen) (w : World) (h1 : SV w v1 k1 f) (hk1 : k1 ≤ maxLen) (hz1 : ∀ j, j < k1 → (f j).size ≤ maxLen) (h2 : IVs w v2 k2 ng s) (hk2 : k2 ≤ maxLen) (hz2 : ∀ j, j < k2 → (s j).size ≤ maxLen) (hf : FewP13 M Q k1 f k2 s) (hc : (prodG M Q k1 f k2 ng s).2 = 0) :
    Calls Tryz.prog 8 #[.agg #[.string M, .string Q], v1, v2] w fun e w' => e = .returned (.bool true) ∧ Below w.heap.size w w' := by
  unfold maxLen at lM lQ hk1 hk2 hz1 hz2
  have H1 := Lib.hid h1
  have H2 := Lib.hid h2
  have CF := Lib.hid (fun W (hV1 : SV W v1 k1 f) (hV2 : IVs W v2 k2 ng s) => few13_any v1 v2 k1 k2 f ng s M Q W hV1 hV2 (by omega) (by omega) (by omega) (by omega) hz1 hz2)
  obtain ⟨p1, cap1, rfl, -⟩ := h1
  obtain ⟨p2, cap2, rfl, -⟩ := h2
  have G := Lib.hid (Two.new w (.string M) (.string Q) 24 _ rfl)
  have K := Lib.hid (belA w (.cells #[.string M, .string Q] 24))
  obtain ⟨q1, q2, q3, q4, q5⟩ := G.out
  have CT := Lib.hid (fun W h1 h2 => (CF.out W h1 h2).mono fun _ _ q => q.yes hf)
  obtain ⟨rfl, hv, hg, he⟩ := prodG_some hc
  obtain ⟨hM, hQ, hw⟩ := chkG_zero hg
  have hm1 := wfG_pos hw
  have hk8 : k1 ≤ 8 := hf.2.1
  have C1 := Lib.hid (fun W (hV1 : SV W (.slice p1 k1 cap1) k1 f) (hV2 : IVs W (.slice p2 k1 cap2) k1 ng s) => pwprod_any M Q _ _ k1 k1 f ng s W hV1 hV2 (by omega) (by omega))
  rw [prodG_yes hv hg he] at C1
  obtain ⟨X, hX⟩ : ∃ X : Nat → Nat, X = prZ (V M) (fun j => V (f j)) (fun j => IZ (ng j) (s j)) := ⟨_, rfl⟩
  obtain ⟨F, hF⟩ : ∃ F : Nat → ByteArray, F = fun j => f (k1 - 1 - j) := ⟨_, rfl⟩
  obtain ⟨NG, hNG⟩ : ∃ F : Nat → Bool, F = fun j => ng (k1 - 1 - j) := ⟨_, rfl⟩
  obtain ⟨S, hS⟩ : ∃ F : Nat → ByteArray, F = fun j => s (k1 - 1 - j) := ⟨_, rfl⟩
  have C2 := Lib.hid (fun vf ve W (hV1 : SV W vf k1 F) (hV2 : IVs W ve k1 NG S) => (show Calls Tryz.prog 22 #[.agg #[.string M, .string Q], vf, ve] W fun e w' => e = .returned (.tuple #[.string (E (X k1)), .int .i64 0]) ∧ Below W.heap.size W w' by
    have := pwprod_any M Q vf ve k1 k1 F NG S W hV1 hV2 (by omega) (by omega)
    rw [prodG_yes (fun j hj => by rw [hNG, hS]; exact hv _ (by omega)) hg (fun j hj => by rw [hF]; exact he _ (by omega))] at this
    have e : prZ (V M) (fun j => V (F j)) (fun j => IZ (NG j) (S j)) k1 = X k1 := by rw [hF, hNG, hS, hX]; exact prZ_rev (V M) k1 (fun j => V (f j)) (fun j => IZ (ng j) (s j))
    rwa [e] at this))
  have HXE := Lib.hid (show ∀ i, i ≤ k1 → EltG M Q (E (X i)) by rw [hX]; exact agr_prod hM hw he)
  have CH := Lib.hid (fun W => hasB_t ⟨hg, HXE.out k1 (Nat.le_refl _)⟩ ▸ pwhas_any M Q (E (X k1)) W)
  have CE := Lib.hid (fun i (hi : i < k1) W => pwexp_yes M Q (f i) (ng i) (s i) W (hv i hi) hg (he i hi))
  have CM := Lib.hid (fun i (hi : i < k1) W => (show Calls Tryz.prog 17 #[.agg #[.string M, .string Q], .string (E (X i)), .string (E (pwN (V M) (V (f i)) (IZ (ng i) (s i))))] W fun e w' => e = .returned (.tuple #[.string (E (X (i + 1))), .int .i64 0]) ∧ Below W.heap.size W w' by
    have := pwmul_yes M Q _ _ W hg (HXE.out i (by omega)) (agr_pw (he i hi) hM hw (IZ (ng i) (s i)))
    rw [V_E, V_E] at this
    rw [hX] at this ⊢
    exact this))
  rw [show prZ (V M) (fun j => V (f j)) (fun j => IZ (ng j) (s j)) k1 = X k1 by rw [hX]] at C1
  have hl0 : (⟨#[1]⟩ : ByteArray) = E (X 0) := by
    rw [hX]
    show _ = E (1 % V M)
    rw [Nat.mod_eq_of_lt hm1, l_1]
  have HL0 := Lib.hid hl0
  have HFF := Lib.hid (show ∀ i, F i = f (k1 - 1 - i) ∧ NG i = ng (k1 - 1 - i) ∧ S i = s (k1 - 1 - i) from fun i => ⟨by rw [hF], by rw [hNG], by rw [hS]⟩)
  have hxx : ((E (X k1)).toList == (E (X k1)).toList) = true := by simp
  clear hf hz1 hz2 hc hv hg he hM hQ hw hm1 hX hF hNG hS hl0
  go_enter Tryz.func8, Tryz.ntmps8
  go_wp2_with fail
  refine (CT.out _ (H1.out.below K.out) (H2.out.below K.out)).mono ?_; rintro e w1 ⟨rfl, b1⟩
  have K := Lib.hid (belP K.out b1)
  have G := Lib.hid (G.out.below b1 rfl)
  clear b1 q1 q2 q3 q4 q5
  obtain ⟨q1, q2, q3, q4, q5⟩ := G.out
  go_wp2_with fail
  refine (C1.out _ (H1.out.below K.out) (H2.out.below K.out)).mono ?_; rintro e w2 ⟨rfl, b2⟩
  have K := Lib.hid (belP K.out b2)
  have G := Lib.hid (G.out.below b2 rfl)
  clear b2 q1 q2 q3 q4 q5
  obtain ⟨q1, q2, q3, q4, q5⟩ := G.out
  have HP0 := Lib.hid (show AgR w M Q F NG S 0 (.slice none 0 0) (.slice none 0 0) w2 from ⟨K.out, G.out, World.ownsRow_nil _ _ _ _, World.ownsRow_nil _ _ _ _, .inl rfl⟩)
  clear CF CT C1 K G q1 q2 q3 q4 q5
  go_wp2
  go_loopw [9, 10, 11, 12] (fun y vf ve vi wr => ∃ i : Nat, i ≤ k1 ∧ vi = .int .i64 i ∧ y = .string (E (X i)) ∧ Hid (AgR w M Q F NG S i vf ve wr)) (fun _ _ _ vi _ => k1 - (intOf vi).toNat)
  case atStart => exact ⟨0, by omega, rfl, by rw [HL0.out], HP0⟩
  case round =>
    obtain ⟨i, hi, rfl, rfl, HP⟩ := hrel
    clear HP0
    by_cases hlt : i < k1
    · have hlti : (i : Int) < (k1 : Int) := by omega
      have hi0 : (0 : Int) ≤ (i : Int) := by omega
      obtain ⟨a1, rfl, hc1⟩ := svAt H1.out HP.out.1 hlt
      obtain ⟨a2, rfl, hd0, hd1⟩ := ivAt H2.out HP.out.1 hlt
      have S0 := Lib.hid (show Cel5 wr ⟨w.heap.size, 0, none⟩ ⟨w.heap.size, 1, none⟩ (a1.add i) (a2.add (i * 2)) ⟨(a2.add (i * 2)).block, (a2.add (i * 2)).off + 1, none⟩ (.string M) (.string Q) (.string (f i)) (.bool (ng i)) (.string (s i)) wr from ⟨HP.out.2.1.1, HP.out.2.1.2.1, hc1, hd0, hd1, Below.refl _ _⟩)
      have CEi := Lib.hid (fun W => CE.out i hlt W)
      have CMi := Lib.hid (fun W => CM.out i hlt W)
      generalize E (pwN (V M) (V (f i)) (IZ (ng i) (s i))) = y at CEi CMi
      clear hc1 hd0 hd1
      go_wp2_with fail
      go_region_held3 (fun W => W.cell? ⟨w.heap.size, 0, none⟩ = some (.string M) ∧ W.cell? ⟨w.heap.size, 1, none⟩ = some (.string Q) ∧ W.cell? (a1.add i) = some (.string (f i)) ∧ W.cell? (a2.add (i * 2)) = some (.bool (ng i)) ∧ W.cell? ⟨(a2.add (i * 2)).block, (a2.add (i * 2)).off + 1, none⟩ = some (.string (s i)) ∧ Below wr.heap.size wr W) (first | assumption | exact Cel5.of S0.out (Below.refl _ _).drew | exact Cel5.of S0.out (belP (Cel5.bel (by assumption)) b99))
        (first
        | (go_at_call 19; ((with_reducible refine (CEi.out _).mono ?_); rintro e w99 ⟨rfl, b99⟩)))
      have b4 : Below wr.heap.size wr w99 := Cel5.bel (by assumption)
      have HP4 := Lib.hid (HP.out.below b4)
      clear b4 S0 HP
      obtain ⟨q1, q2, q3, q4, q5⟩ := HP4.out.2.1
      go_wp2_with fail
      refine (CMi.out _).mono ?_; rintro e w5 ⟨rfl, b5⟩
      have HP5 := Lib.hid (HP4.out.below b5)
      clear b5 HP4 q1 q2 q3 q4 q5
      obtain ⟨r, hr⟩ : ∃ r : Nat, r = k1 - 1 - i := ⟨_, rfl⟩
      obtain ⟨hF1, hF2, hF3⟩ := HFF.out i
      rw [← hr] at hF1 hF2 hF3
      have hrk : r < k1 := by omega
      have hrz : (k1 : Int) - 1 - (i : Int) = (r : Int) := by omega
      have hr0 : (0 : Int) ≤ (r : Int) := by omega
      have hrl : (r : Int) < (k1 : Int) := by omega
      have HF1 := Lib.hid hF1.symm
      have HF2 := Lib.hid hF2.symm
      have HF3 := Lib.hid hF3.symm
      clear hr hF1 hF2 hF3
      obtain ⟨a1', e1, hc1⟩ := svAt H1.out HP5.out.1 hrk
      cases e1
      go_wp2_with (first
        | (at_builtin; refine wpList_app1 rfl (.tmp 72) (.tmp 81) rfl (w.heap.size + 1) i _ _ F rfl HP5.out.2.2.1 (f r) HF1.out rfl rfl (by omega) HP5.out.2.1.2.2.2.2 ?_; intro v' w6 z1 z2 z3; have HM6 := Lib.hid (ag_first HP5.out z1 z2 z3); clear z1 z2 z3; obtain ⟨a2', e2, hd0, hd1⟩ := ivAt H2.out HM6.out.1 hrk; cases e2)
        | (at_builtin; refine wpList_app2 rfl (.tmp 83) (.tmp 92) rfl (w.heap.size + 1) i _ _ NG S rfl HM6.out.2.2.2.1 (ng r) (s r) HF2.out HF3.out rfl rfl (by omega) HM6.out.2.1.2.2.2.2 ?_; intro v'' w7 z1 z2 z3; have HP7 := Lib.hid (ag_second HM6.out z1 z2 z3); clear z1 z2 z3))
      go_roundw
      case rel => exact ⟨i + 1, by omega, by go_num, rfl, HP7⟩
      case measure => simp [intOf]; omega
    · obtain rfl : i = k1 := by omega
      have HVF := Lib.hid (sv_of_row HP.out.2.2.1)
      have HVE := Lib.hid (iv_of_row HP.out.2.2.2.1)
      obtain ⟨q1, q2, q3, q4, q5⟩ := HP.out.2.1
      go_wp2_with fail
      refine (C2.out _ _ _ HVF.out HVE.out).mono ?_; rintro e w3 ⟨rfl, b3⟩
      have HP3 := Lib.hid (HP.out.below b3)
      clear b3 HVF HVE HP q1 q2 q3 q4 q5
      obtain ⟨q1, q2, q3, q4, q5⟩ := HP3.out.2.1
      go_wp2_with fail
      refine (CH.out _).mono ?_; rintro e w4 ⟨rfl, b4⟩
      have K4 := Lib.hid (belP HP3.out.1 b4)
      clear b4 HP3 q1 q2 q3 q4 q5
      go_wp2_with fail
      refine (awake13 _).mono ?_; rintro e w5 ⟨rfl, b5⟩
      have K5 := Lib.hid (belP K4.out b5)
      clear b5 K4
      go_wp2
      go_ret
      exact ⟨rfl, K5.out⟩
theorem law_PowerAgrees (M Q : ByteArray) (v1 : Value) (k1 : Nat) (f : Nat → ByteArray) (v2 : Value) (k2 : Nat) (ng : Nat → Bool) (s : Nat → ByteArray) (lM : M.size ≤ maxLen) (lQ : Q.size ≤ maxLen) (w : World) (h1 : SV w v1 k1 f) (hk1 : k1 ≤ maxLen) (hz1 : ∀ j, j < k1 → (f j).size ≤ maxLen) (h2 : IVs w v2 k2 ng s) (hk2 : k2 ≤ maxLen) (hz2 : ∀ j, j < k2 → (s j).size ≤ maxLen) :
    Calls Tryz.prog 8 #[.agg #[.string M, .string Q], v1, v2] w fun e w' => e = .returned (.bool true) ∧ Below w.heap.size w w' := by
  by_cases hf : FewP13 M Q k1 f k2 s
  · by_cases hc : (prodG M Q k1 f k2 ng s).2 = 0
    · exact agrees_yes M Q v1 k1 f v2 k2 ng s lM lQ w h1 hk1 hz1 h2 hk2 hz2 hf hc
    · exact agrees_n2 M Q v1 k1 f v2 k2 ng s lM lQ w h1 hk1 hz1 h2 hk2 hz2 hf hc
  · exact agrees_n1 M Q v1 k1 f v2 k2 ng s lM lQ w h1 hk1 hz1 h2 hk2 hz2 hf
end Go.Proofs.YtogmgfdihmacpaaGreatDoor
