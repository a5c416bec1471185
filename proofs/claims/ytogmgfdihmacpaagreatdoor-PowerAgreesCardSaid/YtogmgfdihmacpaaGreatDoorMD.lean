/-
  Several parts in one text (MD).
-/
import Derived.Test.YtogmgfdihmacpaaGreatDoorMB
import Derived.Test.YtogmgfdihmacpaaGreatDoorNA
import Derived.RangeFuncNested
import Derived.RangeFuncBound
import Derived.RangeFuncCalls
import Derived.RangeFuncLeaves
import Derived.Shelf.Abstract
import Derived.Shelf.RegionOpen
import Derived.WalkKit
import Derived.OwnWalkIn
import Derived.TacticsInMore
import Derived.LoopNIn
import Derived.LoopIn
import Derived.Test.YtogmgfdihmacpaaGreatDoorMC
import Derived.Test.YtogmgfdihmacpaaGreatDoorRef1
/-
  Contracts of package modular, the seventeenth part: the digits of an exponent, yielded from the highest one on; the power by squaring.
-/
namespace Go.Proofs.YtogmgfdihmacpaaGreatDoor
open Go.RowKit Go.Shelf
set_option linter.unusedVariables false
attribute [local go_sem] Oper.semAt_some

/-- The digits of x that have come after k rounds of n. -/
def dgs (x n k : Nat) : List Bool := (List.range k).map fun i => x.testBit (n - 1 - i)
theorem dgs_succ (x n k : Nat) : dgs x n (k + 1) = dgs x n k ++ [x.testBit (n - 1 - k)] := by simp [dgs, List.range_succ]
theorem dgs_length (x n k : Nat) : (dgs x n k).length = k := by simp [dgs]
/-- The number of a row of digits. -/
def dval (l : List Bool) : Nat := l.foldl (fun a b => 2 * a + b.toNat) 0
theorem dval_snoc (l : List Bool) (b : Bool) : dval (l ++ [b]) = 2 * dval l + b.toNat := by simp [dval]
theorem dval_dgs (x n : Nat) (hx : x < 2 ^ n) : ∀ k, k ≤ n → dval (dgs x n k) = x / 2 ^ (n - k) := by
  intro k
  induction k with
  | zero => intro _; rw [Nat.sub_zero, Nat.div_eq_of_lt hx]; rfl
  | succ k ih =>
    intro hk
    rw [dgs_succ, dval_snoc, ih (by omega), show n - k = (n - 1 - k) + 1 by omega, show n - (k + 1) = n - 1 - k by omega]
    rw [Nat.pow_succ, ← Nat.div_div_eq_div_mul, Nat.testBit_eq_decide_div_mod_eq]
    generalize x / 2 ^ (n - 1 - k) = q
    rcases Nat.mod_two_eq_zero_or_one q with h | h <;> simp [h] <;> omega
/-- The box at B keeps what it holds. -/
def KpB (B : Nat) (W W' : World) : Prop := ∀ v, W.cell? ⟨B, 0, none⟩ = some v → W'.cell? ⟨B, 0, none⟩ = some v
theorem nbits_bytes' {n k : Nat} (h : n < 256 ^ k) : nbits n ≤ 8 * k := by
  have h2 : n < 2 ^ (8 * k) := by rw [Nat.pow_mul]; exact h
  unfold nbits
  split
  · omega
  · rename_i h0
    have := (Nat.log2_lt h0).2 h2
    omega
theorem nbits_lim {s : ByteArray} (h : Can s) : nbits (V s) ≤ 1100 := by
  have h1 := h.1
  have := nbits_bytes' (V_lt s)
  omega

set_option maxRecDepth 100000 in
set_option maxHeartbeats 2000000 in
theorem digits1_in (F : Fence) (n : Nat) (hF : F.fn 129) (hFa : ∀ f, F.fn f) (hFw : F = Fence.wide) (hro : F.round = none) (hn : 1 ≤ n) (l Be : Nat) (s : ByteArray) (hs : Can s) (J Jx : List Bool → World → Prop)
    (hY : ∀ pre x W, J pre W → pre.length < nbits (V s) → YieldAt F (n - 1) Tryz.prog l #[.bool x] W fun e W' =>
      (e = .returned (.bool true) ∧ J (pre ++ [x]) W' ∧ KpB Be W W') ∨ (e = .returned (.bool false) ∧ Jx (pre ++ [x]) W'))
    (W : World) (hBe : W.cell? ⟨Be, 0, none⟩ = some (.string s)) (h0 : J [] W) :
    CallsIn F n Tryz.prog 129 #[.func (.yield l) #[] #[], .pointer (some ⟨Be, 0, none⟩)] W fun e W' => (∃ v, e = .returned v) ∧
      ((∃ ys, ys = dgs (V s) (nbits (V s)) (nbits (V s)) ∧ J ys W') ∨ (∃ pre, True ∧ Jx pre W')) := by
  subst hFw
  have hlim := nbits_lim hs
  have HS := Lib.hid hs; clear hs
  obtain ⟨N, hN⟩ : ∃ N, N = nbits (V s) := ⟨_, rfl⟩
  rw [← hN] at hlim hY ⊢
  refine callsIn_of_wp Tryz.func129 rfl hF ?_ hro
  simp only [Tryz.ntmps129, List.size_toArray, List.length_cons, List.length_nil, Nat.reduceAdd, Nat.reduceSub, Array.replicate_succ, Array.replicate_zero, List.push_toArray, List.append_toArray, List.nil_append, List.cons_append]
  gi_wp2
  refine (callsIn_wide.2 (bits_yes s _ HS.out)).mono ?_
  rintro e wx ⟨rfl, rfl⟩
  rw [← hN]
  have HN := Lib.hid hN; clear hN
  gi_wp2
  gi_loopw [8] (fun i wr => ∃ k : Nat, k ≤ N ∧ i = .int .i64 k ∧ wr.cell? ⟨Be, 0, none⟩ = some (.string s) ∧ J (dgs (V s) N k) wr)
    (fun i _ => N - (intOf i).toNat)
  case atStart => exact ⟨0, Nat.zero_le _, rfl, hBe, h0⟩
  case round =>
    obtain ⟨k, hk, rfl, hc, hJs⟩ := hrel
    by_cases hlt : k < N
    · obtain ⟨fn, tmps, assign, body, hy, hR⟩ := hY _ ((V s).testBit (N - 1 - k)) wr hJs (by rw [dgs_length]; exact hlt)
      have hw : IntKind.i64.wrap (IntKind.i64.wrap ((N : Int) - 1) - (k : Int)) = ((N - 1 - k : Nat) : Int) := by
        have hw1 : IntKind.i64.wrap ((N : Int) - 1) = (N : Int) - 1 := IntWalk.i64_in _ (by omega)
        rw [hw1, IntWalk.i64_in _ (by omega)]; omega
      have hw2 : (N : Int) - 1 - (k : Int) = ((N - 1 - k : Nat) : Int) := by omega
      have hle : N - 1 - k ≤ 9223372036854775807 := by omega

      obtain ⟨b, hb⟩ : ∃ b, b = (V s).testBit (N - 1 - k) := ⟨_, rfl⟩
      rw [← hb] at hy hR
      have HB := Lib.hid hb; clear hb
      gi_wp2
      refine (callsIn_wide.2 (bit_yes s _ _ HS.out hle)).mono ?_
      rintro e wx ⟨rfl, rfl⟩
      rw [← HB.out]
      gi_wp2
      refine hR.mono ?_
      rintro e W3 (⟨rfl, hJ3, hk3⟩ | ⟨rfl, hJx3⟩)
      · have hc3 := hk3 _ hc
        gi_wp2
        go_roundw
        case rel => exact ⟨k + 1, by omega, by go_num, hc3, by rw [dgs_succ, ← HB.out]; exact hJ3⟩
        case measure => simp [intOf]; omega
      · gi_wp2
        refine bodyPost_ret (results_none rfl _ _ _) rfl ?_
        exact ⟨⟨_, rfl⟩, .inr ⟨_, trivial, hJx3⟩⟩
    · obtain rfl : k = N := by omega
      gi_wp2
      go_end0
      exact ⟨⟨_, rfl⟩, .inl ⟨_, rfl, hJs⟩⟩
theorem digits_stops (n : Nat) (hn : 1 ≤ n) (Be : Nat) (s : ByteArray) (hs : Can s) (w : World) (hB : Be < w.heap.size) (hc : w.cell? ⟨Be, 0, none⟩ = some (.string s)) :
    SeqStopsK Fence.wide n Tryz.prog 129 #[.pointer (some ⟨Be, 0, none⟩)] (fun x : Bool => #[Value.bool x]) (KpB Be) (fun ys => ys = dgs (V s) (nbits (V s)) (nbits (V s))) (fun _ => True) (nbits (V s)) w := fun l J Jx W hW _ _ hY h0 =>
  digits1_in Fence.wide n trivial (fun _ => trivial) rfl rfl hn l Be s hs J Jx hY W ((hW.cell (p := ⟨Be, 0, none⟩) hB).trans hc) h0

set_option maxHeartbeats 400000 in
theorem digits_any (s : ByteArray) (w : World) :
    Calls Tryz.prog 106 #[.string s] w fun e w' => e = .returned (.func (.func 129) #[] #[.pointer (some ⟨w.heap.size, 0, none⟩)]) ∧ w' = w.alloc (.cells #[.string s] 22) := by
  go_enter Tryz.func106, Tryz.ntmps106
  go_wp2
  go_ret
  exact ⟨rfl, rfl⟩
end Go.Proofs.YtogmgfdihmacpaaGreatDoor


/-
  Contracts of package modular, the eighteenth part: raise, Exp.
-/
namespace Go.Proofs.YtogmgfdihmacpaaGreatDoor
open Go.RowKit Go.Shelf
set_option linter.unusedVariables false
attribute [local go_sem] Oper.semAt_some

theorem SlQ.set {w : World} {r : Value} {k X B : Nat} {v u : Value} (h : SlQ w r k X) (hB : w.cell? ⟨B, 0, none⟩ = some v) (hv : ∀ i, v ≠ .int .u64 i) : SlQ (w.setCell ⟨B, 0, none⟩ u) r k X := by
  obtain ⟨g, o, c, rfl, h1, h2, h3, h4, h5, h6⟩ := h
  refine ⟨g, o, c, rfl, h1, h2, h3, by simpa using h4, h5, fun j hj => ?_⟩
  have := h6 j hj
  rw [World.cell?_setCell_other _ _ _ _ (fun e => ?_)]
  · exact this
  · have e2 := Addr.mk.inj e
    obtain ⟨rfl, e3, -⟩ := e2
    rw [← e3, hB] at this
    cases this
    exact hv _ rfl
theorem SlQ.kept {W W' : World} {row : Option Nat} {r : Value} {k X : Nat} (h : SlQ W r k X) (hg : W.grownBy W' row) (hrow : ∀ r, row = some r → ∃ o : Obj, W.heap[r]? = some o ∧ o.isCells = false) : SlQ W' r k X := by
  obtain ⟨g, o, c, rfl, h1, h2, h3, h4, h5, h6⟩ := h
  exact ⟨g, o, c, rfl, h1, h2, h3, Nat.lt_of_lt_of_le h4 hg.size, h5, fun j hj => cell_kept (h6 j hj) hg hrow⟩
theorem keepsOthers_of_below {W W' : World} (h : Below W.heap.size W W') : KeepsOthers W W' :=
  ⟨h.size, fun k o hk _ => (h.block k (Array.getElem?_eq_some_iff.1 hk).1).trans hk⟩
theorem one_row (w : World) (t : Nat) : SlQ (w.alloc (.cells #[.int .u64 1] t)) (.slice (some ⟨w.heap.size, 0, none⟩) 1 1) 1 1 := by
  refine ⟨_, _, _, rfl, Nat.le_refl _, by omega, by omega, by simp, by decide, fun j hj => ?_⟩
  obtain rfl : j = 0 := by omega
  rw [World.cell?_alloc_new]
  rfl

/-- What the loop of raise knows. -/
def RaiI (w : World) (Bp Ba Bm Be : Nat) (va vm : Value) (s : ByteArray) (A M n : Nat) (pre : List Bool) (W : World) : Prop :=
  ((∃ r k X, W.cell? ⟨Bp, 0, none⟩ = some r ∧ SlQ W r k X ∧ k ≤ n ∧ X % M = A ^ dval pre % M) ∧ W.frozen? ⟨Bp, 0, none⟩ = false ∧ W.cell? ⟨Ba, 0, none⟩ = some va ∧ W.cell? ⟨Bm, 0, none⟩ = some vm ∧ W.cell? ⟨Be, 0, none⟩ = some (.string s)) ∧ Below w.heap.size w W
theorem RaiI.own {w : World} {Bp Ba Bm Be : Nat} {va vm : Value} {s : ByteArray} {A M n B : Nat} (hB : w.heap.size ≤ B) : OwnFrom B (RaiI w Bp Ba Bm Be va vm s A M n) := by
  refine OwnFrom.and (Own.from (fun pre W W' row hs hg hr => ?_) _) (ownFrom_below (Nat.le_refl _) hB)
  obtain ⟨⟨r, k, X, h1, h2, h3, h4⟩, hf, ha, hm, he⟩ := hs
  exact ⟨⟨r, k, X, cell_kept h1 hg hr, h2.kept hg hr, h3, h4⟩, (frozen_kept h1 hg hr).trans hf, cell_kept ha hg hr, cell_kept hm hg hr, cell_kept he hg hr⟩

theorem cell_new_m (W : World) (v : Value) (t : TypeId) : (W.alloc (.cells #[v] t)).cell? ⟨W.heap.size, 0, none⟩ = some v ∧ (W.alloc (.cells #[v] t)).frozen? ⟨W.heap.size, 0, none⟩ = false := ⟨(Boxed.new W t v).cell, (Boxed.new W t v).frozen⟩
theorem cell_alloc_m {W : World} {a : Addr} {v : Value} (o : Obj) (h : W.cell? a = some v) : (W.alloc o).cell? a = some v := cell_kept h (World.grownBy_alloc W o none) (by simp)
theorem frozen_alloc_m {W : World} {a : Addr} {v : Value} (o : Obj) (h : W.cell? a = some v) (hf : W.frozen? a = false) : (W.alloc o).frozen? a = false := (frozen_kept h (World.grownBy_alloc W o none) (by simp)).trans hf
theorem rai_start (w : World) (va vm : Value) (s : ByteArray) (A M n t1 t2 t3 t4 t5 : Nat) (hn : 1 ≤ n) :
    RaiI w (w.heap.size + 1 + 1 + 1) w.heap.size (w.heap.size + 1) (w.heap.size + 1 + 1 + 1 + 1) va vm s A M n []
      (((((w.alloc (.cells #[va] t1)).alloc (.cells #[vm] t2)).alloc (.cells #[.int .u64 1] t3)).alloc (.cells #[.slice (some ⟨w.heap.size + 1 + 1, 0, none⟩) 1 1] t4)).alloc (.cells #[.string s] t5)) := by
  have c0 := cell_new_m w va t1
  have c1 := cell_new_m (w.alloc (.cells #[va] t1)) vm t2
  have r := one_row ((w.alloc (.cells #[va] t1)).alloc (.cells #[vm] t2)) t3
  have c3 := cell_new_m (((w.alloc (.cells #[va] t1)).alloc (.cells #[vm] t2)).alloc (.cells #[.int .u64 1] t3)) (.slice (some ⟨w.heap.size + 1 + 1, 0, none⟩) 1 1) t4
  have c4 := cell_new_m ((((w.alloc (.cells #[va] t1)).alloc (.cells #[vm] t2)).alloc (.cells #[.int .u64 1] t3)).alloc (.cells #[.slice (some ⟨w.heap.size + 1 + 1, 0, none⟩) 1 1] t4)) (.string s) t5
  simp only [World.size_alloc] at c1 r c3 c4
  refine ⟨⟨⟨_, 1, 1, cell_alloc_m _ c3.1, (r.below ((Below.refl _ _).alloc (Nat.le_refl _) _)).below ((Below.refl _ _).alloc (Nat.le_refl _) _), hn, rfl⟩, frozen_alloc_m _ c3.1 c3.2, cell_alloc_m _ (cell_alloc_m _ (cell_alloc_m _ (cell_alloc_m _ c0.1))), cell_alloc_m _ (cell_alloc_m _ (cell_alloc_m _ c1.1)), c4.1⟩, ?_⟩
  exact (((((Below.refl _ w).alloc (Nat.le_refl _) _).alloc (by simp) _).alloc (by simp; omega) _).alloc (by simp; omega) _).alloc (by simp; omega) _
theorem lt_nbits_m (n : Nat) : n < 2 ^ nbits n := by
  unfold nbits
  split
  · rename_i h; subst h; decide
  · exact Nat.lt_log2_self
theorem MuS.npos {w : World} {p n M : Nat} (h : MuS w p n M) : 1 ≤ n := by
  obtain ⟨_, _, _, _, _, _, _, _, _, _, _, h⟩ := h
  omega

set_option maxRecDepth 100000 in
set_option maxHeartbeats 4000000 in
theorem raise_any (va : Value) (na A : Nat) (s : ByteArray) (p n M : Nat) (w : World) (hs : Can s) (ha : SlQ w va na A) (hm : MuS w p n M) :
    Calls Tryz.prog 85 #[va, .string s, .func (.func 97) #[] #[.pointer (some ⟨p, 0, none⟩)]] w fun e w' => ∃ r k X, e = .returned r ∧ SlQ w' r k X ∧ k ≤ n ∧ X % M = A ^ V s % M ∧ Below w.heap.size w w' := by
  refine (callsIn_wide (n := 9)).1 ?_
  have HS := Lib.hid hs; clear hs
  obtain ⟨ga, oa, ca, rfl⟩ : ∃ ga oa ca, va = .slice (some ⟨ga, oa, none⟩) na ca := by
    obtain ⟨ga, oa, ca, e, _⟩ := ha
    exact ⟨ga, oa, ca, e⟩
  have HA := Lib.hid ha; clear ha
  have HM := Lib.hid hm; clear hm
  refine callsIn_of_wp_marks Tryz.func85 rfl trivial ?_ rfl
  simp only [Tryz.ntmps85, List.size_toArray, List.length_cons, List.length_nil, Nat.reduceAdd, Nat.reduceSub, Array.replicate_succ, Array.replicate_zero, List.push_toArray, List.append_toArray, List.nil_append, List.cons_append]
  gi_wp2
  refine ⟨trivial, (callsIn_wide.2 (digits_any s _)).mono ?_⟩
  rintro e wx ⟨he, rfl⟩
  subst he
  have hst := rai_start w (.slice (some ⟨ga, oa, none⟩) na ca) (.func (.func 97) #[] #[.pointer (some ⟨p, 0, none⟩)]) s A M n 101 98 56 101 22 (MuS.npos HM.out)
  simp only [World.size_alloc] at hst ⊢
  generalize hW0 : World.alloc _ _ = W0 at hst ⊢
  have HW0 := Lib.hid hW0; clear hW0
  gi_wp2
  have hcan : V s < 2 ^ nbits (V s) := lt_nbits_m _
  have hBe := hst.1.2.2.2.2
  have hBelt : w.heap.size + 1 + 1 + 1 + 1 < W0.heap.size := by
    obtain ⟨o, ho, -⟩ := cells_of_cell hBe
    exact (Array.getElem?_eq_some_iff.1 ho).1
  have HCAN := Lib.hid hcan; clear hcan
  refine wpIn_rangeFunc_ownF rfl (by omega) (gf := 129) (lb := #[.pointer (some ⟨w.heap.size + 1 + 1 + 1 + 1, 0, none⟩)]) rfl trivial (enters_of Tryz.func129 (by kernel_rfl) rfl)
    (digits_stops 8 (by omega) (w.heap.size + 1 + 1 + 1 + 1) s HS.out W0 hBelt hBe) (fun h k v hv => k v (h v hv)) (fun W l o o' _ h hc _ v hv => cell_kept hv (grownBy_putObj' W l o') (fun r e => by cases e; exact ⟨o, h, hc⟩)) (Below.refl _ _) (fun _ => rfl)
    (RaiI w (w.heap.size + 1 + 1 + 1) w.heap.size (w.heap.size + 1) (w.heap.size + 1 + 1 + 1 + 1) (.slice (some ⟨ga, oa, none⟩) na ca) (.func (.func 97) #[] #[.pointer (some ⟨p, 0, none⟩)]) s A M n)
    (fun _ _ _ => False) (RaiI.own (by omega)) (fun _ _ _ _ _ hs _ _ => hs) hst
    (fun x => { tmps := #[.slice (some ⟨ga, oa, none⟩) na ca, .string s, .func (.func 97) #[] #[.pointer (some ⟨p, 0, none⟩)], .pointer (some ⟨w.heap.size, 0, none⟩), undef, .pointer (some ⟨w.heap.size + 1, 0, none⟩), .slice none 0 0, .pointer (some ⟨w.heap.size + 1 + 1 + 1, 0, none⟩), .bool x, .slice (some ⟨w.heap.size + 1 + 1, 0, none⟩) 1 1, .string s, .func (.func 129) #[] #[.pointer (some ⟨w.heap.size + 1 + 1 + 1 + 1, 0, none⟩)], .bool x, undef, undef, undef, undef, undef, undef, undef, undef, undef, undef], defers := [] }) ?assign ?body ?done ?stop
  case assign =>
    intro l x W K hK
    gi_wp2
    exact hK
  case body =>
    rintro l pre x W ⟨⟨⟨r, k, X, hr, hsl, hkn, hX⟩, hf, hca, hcm, hce⟩, hB⟩ hlen
    clear hst hBe
    have hd : 1 ≤ 9 - 1 - 1 := by omega
    have hmx : Tryz.prog.follows .mixedOrders = true := by kernel_rfl
    obtain ⟨gr, or, cr, rfl⟩ : ∃ gr or cr, r = .slice (some ⟨gr, or, none⟩) k cr := by
      obtain ⟨gr, or, cr, e, _⟩ := hsl
      exact ⟨gr, or, cr, e⟩
    have S1 := Lib.hid hsl; clear hsl
    have HX := Lib.hid hX; clear hX
    have hdiff1 : w.heap.size < W.heap.size := by
      obtain ⟨o, ho, -⟩ := cells_of_cell hca
      exact (Array.getElem?_eq_some_iff.1 ho).1
    have hl1 : w.heap.size + 1 + 1 + 1 + 1 < W.heap.size := by
      obtain ⟨o, ho, -⟩ := cells_of_cell hce
      exact (Array.getElem?_eq_some_iff.1 ho).1
    have A1 := Lib.hid (HA.out.below hB)
    have M1 := Lib.hid (HM.out.below hB)
    have B1 := Lib.hid hB; clear hB
    gi_wp2
    refine ⟨trivial, (CallsIn.inRound l (callsIn_wide.2 (mult_any _ _ _ _ _ _ p n M W S1.out S1.out M1.out))).mono ?_⟩
    rintro e W2 ⟨r2, k2, X2, rfl, hs2, hk2, hX2, b2⟩
    obtain ⟨g2, o2, c2, rfl⟩ : ∃ gr or cr, r2 = .slice (some ⟨gr, or, none⟩) k2 cr := by
      obtain ⟨gr, or, cr, e, _⟩ := hs2
      exact ⟨gr, or, cr, e⟩
    have hr2 := (b2.cell (p := ⟨w.heap.size + 1 + 1 + 1, 0, none⟩) (show w.heap.size + 1 + 1 + 1 < W.heap.size by omega)).trans hr
    have hf2 := (b2.frozen (p := ⟨w.heap.size + 1 + 1 + 1, 0, none⟩) (show w.heap.size + 1 + 1 + 1 < W.heap.size by omega)).trans hf
    have hca2 := (b2.cell (p := ⟨w.heap.size, 0, none⟩) (show w.heap.size < W.heap.size by omega)).trans hca
    have hcm2 := (b2.cell (p := ⟨w.heap.size + 1, 0, none⟩) (show w.heap.size + 1 < W.heap.size by omega)).trans hcm
    have hce2 := (b2.cell (p := ⟨w.heap.size + 1 + 1 + 1 + 1, 0, none⟩) (show w.heap.size + 1 + 1 + 1 + 1 < W.heap.size by omega)).trans hce
    have HX2 := Lib.hid (show X2 % M = A ^ (2 * dval pre) % M by rw [hX2, Nat.mul_mod, HX.out, ← Nat.mul_mod, ← Nat.pow_add, Nat.two_mul]); clear hX2
    have K2 := Lib.hid (keepsOthers_of_below b2)
    have hB2 := bnext B1.out b2
    have hl2 : W.heap.size ≤ W2.heap.size := b2.size
    clear b2
    have S2 := Lib.hid (hs2.set (B := w.heap.size + 1 + 1 + 1) (u := .slice (some ⟨g2, o2, none⟩) k2 c2) hr2 (fun i => by intro e; cases e)); clear hs2
    have B3 := Lib.hid (hB2.setCell (p := ⟨w.heap.size + 1 + 1 + 1, 0, none⟩) (show w.heap.size ≤ w.heap.size + 1 + 1 + 1 by omega) (.slice (some ⟨g2, o2, none⟩) k2 c2)); clear hB2
    have K3 := Lib.hid (K2.out.trans (KeepsOthers.setCell W2 ⟨w.heap.size + 1 + 1 + 1, 0, none⟩ (.slice (some ⟨g2, o2, none⟩) k2 c2))); clear K2
    have hr3 := World.cell?_setCell_same' W2 ⟨w.heap.size + 1 + 1 + 1, 0, none⟩ (.slice (some ⟨g2, o2, none⟩) k2 c2) (by rw [hr2]; rfl)
    have hf3 : (W2.setCell ⟨w.heap.size + 1 + 1 + 1, 0, none⟩ (.slice (some ⟨g2, o2, none⟩) k2 c2)).frozen? ⟨w.heap.size + 1 + 1 + 1, 0, none⟩ = false := by rw [World.frozen?_setCell]; exact hf2
    have other : ∀ b v, b ≠ w.heap.size + 1 + 1 + 1 → W2.cell? ⟨b, 0, none⟩ = some v → (W2.setCell ⟨w.heap.size + 1 + 1 + 1, 0, none⟩ (.slice (some ⟨g2, o2, none⟩) k2 c2)).cell? ⟨b, 0, none⟩ = some v := fun b v hb hv => by
      rw [World.cell?_setCell_other _ _ _ _ (fun e => hb (Addr.mk.inj e).1.symm)]; exact hv
    have hca3 := other _ _ (by omega) hca2
    have hcm3 := other _ _ (by omega) hcm2
    have hce3 := other _ _ (by omega) hce2
    have hl3 : (W2.setCell ⟨w.heap.size + 1 + 1 + 1, 0, none⟩ (.slice (some ⟨g2, o2, none⟩) k2 c2)).heap.size = W2.heap.size := by simp
    clear other hca2 hcm2 hce2
    have A3 := Lib.hid (HA.out.below B3.out)
    have M3 := Lib.hid (HM.out.below B3.out)
    rcases x with _ | _
    · gi_wp2
      refine ⟨K3.out, fun v hv => ?_, ⟨⟨_, k2, X2, hr3, S2.out, hk2, ?_⟩, hf3, hca3, hcm3, hce3⟩, B3.out⟩
      · rw [hce] at hv; cases hv; exact hce3
      · rw [dval_snoc]; exact HX2.out
    · gi_wp2
      refine ⟨trivial, (CallsIn.inRound l (callsIn_wide.2 (mult_any _ _ _ _ _ _ p n M _ S2.out A3.out M3.out))).mono ?_⟩
      generalize hW3 : World.setCell W2 _ _ = W3 at *
      have HW3 := Lib.hid hW3; clear hW3
      rintro e W4 ⟨r4, k4, X4, rfl, hs4, hk4, hX4, b4⟩
      obtain ⟨g4, o4, c4, rfl⟩ : ∃ gr or cr, r4 = .slice (some ⟨gr, or, none⟩) k4 cr := by
        obtain ⟨gr, or, cr, e, _⟩ := hs4
        exact ⟨gr, or, cr, e⟩
      have hr4 := (b4.cell (p := ⟨w.heap.size + 1 + 1 + 1, 0, none⟩) (show w.heap.size + 1 + 1 + 1 < W3.heap.size by omega)).trans hr3
      have hf4 := (b4.frozen (p := ⟨w.heap.size + 1 + 1 + 1, 0, none⟩) (show w.heap.size + 1 + 1 + 1 < W3.heap.size by omega)).trans hf3
      have hca4 := (b4.cell (p := ⟨w.heap.size, 0, none⟩) (show w.heap.size < W3.heap.size by omega)).trans hca3
      have hcm4 := (b4.cell (p := ⟨w.heap.size + 1, 0, none⟩) (show w.heap.size + 1 < W3.heap.size by omega)).trans hcm3
      have hce4 := (b4.cell (p := ⟨w.heap.size + 1 + 1 + 1 + 1, 0, none⟩) (show w.heap.size + 1 + 1 + 1 + 1 < W3.heap.size by omega)).trans hce3
      have HX4 := Lib.hid (show X4 % M = A ^ (2 * dval pre + 1) % M by rw [hX4, Nat.mul_mod, HX2.out, ← Nat.mul_mod, ← Nat.pow_succ]); clear hX4
      have K4 := Lib.hid (K3.out.trans (keepsOthers_of_below b4))
      have hB4 := bnext B3.out b4
      clear b4
      have S4 := Lib.hid (hs4.set (B := w.heap.size + 1 + 1 + 1) (u := .slice (some ⟨g4, o4, none⟩) k4 c4) hr4 (fun i => by intro e; cases e)); clear hs4
      have B5 := Lib.hid (hB4.setCell (p := ⟨w.heap.size + 1 + 1 + 1, 0, none⟩) (show w.heap.size ≤ w.heap.size + 1 + 1 + 1 by omega) (.slice (some ⟨g4, o4, none⟩) k4 c4)); clear hB4
      have K5 := Lib.hid (K4.out.trans (KeepsOthers.setCell W4 ⟨w.heap.size + 1 + 1 + 1, 0, none⟩ (.slice (some ⟨g4, o4, none⟩) k4 c4))); clear K4
      have hr5 := World.cell?_setCell_same' W4 ⟨w.heap.size + 1 + 1 + 1, 0, none⟩ (.slice (some ⟨g4, o4, none⟩) k4 c4) (by rw [hr4]; rfl)
      have hf5 : (W4.setCell ⟨w.heap.size + 1 + 1 + 1, 0, none⟩ (.slice (some ⟨g4, o4, none⟩) k4 c4)).frozen? ⟨w.heap.size + 1 + 1 + 1, 0, none⟩ = false := by rw [World.frozen?_setCell]; exact hf4
      have other : ∀ b v, b ≠ w.heap.size + 1 + 1 + 1 → W4.cell? ⟨b, 0, none⟩ = some v → (W4.setCell ⟨w.heap.size + 1 + 1 + 1, 0, none⟩ (.slice (some ⟨g4, o4, none⟩) k4 c4)).cell? ⟨b, 0, none⟩ = some v := fun b v hb hv => by
        rw [World.cell?_setCell_other _ _ _ _ (fun e => hb (Addr.mk.inj e).1.symm)]; exact hv
      have hca5 := other _ _ (by omega) hca4
      have hcm5 := other _ _ (by omega) hcm4
      have hce5 := other _ _ (by omega) hce4
      clear other hca4 hcm4 hce4
      gi_wp2
      refine ⟨K5.out, fun v hv => ?_, ⟨⟨_, k4, X4, hr5, S4.out, hk4, ?_⟩, hf5, hca5, hcm5, hce5⟩, B5.out⟩
      · rw [hce] at hv; cases hv; exact hce5
      · rw [dval_snoc]; exact HX4.out
  case done =>
    rintro D ys W hD rfl ⟨⟨⟨r, k, X, hr, hsl, hkn, hX⟩, hf, hca, hcm, hce⟩, hB⟩ hK
    obtain ⟨gr, or, cr, rfl⟩ : ∃ gr or cr, r = .slice (some ⟨gr, or, none⟩) k cr := by
      obtain ⟨gr, or, cr, e, _⟩ := hsl
      exact ⟨gr, or, cr, e⟩
    have S1 := Lib.hid hsl; clear hsl
    have HX := Lib.hid hX; clear hX
    have hW0s : w.heap.size ≤ W0.heap.size := by omega
    gi_wp2
    refine ⟨by simp, .inl ⟨_, _, rfl, run_takeDeferred hK, ?_⟩⟩
    have hlast : dval (dgs (V s) (nbits (V s)) (nbits (V s))) = V s := by
      rw [dval_dgs _ _ HCAN.out _ (Nat.le_refl _), Nat.sub_self, Nat.pow_zero, Nat.div_one]
    rw [hlast] at HX
    exact ⟨_, results_tmp rfl _ _ _, _, k, X, rfl, S1.out.kept (grownBy_putObj' _ D _) (fun r e => by cases e; exact ⟨_, hK, rfl⟩), hkn, HX.out, hB.trans (belowK_b (w := W0) hW0s W D _ _ hD hK rfl rfl)⟩
  case stop =>
    rintro D c pre W _ _ h _
    exact h.elim
end Go.Proofs.YtogmgfdihmacpaaGreatDoor


/-
  Contracts of package modular, the nineteenth part: Exp, Add.
-/
namespace Go.Proofs.YtogmgfdihmacpaaGreatDoor
open Go.RowKit
set_option linter.unusedVariables false

set_option maxHeartbeats 800000 in
set_option maxRecDepth 20000 in
theorem mexp_ok (a b m : ByteArray) (w : World) (ha : Can a) (hb : Can b) (hm : Can m) (h0 : 0 < m.size) :
    Calls Tryz.prog 48 #[.string a, .string b, .string m] w fun e w' => e = .returned (.tuple #[.string (E (V a ^ V b % V m)), .int .i64 0]) ∧ Below w.heap.size w w' := by
  have hs1 := ha.1
  have hs3 := hm.1
  have hmp := can_pos hm h0
  have hml : V m < Lim := V_lt128 hm
  have hx := Nat.mod_lt (V a) hmp
  have cx : Can (E (V a % V m)) := can_E' (Nat.lt_trans hx hml)
  have hsx := cx.1
  have CX := Lib.hid cx; clear cx
  have HA := Lib.hid ha; clear ha
  have HB := Lib.hid hb; clear hb
  have HM := Lib.hid hm; clear hm
  have H0 := Lib.hid hmp; clear hmp hx hml
  go_enter Tryz.func48, Tryz.ntmps48
  go_wp2_with fail
  have b0 : Below w.heap.size w (w.alloc (.cells #[.string a, .string b] 22)) := (Below.refl _ _).alloc (Nat.le_refl _) _
  refine (check_new m [a, b] 2 22 #[.string a, .string b] w rfl rfl (by omega)).mono ?_
  rintro e w1 ⟨⟨v, rfl, hv⟩, rfl⟩
  obtain rfl := hv.ok HM.out h0 (by intro s hs; simp at hs; rcases hs with rfl | rfl; exact HA.out; exact HB.out)
  have B0 := Lib.hid b0; clear b0 hv
  generalize w.alloc _ = w1 at *
  go_wp2_with fail
  refine (remainder_any a m _ HA.out HM.out H0.out).mono ?_
  rintro e w2 ⟨rfl, b2⟩
  have B2 := Lib.hid (bnext B0.out b2); clear b2
  go_wp2_with fail
  refine (mload_any (E (V a % V m)) _ (by omega)).mono ?_
  rintro e w3 ⟨rfl, hr3, b3⟩
  have S3 := Lib.hid (load_sl CX.out hr3); clear hr3
  have B3 := Lib.hid (bnext B2.out b3); clear b3
  rw [V_E] at S3
  generalize (E (V a % V m)).size = sx at *
  generalize w2.heap.size = g3 at *
  go_wp2_with fail
  refine (multiplication_any m _ HM.out h0).mono ?_
  rintro e w4 ⟨p, k, M, rfl, hMk, hmu, b4⟩
  have MU4 := Lib.hid hmu; clear hmu
  have HMK := Lib.hid hMk; clear hMk
  have S4 := Lib.hid (S3.out.below b4)
  have B4 := Lib.hid (bnext B3.out b4); clear b4 S3
  go_wp2_with fail
  refine (raise_any _ _ _ b p _ M _ HB.out S4.out MU4.out).mono ?_
  rintro e w5 ⟨r, kk, V5, rfl, h5, hk5, hv5, b5⟩
  obtain ⟨g, o, c, rfl, r1, r2, r3, r4, r5, r6⟩ := h5
  have B5 := Lib.hid (bnext B4.out b5); clear b5
  have R6 := Lib.hid r6; clear r6
  have HC := Lib.hid (can_E16 r5 (show kk ≤ 16 by omega))
  have hfin : V5 % V m = V a ^ V b % V m := by
    rw [mod_of_mult hv5 HMK.out, ← Nat.pow_mod]
  have R5 := Lib.hid r5; clear r5 hv5
  have HF := Lib.hid hfin; clear hfin
  go_wp2_with fail
  refine (mstore_any g o kk c V5 _ r1 r2 R5.out r4 R6.out).mono ?_
  rintro e w6 ⟨rfl, b6⟩
  have B6 := Lib.hid (bnext B5.out b6); clear b6
  go_wp2_with fail
  refine (remainder_any _ m _ HC.out HM.out H0.out).mono ?_
  rintro e w7 ⟨rfl, b7⟩
  have B7 := Lib.hid (bnext B6.out b7); clear b7
  rw [V_E, HF.out]
  go_wp2
  go_ret2
  exact ⟨rfl, B7.out⟩

theorem addM_lt {x y m : Nat} (hx : x < m) (hy : y < m) (h : x < m - y) : x + y = (x + y) % m := (Nat.mod_eq_of_lt (by omega)).symm
theorem addM_ge {x y m : Nat} (hx : x < m) (hy : y < m) (h : ¬ x < m - y) : x - (m - y) = (x + y) % m := by
  rw [Nat.mod_eq_sub_mod (by omega), Nat.mod_eq_of_lt (by omega)]; omega

end Go.Proofs.YtogmgfdihmacpaaGreatDoor


/-
  Contracts of package modular, the twentieth part: Power.
-/
namespace Go.Proofs.YtogmgfdihmacpaaGreatDoor
open Go.RowKit
set_option linter.unusedVariables false
end Go.Proofs.YtogmgfdihmacpaaGreatDoor


/-
  Layer 3's statements: the chapter's examples.
-/
namespace Go.Proofs.YtogmgfdihmacpaaGreatDoor
open Go.RowKit
set_option linter.unusedVariables false
theorem cs (n : Nat) (h : n < 18446744073709551616) : Can (E n) := can_E' (small_lim h)
theorem cp (n : Nat) (h : n ≠ 0) : 0 < (E n).size := Nat.pos_of_ne_zero (E_size_ne h)
theorem ex3_exp (w : World) : Calls Tryz.prog 48 #[.string (E 3), .string (E 4), .string (E 7)] w fun e w' => e = .returned (.tuple #[.string (E 4), .int .i64 0]) ∧ Below w.heap.size w w' := by
  have h := mexp_ok (E 3) (E 4) (E 7) w (cs 3 (by omega)) (cs 4 (by omega)) (cs 7 (by omega)) (cp 7 (by omega))
  rw [V_E, V_E, V_E, show 3 ^ 4 % 7 = 4 by decide] at h
  exact h
theorem ex3_inv (w : World) : Calls Tryz.prog 84 #[.string (E 10), .string (E 7)] w fun e w' => e = .returned (.tuple #[.string (E 5), .int .i64 0]) ∧ Below w.heap.size w w' := by
  have h := minv_yes (E 10) (E 7) w (cs 10 (by omega)) (cs 7 (by omega)) (cp 7 (by omega)) (by rw [V_E, V_E]; decide)
  rw [V_E, V_E] at h
  refine h.mono ?_
  rintro e w' ⟨⟨x, rfl, h1, h2⟩, hb⟩
  have : x = 5 := by
    have : x = 0 ∨ x = 1 ∨ x = 2 ∨ x = 3 ∨ x = 4 ∨ x = 5 ∨ x = 6 := by omega
    rcases this with rfl | rfl | rfl | rfl | rfl | rfl | rfl <;> first | rfl | (exact absurd h2 (by decide))
  subst this
  exact ⟨rfl, hb⟩
end Go.Proofs.YtogmgfdihmacpaaGreatDoor

