/-
  Contracts of package prime, the eighth part: Factors.
-/
import Derived.Test.YtfokiokcofabcaaDoorPri7
import Derived.Test.YtfokiokcofabcaaDoorMD
import Derived.Maps.AppendAt
namespace Go.Proofs.YtfokiokcofabcaaDoor
open Go.RowKit Go.Deep Go.Shelf
set_option linter.unusedVariables false
attribute [local go_sem] Oper.semAt_some

theorem pfac_form (s : ByteArray) (w : World) (h : ¬ Can s) :
    Calls Tryd.prog 24 #[.string s] w fun e w' => e = .returned (.tuple #[.slice none 0 0, .int .i64 3]) ∧ w = w' := by
  have HS := Lib.hid (show ¬ SmallC s from fun q => h q.1)
  have HC := Lib.hid h; clear h
  go_enter Tryd.func24, Tryd.ntmps24
  go_wp2_with fail
  refine (small_no s _ HS.out).mono ?_; rintro e w' ⟨rfl, rfl⟩
  go_wp2_with fail
  refine (valid_no s _ HC.out).mono ?_; rintro e w' ⟨rfl, rfl⟩
  go_wp2
  go_ret2
  exact ⟨rfl, rfl⟩
theorem pfac_zero (s : ByteArray) (w : World) (h : Can s) (h0 : s.size = 0) :
    Calls Tryd.prog 24 #[.string s] w fun e w' => e = .returned (.tuple #[.slice none 0 0, .int .i64 11]) ∧ w = w' := by
  have HC := Lib.hid h
  have HS := Lib.hid (show SmallC s from ⟨h, by omega⟩); clear h
  have hE := empty_of h0
  clear h0
  go_enter Tryd.func24, Tryd.ntmps24
  go_wp2_with fail
  refine (small_yes s _ HS.out).mono ?_; rintro e w' ⟨rfl, rfl⟩
  go_wp2_with fail
  refine (valid_yes s _ HC.out).mono ?_; rintro e w' ⟨rfl, rfl⟩
  go_wp2
  go_ret2
  exact ⟨rfl, rfl⟩
theorem pfac_long (s : ByteArray) (w : World) (h : Can s) (h8 : ¬ s.size ≤ 8) :
    Calls Tryd.prog 24 #[.string s] w fun e w' => e = .returned (.tuple #[.slice none 0 0, .int .i64 5]) ∧ w = w' := by
  have HC := Lib.hid h; clear h
  have hE := not_empty_of (s := s) (by omega)
  have HS := Lib.hid (show ¬ SmallC s from fun q => h8 q.2); clear h8
  go_enter Tryd.func24, Tryd.ntmps24
  go_wp2_with fail
  refine (small_no s _ HS.out).mono ?_; rintro e w' ⟨rfl, rfl⟩
  go_wp2_with fail
  refine (valid_yes s _ HC.out).mono ?_; rintro e w' ⟨rfl, rfl⟩
  go_wp2
  go_ret2
  exact ⟨rfl, rfl⟩
theorem pfac_big (n : Nat) (w : World) (h : ¬ n < 1099511627776) (hn : n < 18446744073709551616) :
    Calls Tryd.prog 24 #[.string (E n)] w fun e w' => e = .returned (.tuple #[.slice none 0 0, .int .i64 5]) ∧ w = w' := by
  have HS := Lib.hid (smallP hn); clear hn
  have hE := not_empty_of (E_size_ne (n := n) (by omega))
  have hi : (1099511627776 : Int) ≤ (n : Int) := by omega
  clear h
  go_enter Tryd.func24, Tryd.ntmps24
  go_wp2_with fail
  refine (small_yes _ _ HS.out).mono ?_; rintro e w' ⟨rfl, rfl⟩
  rw [V_E]
  go_wp2_with fail
  refine (valid_yes _ _ HS.out.1).mono ?_; rintro e w' ⟨rfl, rfl⟩
  go_wp2
  go_ret2
  exact ⟨rfl, rfl⟩

/-- What the loop of Factors knows: the box of the list, the box of the number. -/
def FacL (w : World) (B Be n : Nat) (pre : List U64N) (W : World) : Prop :=
  ((∃ v, Boxed W B 47 v ∧ W.ownsRow w.heap.size 22 1 v pre.length (nats (pre.map (·.1))) ∧ True) ∧ Boxed W Be 31 (.int .u64 n)) ∧ Below w.heap.size w W
theorem facL_own {w : World} {B Be n m : Nat} (hm : w.heap.size ≤ m) : OwnFrom m (FacL w B Be n) := by
  refine OwnFrom.and (Own.from (fun s X Y row hs hg hr => ⟨?_, ?_⟩) _) (ownFrom_below (Nat.le_refl _) hm)
  · exact holdsRow_own w.heap.size B 47 22 1 (fun pre : List U64N => pre.length) (fun pre => nats (pre.map (·.1))) (fun _ _ => True) s X Y row hs.1 hg hr
  · exact boxed_own Be 31 (fun _ : List U64N => Value.int .u64 n) s X Y row hs.2 hg hr
theorem step_append_in {F : Fence} {n : Nat} {P : Program} {ops : Array Oper} {o : Oper} {a : Act} {w : World} {K : Act → World → Prop} {Q : Exit → Act → World → Prop} {E : Prop}
    (hg : o.guard = none) (s x : Operand) (t : TypeId) (hop : o.op = Op.call { callee := Callee.builtin Builtin.append, args := #[s, x], argTypes := #[t, t] })
    (base : Nat) (e : TypeId) (i : TypeInfo) (z : Value) (size bytes : Nat) (h1 : P.underlying t = some (.slice e)) (h2 : P.info? e = some i) (h3 : i.zero = some z) (h4 : i.size = size) (h5 : i.bytes = bytes) (h6 : z.cells.size = size) (h7 : 0 < size)
    (v : Value) (k : Nat) (xs : List Value) (hs : a.eval s = v) (hown : w.ownsRow base e size v k xs) (ad : Addr) (m c : Nat) (news : List Value) (hx : a.eval x = .slice (some ad) m c) (hn : news.length = m * size)
    (hc : ∀ j u, news[j]? = some u → w.cell? (ad.add j) = some u) (h1c : ∀ u ∈ news, u.oneCell' = true) (b1 : k + m ≤ maxLen) (b2 : (k + m) * bytes ≤ 140737488355328) (b3 : base ≤ w.heap.size)
    (hK : ∀ v' w', w'.ownsRow base e size v' (k + m) (xs ++ news) → w.grownBy w' v.ownBlock → K (a.put o.dst v') w') :
    if Region.wanted o (yielded ops a.tmps) = true then Oper.wpIn F n P o a w K Q else E := by
  have hw : Region.wanted o (yielded ops a.tmps) = true := by simp [Region.wanted, hg]
  rw [if_pos hw]
  obtain ⟨v', w', hrun, r1, r2, r3⟩ := run_append_own (P := P) w base t o.type e i z size bytes h1 h2 h3 h4 h5 h6 h7 v k xs hown ad m c news hn hc h1c b1 b2 b3
  unfold Oper.wpIn
  refine ⟨?_, ?_⟩
  · simp [Oper.about, hop, resolve, Target.leads, Sem.run_pure]
  · rw [Oper.semAt_plain F _ _ (by rw [hop]; intro c hc'; cases hc')]
    simp [execOp, hop, resolve, invoke, builtin, hs, hx, hrun, Result.andThen]
    exact hK v' w' r1 r2

theorem fac_end {w W w2 w3 : World} {n x : Nat} {u : Value} {pre : List U64N} (hx : x < 18446744073709551616)
    (hbe : Boxed W (w.heap.size + 1) 31 (.int .u64 n)) (hbe3 : Boxed w3 (w.heap.size + 1) 31 (.int .u64 n)) (hv3 : Boxed w3 w.heap.size 47 u)
    (hr3 : w3.ownsRow w.heap.size 22 1 u (pre.length + 1) (nats (pre.map (·.1)) ++ [Value.string (E x)])) (hk3 : KeepsOthers w2 w3) (hb3 : Below w.heap.size w2 w3)
    (hbd : Below W.heap.size W w2) (hB2 : Below w.heap.size w w2) :
    KeepsOthers W w3 ∧ KpB (w.heap.size + 1) W w3 ∧ FacL w w.heap.size (w.heap.size + 1) n (pre ++ [⟨x, hx⟩]) w3 := by
  refine ⟨(keepsOthers_of_below hbd).trans hk3, fun a ha => ?_, ⟨⟨⟨u, hv3, ?_, trivial⟩, hbe3⟩, hB2.trans hb3⟩⟩
  · rw [hbe.cell] at ha; cases ha; exact hbe3.cell
  · rw [nats_snoc] at hr3
    rw [List.length_append, List.map_append]
    exact hr3

set_option maxRecDepth 100000 in
set_option maxHeartbeats 4000000 in
theorem pfac_yes (n : Nat) (w : World) (h0 : 0 < n) (hn : n < 1099511627776) :
    Calls Tryd.prog 24 #[.string (E n)] w fun e w' => FacP n w e w' := by
  refine (callsIn_wide (n := 9)).1 ?_
  have HS := Lib.hid (smallP (n := n) (by omega))
  have hE := not_empty_of (E_size_ne (n := n) (by omega))
  have hi : ¬ (1099511627776 : Int) ≤ (n : Int) := by omega
  have HN := Lib.hid hn
  have H0 := Lib.hid h0
  clear h0 hn
  refine callsIn_of_wp_marks Tryd.func24 rfl trivial ?_ rfl
  simp only [Tryd.ntmps24, List.size_toArray, List.length_cons, List.length_nil, Nat.reduceAdd, Nat.reduceSub, Array.replicate_succ, Array.replicate_zero, List.push_toArray, List.append_toArray, List.nil_append, List.cons_append]
  gi_wp2
  refine ⟨trivial, (callsIn_wide.2 (small_yes _ _ HS.out)).mono ?_⟩
  rintro e wx ⟨rfl, rfl⟩
  rw [V_E]
  generalize hK : (1099511627776 : Int) = K at *
  clear hK
  gi_wp2
  refine ⟨trivial, (callsIn_wide.2 (valid_yes _ _ HS.out.1)).mono ?_⟩
  rintro e wx ⟨rfl, rfl⟩
  gi_wp2
  refine ⟨trivial, (callsIn_wide.2 (factors_any n _)).mono ?_⟩
  rintro e wx ⟨he, rfl⟩
  subst he
  have hb1 := Boxed.new w 47 (.slice none 0 0)
  have hb2 := Boxed.new (w.alloc (.cells #[.slice none 0 0] 47)) 31 (.int .u64 n)
  have hb1' := hb1.alloc (.cells #[.int .u64 n] 31)
  rw [World.size_alloc] at hb2
  have hst : FacL w w.heap.size (w.heap.size + 1) n [] ((w.alloc (.cells #[.slice none 0 0] 47)).alloc (.cells #[.int .u64 n] 31)) :=
    ⟨⟨⟨_, hb1', World.ownsRow_nil _ _ _ _, trivial⟩, hb2⟩, ((Below.refl _ _).alloc (Nat.le_refl _) _).alloc (by simp) _⟩
  have hsz : ((w.alloc (.cells #[.slice none 0 0] 47)).alloc (.cells #[.int .u64 n] 31)).heap.size = w.heap.size + 1 + 1 := by simp
  simp only [World.size_alloc] at hst ⊢
  clear hb1 hb1' hb2
  generalize World.alloc (World.alloc w _) _ = W0 at *
  gi_wp2
  have hcBe := hst.1.2.cell
  have hltBe := hst.1.2.lt
  refine wpIn_rangeFunc_ownF rfl (by omega) (gf := 52) (lb := #[.pointer (some ⟨w.heap.size + 1, 0, none⟩)]) rfl trivial (enters_of Tryd.func52 (by kernel_rfl) rfl)
    (factors_stops 8 (by omega) (w.heap.size + 1) n H0.out HN.out W0 hltBe hcBe) (fun h k v hv => k v (h v hv)) (fun W l o o' _ h hc _ v hv => cell_kept hv (grownBy_putObj' W l o') (fun r e => by cases e; exact ⟨o, h, hc⟩)) (Below.refl _ _) (fun _ => rfl)
    (FacL w w.heap.size (w.heap.size + 1) n)
    (fun _ _ _ => False) (facL_own (by omega)) (fun _ _ _ _ _ hs _ _ => hs) hst
    (fun x => { tmps := #[.string (E n), undef, .slice none 0 0, .int .i64 0, .int .u64 n, .bool true, .pointer (some ⟨w.heap.size, 0, none⟩), .int .u64 (x.1 : Int), .tuple #[.int .u64 n, .bool true], .string (E n), .tuple #[.int .u64 n, .bool true], .int .u64 n, .bool true, .bool false, .string (E n), .bool true, .bool false, .bool false, .string (E n), .bool false, .bool (decide (K ≤ (n : Int))), .bool true, .bool false, .bool false, .int .u64 n, .bool (decide (K ≤ (n : Int))), .bool (decide (K ≤ (n : Int))), .int .u64 n, .func (.func 52) #[] #[.pointer (some ⟨w.heap.size + 1, 0, none⟩)], .int .u64 (x.1 : Int), undef, undef, undef, undef, undef, undef], defers := [] }) ?assign ?body ?done ?stop
  case assign =>
    intro l x W K hK
    gi_wp2
    exact hK
  case body =>
    rintro l pre x W ⟨⟨⟨v, hv, hrow, _⟩, hbe⟩, hB⟩ hlen
    clear hst
    obtain ⟨x, hx⟩ := x
    have HX := Lib.hid hx
    dsimp only
    gi_wp2
    have hc := hv.cell
    refine wpIn_region_any (by kernel_rfl) ?_
    change wpAnyIn _ _ _ _ _ _ _ _ _ (World.drew _)
    refine wpAnyIn_ready (rs := [0, 1]) (by kernel_rfl) (by simp) (AllReadyIn.cons rfl (fun K hK => ?_) (AllReadyIn.cons rfl (fun K hK => ?_) AllReadyIn.nil))
    · go_simp
      refine hK _ _ ?_; clear hK K
      refine wpAnyIn_ready (rs := [1]) (by kernel_rfl) (by simp) (AllReadyIn.cons rfl (fun K hK => ?_) AllReadyIn.nil)
      go_simp
      refine hK _ _ ?_; clear hK K
      refine wpAnyIn_ready (rs := [2]) (by kernel_rfl) (by simp) (AllReadyIn.cons rfl (fun K hK => ?_) AllReadyIn.nil)
      go_simp
      refine ⟨trivial, (CallsIn.inRound l (callsIn_wide.2 (of_any x _ HX.out))).mono ?_⟩
      rintro e w2 ⟨rfl, b2⟩
      have hbd : Below W.heap.size W w2 := (Below.refl _ W).drew.trans b2
      have hrow2 := own_below hrow hbd
      have hv2 : Boxed w2 w.heap.size 47 v := (hbd.block _ hv.lt).trans hv
      have hbe2 : Boxed w2 (w.heap.size + 1) 31 (.int .u64 n) := (hbd.block _ hbe.lt).trans hbe
      have hB2 := bnext hB hbd
      have hc2 := hv2.cell
      have hc2b := (hv2.alloc (.cells #[.string (E x)] 22)).cell
      go_simp
      refine hK _ _ ?_; clear hK K
      refine wpAnyIn_ready (rs := [3]) (by kernel_rfl) (by simp) (AllReadyIn.cons rfl (fun K hK => ?_) AllReadyIn.nil)
      go_simp
      refine hK _ _ ?_; clear hK K
      refine wpAnyIn_ready (rs := [4]) (by kernel_rfl) (by simp) (AllReadyIn.cons rfl (fun K hK => ?_) AllReadyIn.nil)
      obtain ⟨i0, hi0, hz0, hz1, hz2⟩ := info_parts Tryd.finfo22
      refine step_append_in rfl _ _ 47 rfl w.heap.size 22 i0 (.string ⟨#[]⟩) 1 16 Tryd.fund47 hi0 hz0 hz1 hz2 rfl (by decide) v pre.length _ rfl (hrow2.alloc _) ⟨w2.heap.size, 0, none⟩ 1 1 [.string (E x)] rfl rfl (one_cells _ _ _) (by simp [Value.oneCell']) (by unfold maxLen; omega) (by omega) (by have := hB2.size; simp; omega) ?_
      intro v' w1 hown' hgrow
      obtain ⟨g', cap', rfl⟩ := ownsRow_succ hown'
      obtain ⟨hv1, hv3, hr3, hk3, hb3⟩ := hv2.appended (by decide) hrow2 hB2.size (Nat.le_refl _) hown' hgrow
      have hbe3 := (((hbe2.alloc _).kept hgrow (hbe2.not_row (by decide) hrow2)).other (B' := w.heap.size) (by omega) (.slice (some ⟨g', 0, none⟩) (pre.length + 1) cap'))
      have hc1 := hv1.cell
      have hf1 := hv1.frozen
      refine hK _ _ ?_; clear hK K
      refine wpAnyIn_ready (rs := [5]) (by kernel_rfl) (by simp) (AllReadyIn.cons rfl (fun K hK => ?_) AllReadyIn.nil)
      go_simp
      refine hK _ _ ?_; clear hK K
      refine wpAnyIn_done (by kernel_rfl) ?_ _
      exact fac_end hx hbe hbe3 hv3 hr3 hk3 hb3 hbd hB2
    · go_simp
      refine hK _ _ ?_; clear hK K
      refine wpAnyIn_ready (rs := [0, 2]) (by kernel_rfl) (by simp) (AllReadyIn.cons rfl (fun K hK => ?_) (AllReadyIn.cons rfl (fun K hK => ?_) AllReadyIn.nil))
      · go_simp
        refine hK _ _ ?_; clear hK K
        refine wpAnyIn_ready (rs := [2]) (by kernel_rfl) (by simp) (AllReadyIn.cons rfl (fun K hK => ?_) AllReadyIn.nil)
        go_simp
        refine ⟨trivial, (CallsIn.inRound l (callsIn_wide.2 (of_any x _ HX.out))).mono ?_⟩
        rintro e w2 ⟨rfl, b2⟩
        have hbd : Below W.heap.size W w2 := (Below.refl _ W).drew.trans b2
        have hrow2 := own_below hrow hbd
        have hv2 : Boxed w2 w.heap.size 47 v := (hbd.block _ hv.lt).trans hv
        have hbe2 : Boxed w2 (w.heap.size + 1) 31 (.int .u64 n) := (hbd.block _ hbe.lt).trans hbe
        have hB2 := bnext hB hbd
        have hc2 := hv2.cell
        have hc2b := (hv2.alloc (.cells #[.string (E x)] 22)).cell
        go_simp
        refine hK _ _ ?_; clear hK K
        refine wpAnyIn_ready (rs := [3]) (by kernel_rfl) (by simp) (AllReadyIn.cons rfl (fun K hK => ?_) AllReadyIn.nil)
        go_simp
        refine hK _ _ ?_; clear hK K
        refine wpAnyIn_ready (rs := [4]) (by kernel_rfl) (by simp) (AllReadyIn.cons rfl (fun K hK => ?_) AllReadyIn.nil)
        obtain ⟨i0, hi0, hz0, hz1, hz2⟩ := info_parts Tryd.finfo22
        refine step_append_in rfl _ _ 47 rfl w.heap.size 22 i0 (.string ⟨#[]⟩) 1 16 Tryd.fund47 hi0 hz0 hz1 hz2 rfl (by decide) v pre.length _ rfl (hrow2.alloc _) ⟨w2.heap.size, 0, none⟩ 1 1 [.string (E x)] rfl rfl (one_cells _ _ _) (by simp [Value.oneCell']) (by unfold maxLen; omega) (by omega) (by have := hB2.size; simp; omega) ?_
        intro v' w1 hown' hgrow
        obtain ⟨g', cap', rfl⟩ := ownsRow_succ hown'
        obtain ⟨hv1, hv3, hr3, hk3, hb3⟩ := hv2.appended (by decide) hrow2 hB2.size (Nat.le_refl _) hown' hgrow
        have hbe3 := (((hbe2.alloc _).kept hgrow (hbe2.not_row (by decide) hrow2)).other (B' := w.heap.size) (by omega) (.slice (some ⟨g', 0, none⟩) (pre.length + 1) cap'))
        have hc1 := hv1.cell
        have hf1 := hv1.frozen
        refine hK _ _ ?_; clear hK K
        refine wpAnyIn_ready (rs := [5]) (by kernel_rfl) (by simp) (AllReadyIn.cons rfl (fun K hK => ?_) AllReadyIn.nil)
        go_simp
        refine hK _ _ ?_; clear hK K
        refine wpAnyIn_done (by kernel_rfl) ?_ _
        exact fac_end hx hbe hbe3 hv3 hr3 hk3 hb3 hbd hB2
      · go_simp
        refine ⟨trivial, (CallsIn.inRound l (callsIn_wide.2 (of_any x _ HX.out))).mono ?_⟩
        rintro e w2 ⟨rfl, b2⟩
        have hbd : Below W.heap.size W w2 := (Below.refl _ W).drew.trans b2
        have hrow2 := own_below hrow hbd
        have hv2 : Boxed w2 w.heap.size 47 v := (hbd.block _ hv.lt).trans hv
        have hbe2 : Boxed w2 (w.heap.size + 1) 31 (.int .u64 n) := (hbd.block _ hbe.lt).trans hbe
        have hB2 := bnext hB hbd
        have hc2 := hv2.cell
        have hc2b := (hv2.alloc (.cells #[.string (E x)] 22)).cell
        go_simp
        refine hK _ _ ?_; clear hK K
        refine wpAnyIn_ready (rs := [0, 3]) (by kernel_rfl) (by simp) (AllReadyIn.cons rfl (fun K hK => ?_) (AllReadyIn.cons rfl (fun K hK => ?_) AllReadyIn.nil))
        · go_simp
          refine hK _ _ ?_; clear hK K
          refine wpAnyIn_ready (rs := [3]) (by kernel_rfl) (by simp) (AllReadyIn.cons rfl (fun K hK => ?_) AllReadyIn.nil)
          go_simp
          refine hK _ _ ?_; clear hK K
          refine wpAnyIn_ready (rs := [4]) (by kernel_rfl) (by simp) (AllReadyIn.cons rfl (fun K hK => ?_) AllReadyIn.nil)
          obtain ⟨i0, hi0, hz0, hz1, hz2⟩ := info_parts Tryd.finfo22
          refine step_append_in rfl _ _ 47 rfl w.heap.size 22 i0 (.string ⟨#[]⟩) 1 16 Tryd.fund47 hi0 hz0 hz1 hz2 rfl (by decide) v pre.length _ rfl (hrow2.alloc _) ⟨w2.heap.size, 0, none⟩ 1 1 [.string (E x)] rfl rfl (one_cells _ _ _) (by simp [Value.oneCell']) (by unfold maxLen; omega) (by omega) (by have := hB2.size; simp; omega) ?_
          intro v' w1 hown' hgrow
          obtain ⟨g', cap', rfl⟩ := ownsRow_succ hown'
          obtain ⟨hv1, hv3, hr3, hk3, hb3⟩ := hv2.appended (by decide) hrow2 hB2.size (Nat.le_refl _) hown' hgrow
          have hbe3 := (((hbe2.alloc _).kept hgrow (hbe2.not_row (by decide) hrow2)).other (B' := w.heap.size) (by omega) (.slice (some ⟨g', 0, none⟩) (pre.length + 1) cap'))
          have hc1 := hv1.cell
          have hf1 := hv1.frozen
          refine hK _ _ ?_; clear hK K
          refine wpAnyIn_ready (rs := [5]) (by kernel_rfl) (by simp) (AllReadyIn.cons rfl (fun K hK => ?_) AllReadyIn.nil)
          go_simp
          refine hK _ _ ?_; clear hK K
          refine wpAnyIn_done (by kernel_rfl) ?_ _
          exact fac_end hx hbe hbe3 hv3 hr3 hk3 hb3 hbd hB2
        · go_simp
          refine hK _ _ ?_; clear hK K
          refine wpAnyIn_ready (rs := [0]) (by kernel_rfl) (by simp) (AllReadyIn.cons rfl (fun K hK => ?_) AllReadyIn.nil)
          go_simp
          refine hK _ _ ?_; clear hK K
          refine wpAnyIn_ready (rs := [4]) (by kernel_rfl) (by simp) (AllReadyIn.cons rfl (fun K hK => ?_) AllReadyIn.nil)
          obtain ⟨i0, hi0, hz0, hz1, hz2⟩ := info_parts Tryd.finfo22
          refine step_append_in rfl _ _ 47 rfl w.heap.size 22 i0 (.string ⟨#[]⟩) 1 16 Tryd.fund47 hi0 hz0 hz1 hz2 rfl (by decide) v pre.length _ rfl (hrow2.alloc _) ⟨w2.heap.size, 0, none⟩ 1 1 [.string (E x)] rfl rfl (one_cells _ _ _) (by simp [Value.oneCell']) (by unfold maxLen; omega) (by omega) (by have := hB2.size; simp; omega) ?_
          intro v' w1 hown' hgrow
          obtain ⟨g', cap', rfl⟩ := ownsRow_succ hown'
          obtain ⟨hv1, hv3, hr3, hk3, hb3⟩ := hv2.appended (by decide) hrow2 hB2.size (Nat.le_refl _) hown' hgrow
          have hbe3 := (((hbe2.alloc _).kept hgrow (hbe2.not_row (by decide) hrow2)).other (B' := w.heap.size) (by omega) (.slice (some ⟨g', 0, none⟩) (pre.length + 1) cap'))
          have hc1 := hv1.cell
          have hf1 := hv1.frozen
          refine hK _ _ ?_; clear hK K
          refine wpAnyIn_ready (rs := [5]) (by kernel_rfl) (by simp) (AllReadyIn.cons rfl (fun K hK => ?_) AllReadyIn.nil)
          go_simp
          refine hK _ _ ?_; clear hK K
          refine wpAnyIn_done (by kernel_rfl) ?_ _
          exact fac_end hx hbe hbe3 hv3 hr3 hk3 hb3 hbd hB2
  case done =>
    rintro D ys W hD hS ⟨⟨⟨v, hv, hrow, _⟩, hbe⟩, hB⟩ hK
    have hlen : ys.length = (QR.facs n).length := by rw [← hS, List.length_map]
    rw [hS, hlen] at hrow
    have hc := hv.cell
    have HR := Lib.hid (own_strs (ownsRow_putObj hrow (.deferred none) hK rfl))
    have HBB := Lib.hid (hB.trans (belowK_b (w := W0) (by omega) W D _ (.deferred none) hD hK rfl rfl))
    clear hS hlen hrow hst
    gi_wp2
    refine ⟨by simp, .inl ⟨_, _, rfl, run_takeDeferred hK, ?_⟩⟩
    exact ⟨_, results_tmp2 rfl _ _ _, _, rfl, HR.out, HBB.out⟩
  case stop =>
    rintro D c pre W _ _ h _
    exact h.elim
end Go.Proofs.YtfokiokcofabcaaDoor
