/-
  The reference of package coins, the sixth part: an append of a whole list to nil; Values, Seed, Left.
-/
import Derived.Test.YtehbbghobagkjaaDoorCD
import Derived.Test.YtehbbghobagkjaaDoorCR
import Derived.Deep.AppendLies
import Derived.OwnWalk
namespace Go.Proofs.YtehbbghobagkjaaDoor
open Go.RowKit Go.Deep
set_option linter.unusedVariables false

theorem run_append_empty {P : Program} {w : World} (t ty e : TypeId) (i : TypeInfo) (ht : P.underlying t = some (.slice e)) (hi : P.info? e = some i) (p : Option Addr) (c : Nat) :
    (Builtin.append_ #[t, t] ty #[.slice none 0 0, .slice p 0 c]).run P w = .ok (.slice none 0 0) w := by
  cases p with
  | none => simp [Builtin.append_, run_underlying ht, sizeOf, typeInfo, hi, Builtin.lenOf, Builtin.firstCells]
  | some a => simp [Builtin.append_, run_underlying ht, sizeOf, typeInfo, hi, Builtin.lenOf, Builtin.firstCells, loadCells, loadCellsFrom]
theorem below_grown {w w' : World} (h : w.grownBy w' none) : Below w.heap.size w w' := (Below.refl _ w).grown h (Nat.le_refl _) (fun k hk => by cases hk)
/-- A list of the call's own: nil, or in a new block. -/
def NewV (B : Nat) (v : Value) : Prop := v = .slice none 0 0 ∨ ∃ g k c, v = .slice (some ⟨g, 0, none⟩) k c ∧ B ≤ g
theorem sv_of_owns {w : World} {B g k cap : Nat} {f : Nat → ByteArray} (h : w.ownsRow B 33 1 (.slice (some ⟨g, 0, none⟩) k cap) k (svC k f)) : SV w (.slice (some ⟨g, 0, none⟩) k cap) k f := by
  refine ⟨_, _, rfl, fun j hj => ⟨_, rfl, (h.lt g rfl).2, ?_⟩⟩
  exact h.cells (g := g) rfl j _ (by simp [svC, hj])
theorem wpList_append_sv {ops : Array Oper} {rest : List Oper} {o : Oper} {a : Act} {Q : Exit → Act → World → Prop} {w : World} (hgd : o.guard = none) (s x : Operand)
    (ho : o.op = .call { callee := .builtin .append, args := #[s, x], argTypes := #[22, 22] })
    (hs : a.eval s = .slice none 0 0) (v : Value) (k : Nat) (f : Nat → ByteArray) (hx : a.eval x = v) (hv : SV w v k f) (hk : k ≤ 1099511627776)
    (h : ∀ q c w', SV w' (.slice q k c) k f → Below w.heap.size w w' → NewV w.heap.size (.slice q k c) → wpList Tryd.prog ops Q rest (a.put o.dst (.slice q k c)) w') : wpList Tryd.prog ops Q (o :: rest) a w := by
  obtain ⟨i0, hi, hz0, hz1, hz2⟩ := info_parts Tryd.hinfS
  obtain ⟨p, cap, rfl, hc⟩ := hv
  by_cases h0 : k = 0
  · subst h0
    refine wpList_plain hgd fun K hK => ?_
    have hrun := run_append_empty (P := Tryd.prog) (w := w) 22 o.type 33 i0 Tryd.hundS hi p cap
    unfold Oper.wp
    simp [execOp, ho, resolve, invoke, builtin, hs, hx, hrun, Result.andThen]
    exact hK _ _ (h _ _ _ (SV.nil w f) (Below.refl _ _) (.inl rfl))
  · obtain ⟨ad, rfl, -, -⟩ := hc 0 (by omega)
    refine wpList_append_lies w hgd s x 22 ho w.heap.size 33 i0 _ 1 16 Tryd.hundS hi hz0 hz1 hz2 rfl (by decide) _ 0 [] hs (World.ownsRow_nil _ _ _ _) ad k cap (svC k f) hx (by rw [svC_length]; omega)
      (fun j u hj => ?_) (svC_one k f) (by omega) (by unfold maxLen; omega) (by omega) (Nat.le_refl _) w.heap.size rfl ?_
    · obtain ⟨hlt, rfl⟩ := svC_get hj
      obtain ⟨a2, e2, hb, hcell⟩ := hc j hlt
      obtain rfl : ad = a2 := Option.some.inj e2
      exact hcell
    · intro g c w' hown hgr hg hlt
      rw [Nat.zero_add, List.nil_append] at hown
      rw [Nat.zero_add]
      refine h _ _ _ (sv_of_owns hown) (below_grown hgr) (.inr ⟨g, k, c, rfl, ?_⟩)
      rcases hg with q | q
      · cases q
      · omega
theorem NewV.ne {B b : Nat} {v : Value} (h : NewV B v) (hb : b < B) : v = .slice none 0 0 ∨ ∃ g k c, v = .slice (some ⟨g, 0, none⟩) k c ∧ b ≠ g := by
  rcases h with h | ⟨g, k, c, h, hg⟩
  · exact .inl h
  · exact .inr ⟨g, k, c, h, by omega⟩
theorem SV.far {w : World} {v : Value} {k b : Nat} {f : Nat → ByteArray} (h : SV w v k f) (hv : v = .slice none 0 0 ∨ ∃ g k c, v = .slice (some ⟨g, 0, none⟩) k c ∧ b ≠ g) {p : Addr} (hp : p.block = b) (x : Value) : SV (w.setCell p x) v k f := by
  rcases hv with rfl | ⟨g, k', c, rfl, hb⟩
  · obtain ⟨p', cap, e, hc⟩ := h
    cases e
    exact SV.nil _ _
  · obtain ⟨q, c', e, hc⟩ := h
    obtain ⟨rfl, rfl, rfl⟩ : (some (⟨g, 0, none⟩ : Addr)) = q ∧ k' = k ∧ c = c' := by cases e; exact ⟨rfl, rfl, rfl⟩
    refine SV.set ⟨_, _, rfl, hc⟩ (by rw [hp]; exact hb) x
/-- A tape that the reference answers. -/
def RTapeP (k : Nat) (f : Nat → ByteArray) (S : ByteArray) (t : Int) (w : World) (e : Ending) (w' : World) : Prop :=
  ∃ (q : Option Addr) (c : Nat), e = .returned (.agg #[.slice q k c, .string S, .int .i64 t]) ∧ SV w' (.slice q k c) k f ∧ NewV w.heap.size (.slice q k c) ∧ Below w.heap.size w w'
theorem rv_end {w w2 : World} {k c b B2 : Nat} {q : Option Addr} {f : Nat → ByteArray} {S : ByteArray} {t : Int} (hb : b = w.heap.size) (hB : B2 = w.heap.size + 1) (b2 : Below w.heap.size w w2) (hV : SV w2 (.slice q k c) k f) (hn : NewV (w.heap.size + 1 + 1) (.slice q k c))
    {c0 c1 c2 d0 : Value} (hT : Three w2 B2 d0 (.string S) (.int .i64 t)) (hR : Three w2 b c0 c1 c2) :
    Hid (SV ((((w2.setCell ⟨B2, 0, none⟩ (.slice q k c)).setCell ⟨b, 0, none⟩ (.slice q k c)).setCell ⟨b, 1, none⟩ (.string S)).setCell ⟨b, 2, none⟩ (.int .i64 t)) (.slice q k c) k f ∧
      Below w.heap.size w ((((w2.setCell ⟨B2, 0, none⟩ (.slice q k c)).setCell ⟨b, 0, none⟩ (.slice q k c)).setCell ⟨b, 1, none⟩ (.string S)).setCell ⟨b, 2, none⟩ (.int .i64 t)) ∧
      Three ((((w2.setCell ⟨B2, 0, none⟩ (.slice q k c)).setCell ⟨b, 0, none⟩ (.slice q k c)).setCell ⟨b, 1, none⟩ (.string S)).setCell ⟨b, 2, none⟩ (.int .i64 t)) b (.slice q k c) (.string S) (.int .i64 t)) := by
  have n1 := hn.ne (b := B2) (by omega)
  have n2 := hn.ne (b := b) (by omega)
  refine ⟨(((hV.far n1 rfl _).far n2 rfl _).far n2 rfl _).far n2 rfl _, Below.set3 (b2.setCell (p := ⟨B2, 0, none⟩) (by show w.heap.size ≤ B2; omega) _) (by omega) _ _ _, ?_⟩
  refine Three.set3 (c0 := c0) (c1 := c1) (c2 := c2) ?_ _ _ _
  obtain ⟨q0, q1, q2, q3, q4, q5, q6⟩ := hR
  have hne : b ≠ B2 := by omega
  refine ⟨?_, ?_, ?_, ?_, ?_, ?_, ?_⟩
  · rw [World.cell?_setCell_far _ _ _ _ (Ne.symm hne)]; exact q0
  · rw [World.cell?_setCell_far _ _ _ _ (Ne.symm hne)]; exact q1
  · rw [World.cell?_setCell_far _ _ _ _ (Ne.symm hne)]; exact q2
  · simp [go_sem, q3]
  · simp [go_sem, q4]
  · simp [go_sem, q5]
  · rw [World.size_setCell]; exact q6
set_option maxHeartbeats 1000000 in
set_option maxRecDepth 100000 in
theorem rvalues_any (v : Value) (k : Nat) (f : Nat → ByteArray) (w : World) (hv : SV w v k f) (hk : k ≤ 1099511627776) :
    Calls Tryd.prog 12 #[v] w fun e w' => RTapeP k f ⟨#[]⟩ 0 w e w' := by
  have b2 := bel_two w (.cells #[.slice none 0 0, .string ⟨#[]⟩, .int .i64 0] 24) (.cells #[.slice none 0 0, .string ⟨#[]⟩, .int .i64 0] 24)
  have HV := Lib.hid (hv.below b2)
  have HB := Lib.hid b2
  have HT := Lib.hid (box2_second w (.slice none 0 0) (.string ⟨#[]⟩) (.int .i64 0) 24 (.cells #[.slice none 0 0, .string ⟨#[]⟩, .int .i64 0] 24))
  have HR := Lib.hid (box2_first w (.slice none 0 0) (.string ⟨#[]⟩) (.int .i64 0) 24 (.cells #[.slice none 0 0, .string ⟨#[]⟩, .int .i64 0] 24))
  obtain ⟨p, cap, rfl, -⟩ := hv
  clear b2
  go_enter Tryd.func12, Tryd.ntmps12
  go_wp2_with (at_builtin; refine wpList_append_sv rfl _ _ rfl rfl _ k f rfl HV.out hk ?_; intro q c2 w2 hV2 b2 hn2; have HE := rv_end (t := 0) (S := ⟨#[]⟩) rfl rfl (bel_of HB.out b2) hV2 (by simpa only [World.size_alloc] using hn2) (HT.out.below b2 rfl) (HR.out.below b2 rfl); have HN := Lib.hid hn2; obtain ⟨s0, s1, s2, s3, s4, s5, s6⟩ := HT.out.below b2 rfl; obtain ⟨r0, r1, r2, r3, r4, r5, r6⟩ := HR.out.below b2 rfl; clear hV2 b2 hn2)
  have he := HE.out
  clear HE
  generalize World.setCell _ _ _ = W3 at he ⊢
  obtain ⟨h0, h1, m0, m1, m2, m3, m4, m5, m6⟩ := he
  have hn : NewV w.heap.size (.slice q k c2) := by
    rcases HN.out with h | ⟨g, k', c, h, hg⟩
    · exact .inl h
    · exact .inr ⟨g, k', c, h, by simp only [World.size_alloc] at hg; omega⟩
  exact bodyPost_ret (v := .agg #[.slice q k c2, .string ⟨#[]⟩, .int .i64 0]) (by simp [results, Tryd.results12, go_sem, m0, m1, m2]) rfl ⟨_, _, rfl, h0, hn, h1⟩
set_option maxHeartbeats 1000000 in
set_option maxRecDepth 100000 in
theorem rseed_any (S : ByteArray) (w : World) :
    Calls Tryd.prog 14 #[.string S] w fun e w' => e = .returned (.agg #[.slice none 0 0, .string S, .int .i64 0]) ∧ Below w.heap.size w w' := by
  go_enter Tryd.func14, Tryd.ntmps14
  go_wp2
  obtain ⟨r0, r1, r2, r3, r4, r5, r6⟩ := Three.new w (.slice none 0 0) (.string S) (.int .i64 0) 24 _ rfl
  refine bodyPost_ret (v := .agg #[.slice none 0 0, .string S, .int .i64 0]) (by simp [results, Tryd.results14, go_sem, r0, r1, r2]) rfl ⟨rfl, (Below.refl _ _).alloc (Nat.le_refl _) _⟩
set_option maxHeartbeats 1000000 in
set_option maxRecDepth 100000 in
theorem rleft_no (v : Value) (k : Nat) (f : Nat → ByteArray) (S : ByteArray) (t : Int) (w : World) (hv : SV w v k f) (hk : k ≤ 9223372036854775807) (h : ¬ WF k f t) :
    Calls Tryd.prog 16 #[.agg #[v, .string S, .int .i64 t]] w fun e w' => e = .returned (.int .i64 0) ∧ Below w.heap.size w w' := by
  have hv2 : SV (w.alloc (.cells #[v, .string S, .int .i64 t] 24)) v k f := hv.below ((Below.refl _ _).alloc (Nat.le_refl _) _)
  have HV := Lib.hid hv2; clear hv2
  obtain ⟨p, cap, rfl, -⟩ := hv
  have HW := Lib.hid h; clear h
  obtain ⟨q0, q1, q2, q3, q4, q5, q6⟩ := Three.new w (.slice p k cap) (.string S) (.int .i64 t) 24 _ rfl
  go_enter Tryd.func16, Tryd.ntmps16
  go_wp2_with fail
  refine (good_no _ k f S t _ HV.out hk HW.out).mono ?_; rintro e w1 ⟨rfl, b1⟩
  have B1 := Lib.hid (chk_box _ _ _ _ _ b1); clear b1
  go_wp2
  go_ret
  exact ⟨rfl, B1.out⟩
set_option maxHeartbeats 1000000 in
set_option maxRecDepth 100000 in
theorem rleft_yes (v : Value) (k : Nat) (f : Nat → ByteArray) (S : ByteArray) (t : Nat) (w : World) (hv : SV w v k f) (hk : k ≤ 9223372036854775807) (h : WF k f t) :
    Calls Tryd.prog 16 #[.agg #[v, .string S, .int .i64 t]] w fun e w' => e = .returned (.int .i64 ((k - t : Nat) : Int)) ∧ Below w.heap.size w w' := by
  have hv2 : SV (w.alloc (.cells #[v, .string S, .int .i64 t] 24)) v k f := hv.below ((Below.refl _ _).alloc (Nat.le_refl _) _)
  have HV := Lib.hid hv2; clear hv2
  obtain ⟨p, cap, rfl, -⟩ := hv
  have ht : (t : Int) ≤ 2147483647 := h.2.2
  have HW := Lib.hid h; clear h
  have HT := Lib.hid (Three.new w (.slice p k cap) (.string S) (.int .i64 t) 24 _ rfl)
  obtain ⟨q0, q1, q2, q3, q4, q5, q6⟩ := HT.out
  obtain ⟨d, hd⟩ : ∃ d, d = k - t := ⟨_, rfl⟩
  rw [← hd]
  by_cases hlt : t < k
  · have hs : IntKind.i64.wrap ((k : Int) - (t : Int)) = (d : Int) := by rw [IntWalk.i64_in _ (by omega)]; omega
    have hl : ¬ k ≤ t := by omega
    have hl2 : decide (k ≤ t) = false := decide_eq_false hl
    have hl3 : decide ((k : Int) ≤ (t : Int)) = false := decide_eq_false (by omega)
    clear hlt ht hd
    go_enter Tryd.func16, Tryd.ntmps16
    go_wp2_with fail
    refine (good_yes _ k f S t _ HV.out hk HW.out).mono ?_; rintro e w1 ⟨rfl, b1⟩
    obtain ⟨r0, r1, r2, r3, r4, r5, r6⟩ := HT.out.below b1 rfl
    have B1 := Lib.hid (chk_box _ _ _ _ _ b1); clear b1 HT HV
    go_wp2
    go_ret
    exact ⟨rfl, B1.out⟩
  · have hm0 : d = 0 := by omega
    subst hm0
    have hl : k ≤ t := by omega
    have hl2 : decide (k ≤ t) = true := decide_eq_true hl
    have hl3 : decide ((k : Int) ≤ (t : Int)) = true := decide_eq_true (by omega)
    clear ht hd
    go_enter Tryd.func16, Tryd.ntmps16
    go_wp2_with fail
    refine (good_yes _ k f S t _ HV.out hk HW.out).mono ?_; rintro e w1 ⟨rfl, b1⟩
    obtain ⟨r0, r1, r2, r3, r4, r5, r6⟩ := HT.out.below b1 rfl
    have B1 := Lib.hid (chk_box _ _ _ _ _ b1); clear b1 HT HV
    go_wp2
    go_ret
    exact ⟨rfl, B1.out⟩
end Go.Proofs.YtehbbghobagkjaaDoor
