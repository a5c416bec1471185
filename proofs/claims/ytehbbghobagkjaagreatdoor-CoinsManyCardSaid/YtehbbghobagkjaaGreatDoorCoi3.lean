/-
  Contracts of package coins, the third part: candidate.
-/
import Derived.Test.YtehbbghobagkjaaGreatDoorCoi2
import Derived.Lib.AppendStr
namespace Go.Proofs.YtehbbghobagkjaaGreatDoor
open Go.RowKit Go.Deep Go.Shelf
set_option linter.unusedVariables false
attribute [local go_sem] Oper.semAt_some

theorem in_append_string {F : Fence} {n : Nat} {P : Program} {ops : Array Oper} {rest : List Oper} {o : Oper} {a : Act} {w : World} {Q : Exit → Act → World → Prop} (hgd : o.guard = none) (sl x : Operand) (t u : TypeId)
    (ho : o.op = .call { callee := .builtin .append, args := #[sl, x], argTypes := #[t, u] })
    (base : Nat) (e : TypeId) (i : TypeInfo) (ht : P.underlying t = some (.slice e)) (hu : P.underlying u = some .string) (hi : P.info? e = some i) (hz : i.zero = some (.int .u8 0))
    (hsize : i.size = 1) (hby : i.bytes = 1)
    (v : Value) (k : Nat) (xs : List Value) (hs : a.eval sl = v) (hown : w.ownsRow base e 1 v k xs) (s : ByteArray) (hx : a.eval x = .string s)
    (h63 : k + s.size ≤ maxLen) (hbytes : k + s.size ≤ 140737488355328) (hbase : base ≤ w.heap.size)
    (h : ∀ v' w', w'.ownsRow base e 1 v' (k + s.size) (xs ++ Lib.strCells s) → w.grownBy w' v.ownBlock → wpListIn F n P ops Q rest (a.put o.dst v') w') : wpListIn F n P ops Q (o :: rest) a w := by
  refine wpListIn_plain hgd fun K hK => ?_
  obtain ⟨v', w', hr, h2, h3, h4⟩ := Lib.run_append_own_string (P := P) (w := w) base t u o.type e i ht hu hi hz hsize hby v k xs hown s h63 hbytes hbase
  unfold Oper.wpIn
  refine ⟨?_, ?_⟩
  · simp [Oper.about, ho, resolve, Target.leads, Sem.run_pure]
  · rw [Oper.semAt_plain F _ _ (by rw [ho]; intro c hc'; cases hc')]
    simp [execOp, ho, resolve, invoke, builtin, hs, hx, hr, Result.andThen]
    exact hK _ _ (h v' w' h2 h3)
theorem strCells_bvals (s : ByteArray) : Lib.strCells s = bvals s.data.toList := rfl
theorem canI_own {w : World} {B9 B10 Bs Bt Ba : Nat} {S : ByteArray} {t a size m : Nat} (hm : w.heap.size ≤ m) : OwnFrom m (CanI w B9 B10 Bs Bt Ba S t a size) := by
  refine OwnFrom.and (OwnFrom.and (Own.from (fun s X Y row hs hg hr => ⟨?_, ?_, ?_, ?_, ?_⟩) _) (ownFrom_below (Nat.le_refl _) hm)) (fun _ _ _ _ hs _ _ => hs)
  · exact holdsRow_own w.heap.size B10 69 5 1 (fun pre : List Blk => 32 * pre.length) (fun pre => bvals (cat pre)) (fun _ _ => True) s X Y row hs.1 hg hr
  · exact boxed_own B9 3 (fun _ : List Blk => Value.int .i64 size) s X Y row hs.2.1 hg hr
  · exact boxed_own Bs 9 (fun _ : List Blk => Value.string S) s X Y row hs.2.2.1 hg hr
  · exact boxed_own Bt 3 (fun _ : List Blk => Value.int .i64 t) s X Y row hs.2.2.2.1 hg hr
  · exact boxed_own Ba 3 (fun _ : List Blk => Value.int .i64 a) s X Y row hs.2.2.2.2 hg hr
theorem and8_0 : ∀ c : Nat, c < 256 → bits .and .u8 (c : Int) 255 = ((c % 256 : Nat) : Int) := by decide +kernel
theorem and8_1 : ∀ c : Nat, c < 256 → bits .and .u8 (c : Int) 127 = ((c % 128 : Nat) : Int) := by decide +kernel
theorem and8_2 : ∀ c : Nat, c < 256 → bits .and .u8 (c : Int) 63 = ((c % 64 : Nat) : Int) := by decide +kernel
theorem and8_3 : ∀ c : Nat, c < 256 → bits .and .u8 (c : Int) 31 = ((c % 32 : Nat) : Int) := by decide +kernel
theorem and8_4 : ∀ c : Nat, c < 256 → bits .and .u8 (c : Int) 15 = ((c % 16 : Nat) : Int) := by decide +kernel
theorem and8_5 : ∀ c : Nat, c < 256 → bits .and .u8 (c : Int) 7 = ((c % 8 : Nat) : Int) := by decide +kernel
theorem and8_6 : ∀ c : Nat, c < 256 → bits .and .u8 (c : Int) 3 = ((c % 4 : Nat) : Int) := by decide +kernel
theorem and8_7 : ∀ c : Nat, c < 256 → bits .and .u8 (c : Int) 1 = ((c % 2 : Nat) : Int) := by decide +kernel
/-- The bytes of the attempt, the first one masked, as a string. -/
theorem conv_masked (W : World) (g size cap r h : Nat) (L : List UInt8) (hs : 1 ≤ size) (hL : size ≤ L.length) (hc : ∀ j (hj : j < L.length), W.cell? ⟨g, j, none⟩ = some (.int .u8 ((L[j]'hj).toNat : Int)))
    (hr : r = (L[0]'(by omega)).toNat % 2 ^ (8 - h)) (hr2 : r < 256) :
    (convert 69 9 (.slice (some ⟨g, 0, none⟩) size cap)).run Tryz.prog (W.setCell ⟨g, 0, none⟩ (.int .u8 (r : Int))) = .ok (.string ⟨(maskF h (L.take size)).toArray⟩) (W.setCell ⟨g, 0, none⟩ (.int .u8 (r : Int))) := by
  obtain ⟨l, hl⟩ : ∃ l, l = maskF h (L.take size) := ⟨_, rfl⟩
  have hlen : l.length = size := by rw [hl, maskF_len, List.length_take]; omega
  cases L with
  | nil => simp at hL; omega
  | cons c L' =>
    cases size with
    | zero => omega
    | succ n =>
      have hle : l = maskB c h :: L'.take n := by rw [hl]; rfl
      have this := run_convert_bytes_arg (P := Tryz.prog) (W.setCell ⟨g, 0, none⟩ (.int .u8 (r : Int))) 69 5 Tryz.hund69 Tryz.hund5 g 0 (n + 1) cap (l.map fun c => (c.toNat : Int)) (by simp [hlen]) (fun i hi => by
        rw [Nat.zero_add]
        cases i with
        | zero =>
          rw [World.cell?_setCell_same' _ _ _ (by rw [hc 0 (by simp)]; rfl), hle]
          simp only [List.map_cons, List.getD_cons_zero]
          rw [hr]
          show some (Value.int .u8 ((c.toNat % 2 ^ (8 - h) : Nat) : Int)) = some (Value.int .u8 ((UInt8.ofNat (c.toNat % 2 ^ (8 - h))).toNat : Int))
          have e1 : c.toNat % 2 ^ (8 - h) < 256 := by rw [hr] at hr2; exact hr2
          have e2 : (UInt8.ofNat (c.toNat % 2 ^ (8 - h))).toNat = c.toNat % 2 ^ (8 - h) := by rw [UInt8.toNat_ofNat']; exact Nat.mod_eq_of_lt (show _ < 2 ^ 8 from e1)
          rw [e2]
        | succ i =>
          have hi2 : i + 1 < (c :: L').length := by simp at hL ⊢; omega
          rw [World.cell?_setCell_other _ _ _ _ (by intro e; have := (Addr.mk.inj e).2.1; omega), hc (i + 1) hi2, hle]
          simp only [List.map_cons, List.getD_cons_succ, List.getElem_cons_succ]
          have hi3 : i < L'.length := by simp at hi2; omega
          rw [List.getD_eq_getElem?_getD, List.getElem?_map, List.getElem?_take, if_pos (by omega), List.getElem?_eq_getElem hi3]
          rfl) 9 Tryz.hund9
      rw [this, hstr_bytes, hl]
theorem trim_strip (l : List UInt8) : Lib.trimLeftB l 0 = strip l := by
  induction l with
  | nil => rfl
  | cons c l ih =>
    unfold Lib.trimLeftB strip
    by_cases h : c = 0
    · subst h
      rw [if_pos rfl, ← ih]; rfl
    · rw [if_neg h, List.dropWhile_cons_of_neg (by simpa using h)]
theorem trim_masked (l : List UInt8) : (⟨(Lib.trimLeftB l 0).toArray⟩ : ByteArray) = E (bval l) := by
  rw [trim_strip, strip_eq_enc]; rfl
/-- 'stream = append(stream, block...)', the stream in its box. -/
theorem box_app {W w1 : World} {n₀ B : Nat} {t e : TypeId} {v v' : Value} {k m : Nat} {xs ys : List Value} (hv : Boxed W B t v) (hte : t ≠ e) (hrow : W.ownsRow n₀ e 1 v k xs) (hn₀ : n₀ ≤ W.heap.size) (hB : n₀ ≤ B)
    (hown' : w1.ownsRow n₀ e 1 v' m ys) (hgrow : W.grownBy w1 v.ownBlock) :
    Boxed w1 B t v ∧ Boxed (w1.setCell ⟨B, 0, none⟩ v') B t v' ∧ (w1.setCell ⟨B, 0, none⟩ v').ownsRow n₀ e 1 v' m ys ∧ KeepsOthers W (w1.setCell ⟨B, 0, none⟩ v') ∧ Below n₀ W (w1.setCell ⟨B, 0, none⟩ v') := by
  have hv1 : Boxed w1 B t v := hv.kept hgrow (hv.not_row hte hrow)
  refine ⟨hv1, hv1.set v', hown'.kept (grownBy_setCell' w1 B v') (.inr (hv1.not_row hte hown').symm), ?_, ?_⟩
  · refine (KeepsOthers.of_grownBy hgrow fun j o ej hj => ?_).trans (KeepsOthers.setCell _ _ _)
    rcases hrow.2 with ⟨rfl, _⟩ | ⟨g, cap, cur, rfl, _, hgb, _⟩
    · simp [Value.ownBlock] at ej
    · obtain rfl : g = j := by simpa [Value.ownBlock] using ej
      rw [hgb] at hj; cases hj; rfl
  · exact ((Below.refl n₀ W).grown hgrow hn₀ fun j ej => hown_ge hrow j ej).setCell (p := ⟨B, 0, none⟩) hB v'
/-- A box of another type lies as it lay. -/
theorem box_keep {W w1 : World} {n₀ B B' : Nat} {t e : TypeId} {u v v' : Value} {k : Nat} {xs : List Value} (hu : Boxed W B' t u) (hte : t ≠ e) (hrow : W.ownsRow n₀ e 1 v k xs) (hgrow : W.grownBy w1 v.ownBlock) (hne : B' ≠ B) :
    Boxed (w1.setCell ⟨B, 0, none⟩ v') B' t u := (hu.kept hgrow (hu.not_row hte hrow)).other hne v'
/-- Where the loop is left. -/
def CanX (w : World) (B9 B10 Bs Bt Ba : Nat) (S : ByteArray) (t a size : Nat) (c : Code) (pre : List Blk) (W : World) : Prop :=
  (((∃ v, Boxed W B10 69 v ∧ W.ownsRow w.heap.size 5 1 v (32 * pre.length) (bvals (cat pre)) ∧ True) ∧ Boxed W B9 3 (.int .i64 size)) ∧ Below w.heap.size w W) ∧ (size ≤ 32 * pre.length ∧ 32 * pre.length < size + 32 ∧ c = .exit 0)

theorem canX_own {w : World} {B9 B10 Bs Bt Ba : Nat} {S : ByteArray} {t a size m : Nat} (hm : w.heap.size ≤ m) (c : Code) : OwnFrom m (CanX w B9 B10 Bs Bt Ba S t a size c) := by
  refine OwnFrom.and (OwnFrom.and (Own.from (fun s X Y row hs hg hr => ⟨?_, ?_⟩) _) (ownFrom_below (Nat.le_refl _) hm)) (fun _ _ _ _ hs _ _ => hs)
  · exact holdsRow_own w.heap.size B10 69 5 1 (fun pre : List Blk => 32 * pre.length) (fun pre => bvals (cat pre)) (fun _ _ => True) s X Y row hs.1 hg hr
  · exact boxed_own B9 3 (fun _ : List Blk => Value.int .i64 size) s X Y row hs.2 hg hr
theorem can_start (w : World) (S : ByteArray) (t a size : Nat) :
    CanI w w.heap.size (w.heap.size + 1) (w.heap.size + 1 + 1) (w.heap.size + 1 + 1 + 1) (w.heap.size + 1 + 1 + 1 + 1) S t a size []
      (((((w.alloc (.cells #[.int .i64 size] 3)).alloc (.cells #[.slice none 0 0] 69)).alloc (.cells #[.string S] 9)).alloc (.cells #[.int .i64 t] 3)).alloc (.cells #[.int .i64 a] 3)) := by
  have e0 := Boxed.new w 3 (.int .i64 size)
  have e1 := Boxed.new (w.alloc (.cells #[.int .i64 size] 3)) 69 (.slice none 0 0)
  have e2 := Boxed.new ((w.alloc (.cells #[.int .i64 size] 3)).alloc (.cells #[.slice none 0 0] 69)) 9 (.string S)
  have e3 := Boxed.new (((w.alloc (.cells #[.int .i64 size] 3)).alloc (.cells #[.slice none 0 0] 69)).alloc (.cells #[.string S] 9)) 3 (.int .i64 t)
  have e4 := Boxed.new ((((w.alloc (.cells #[.int .i64 size] 3)).alloc (.cells #[.slice none 0 0] 69)).alloc (.cells #[.string S] 9)).alloc (.cells #[.int .i64 t] 3)) 3 (.int .i64 a)
  simp only [World.size_alloc] at e1 e2 e3 e4
  refine ⟨⟨⟨⟨_, ((e1.alloc _).alloc _).alloc _, World.ownsRow_nil _ _ _ _, trivial⟩, (((e0.alloc _).alloc _).alloc _).alloc _, (e2.alloc _).alloc _, e3.alloc _, e4⟩, ?_⟩, .inl rfl⟩
  exact (((((Below.refl _ w).alloc (Nat.le_refl _) _).alloc (by simp) _).alloc (by simp; omega) _).alloc (by simp; omega) _).alloc (by simp; omega) _
set_option maxRecDepth 100000 in
set_option maxHeartbeats 4000000 in
theorem candidate_any (S : ByteArray) (t a bits : Nat) (w : World) (hS : S.size ≤ 1099511627776) (ht : t ≤ 4294967295) (ha : a ≤ 4294967295) (hb0 : 0 < bits) (hb : bits ≤ 1024) (htab : TabW w) :
    Calls Tryz.prog 62 #[.string S, .int .i64 t, .int .i64 a, .int .i64 bits] w fun e w' => e = .returned (.string (E (candN S.data.toList t a bits))) ∧ Below w.heap.size w w' := by
  refine (callsIn_wide (n := 9)).1 ?_
  have HT := Lib.hid htab; clear htab
  have HS := Lib.hid hS; clear hS
  have Ht := Lib.hid ht; clear ht
  have Ha := Lib.hid ha; clear ha
  obtain ⟨size, hsize⟩ : ∃ size, size = csize bits := ⟨_, rfl⟩
  have hs8 : ((bits : Int) + 7) / 8 = (size : Int) := by rw [hsize]; unfold csize; omega
  have hs1 : 1 ≤ size ∧ size ≤ 128 := by rw [hsize]; unfold csize; omega
  have HZ := Lib.hid hsize; clear hsize
  refine callsIn_of_wp_marks Tryz.func62 rfl trivial ?_ rfl
  simp only [Tryz.ntmps62, List.size_toArray, List.length_cons, List.length_nil, Nat.reduceAdd, Nat.reduceSub, Array.replicate_succ, Array.replicate_zero, List.push_toArray, List.append_toArray, List.nil_append, List.cons_append]
  gi_wp2
  refine ⟨trivial, (callsIn_wide.2 (blocks_any S t a _)).mono ?_⟩
  rintro e wx ⟨he, rfl⟩
  subst he
  have hst := can_start w S t a size
  simp only [World.size_alloc] at hst ⊢
  have hsz0 : (((((w.alloc (.cells #[.int .i64 size] 3)).alloc (.cells #[.slice none 0 0] 69)).alloc (.cells #[.string S] 9)).alloc (.cells #[.int .i64 t] 3)).alloc (.cells #[.int .i64 a] 3)).heap.size = w.heap.size + 5 := by simp
  generalize World.alloc (World.alloc (World.alloc (World.alloc (World.alloc w _) _) _) _) _ = W0 at *
  gi_wp2
  refine wpIn_range_endless rfl (by omega) (gf := 76) (lb := #[.pointer (some ⟨w.heap.size + 1 + 1, 0, none⟩), .pointer (some ⟨w.heap.size + 1 + 1 + 1, 0, none⟩), .pointer (some ⟨w.heap.size + 1 + 1 + 1 + 1, 0, none⟩)]) rfl trivial (enters_of Tryz.func76 (by kernel_rfl) rfl)
    (encs := fun x : Blk => #[Value.string x.1]) (Kp := fun _ _ => True) (Sp := fun pre => ∃ k, pre = blkK S.data.toList t a k)
    (CanI w w.heap.size (w.heap.size + 1) (w.heap.size + 1 + 1) (w.heap.size + 1 + 1 + 1) (w.heap.size + 1 + 1 + 1 + 1) S t a size)
    (CanX w w.heap.size (w.heap.size + 1) (w.heap.size + 1 + 1) (w.heap.size + 1 + 1 + 1) (w.heap.size + 1 + 1 + 1 + 1) S t a size)
    (fun l J Jx W hW hJ hJx hJI hY hJ0 => blocks1_in 8 (by omega) l w _ _ _ _ _ S t a size HS.out Ht.out Ha.out hs1.2 HT.out J Jx W hJ hJI hY hJ0)
    (fun _ _ => trivial) (fun _ _ _ _ _ _ _ _ => trivial) (fun _ => rfl) (canI_own (by omega)) (fun c => canX_own (by omega) c) hst
    (fun x => { tmps := #[.string S, .int .i64 t, .int .i64 a, .int .i64 bits, undef, undef, undef, undef, .string ⟨#[]⟩, .pointer (some ⟨w.heap.size, 0, none⟩), .pointer (some ⟨w.heap.size + 1, 0, none⟩), .string x.1, .int .i64 bits, .int .i64 ((bits : Int) + 7), .int .i64 size, .string S, .int .i64 t, .int .i64 a, .func (.func 76) #[] #[.pointer (some ⟨w.heap.size + 1 + 1, 0, none⟩), .pointer (some ⟨w.heap.size + 1 + 1 + 1, 0, none⟩), .pointer (some ⟨w.heap.size + 1 + 1 + 1 + 1, 0, none⟩)], .string x.1, undef, undef, undef, undef, undef, undef, undef, undef, undef, undef, undef, undef, undef, undef, undef, undef, undef, undef, undef, undef, undef, undef, undef], defers := [] }) ?assign ?body ?stop
  case assign =>
    intro l x W K hK
    gi_wp2
    exact hK
  case body =>
    rintro l pre x W ⟨⟨⟨⟨v, hv, hrow, _⟩, h9, hbs, hbt, hba⟩, hB⟩, hlen⟩
    obtain ⟨x, hx⟩ := x
    dsimp only
    have hc10 := hv.cell
    obtain ⟨i0, hi, hz0, hz1, hz2⟩ := info_parts Tryz.hinfo5
    have hc9 := h9.cell
    gi_wp2_with (gi_at_builtin; refine in_append_string rfl _ _ 69 9 rfl w.heap.size 5 i0 Tryz.hund69 Tryz.hund9 hi hz0 hz1 hz2 v (32 * pre.length) (bvals (cat pre)) rfl hrow x rfl (by unfold maxLen; omega) (by omega) (by have := hB.size; omega) ?_)
    intro v' w1 hown' hgrow
    obtain ⟨g', cap', rfl⟩ := ownsRow_succ hown'
    obtain ⟨hv1, hv2, hr2, hk2, hb2⟩ := box_app hv (by decide) hrow hB.size (by omega) hown' hgrow
    have k9 := box_keep (B := w.heap.size + 1) (v' := .slice (some ⟨g', 0, none⟩) (32 * pre.length + 32) cap') h9 (by decide) hrow hgrow (by omega)
    have ks := box_keep (B := w.heap.size + 1) (v' := .slice (some ⟨g', 0, none⟩) (32 * pre.length + 32) cap') hbs (by decide) hrow hgrow (by omega)
    have kt := box_keep (B := w.heap.size + 1) (v' := .slice (some ⟨g', 0, none⟩) (32 * pre.length + 32) cap') hbt (by decide) hrow hgrow (by omega)
    have ka := box_keep (B := w.heap.size + 1) (v' := .slice (some ⟨g', 0, none⟩) (32 * pre.length + 32) cap') hba (by decide) hrow hgrow (by omega)
    have hc1 := hv1.cell
    have hf1 := hv1.frozen
    have d10 := hv2.cell
    have d9 := k9.cell
    have hlen2 : (pre ++ [(⟨x, hx⟩ : Blk)]).length = pre.length + 1 := by simp
    have hcat : bvals (cat pre) ++ Lib.strCells x = bvals (cat (pre ++ [(⟨x, hx⟩ : Blk)])) := by rw [cat_snoc, bvals_append]; rfl
    rw [hcat] at hr2
    have HR := Lib.hid hr2; clear hr2
    have HCAT := Lib.hid hcat; clear hcat
    have HL := Lib.hid hlen2; clear hlen2
    have HPL := Lib.hid hlen; clear hlen
    by_cases hge : size ≤ 32 * pre.length + 32
    · have hgi : (size : Int) ≤ 32 * (pre.length : Int) + 32 := by omega
      have hgd : decide ((size : Int) ≤ 32 * (pre.length : Int) + 32) = true := decide_eq_true hgi
      gi_wp2
      exact ⟨hk2, ⟨⟨⟨_, hv2, by rw [HL.out]; exact HR.out, trivial⟩, k9⟩, hB.trans hb2⟩, by rw [HL.out]; omega, by rw [HL.out]; have := HPL.out; have := hs1.1; omega, rfl⟩
    · have hgi : ¬ (size : Int) ≤ 32 * (pre.length : Int) + 32 := by omega
      have hgd : decide ((size : Int) ≤ 32 * (pre.length : Int) + 32) = false := decide_eq_false hgi
      gi_wp2
      refine ⟨hk2, trivial, ⟨⟨⟨_, hv2, by rw [HL.out]; exact HR.out, trivial⟩, k9, ks, kt, ka⟩, hB.trans hb2⟩, .inr (by rw [HL.out]; omega)⟩
  case stop =>
    rintro D c pre W hD ⟨k, rfl⟩ ⟨⟨⟨⟨v, hv, hrow, _⟩, h9⟩, hB⟩, hl1, hl2, rfl⟩ hK
    rw [blkK_len] at hrow hl1 hl2
    rw [cat_blkK] at hrow
    have hk : k = cblk bits := by unfold cblk; rw [← HZ.out]; omega
    clear hst
    obtain ⟨g, cap, rfl, hcap, hcap2, hgb⟩ : ∃ g cap, v = .slice (some ⟨g, 0, none⟩) (32 * k) cap ∧ 32 * k ≤ cap ∧ cap ≤ maxLen ∧ w.heap.size ≤ g := by
      rcases hrow.2 with ⟨_, h0⟩ | ⟨g, cap, _, rfl, hge, _, hc1, hc2, _⟩
      · omega
      · exact ⟨g, cap, rfl, hc1, hc2, hge⟩
    have hsl := strmL_len S.data.toList t a k
    obtain ⟨L, hL⟩ : ∃ L, L = strmL S.data.toList t a k := ⟨_, rfl⟩
    rw [← hL] at hrow hsl
    have hc : ∀ j (hj : j < L.length), W.cell? ⟨g, j, none⟩ = some (.int .u8 ((L[j]'hj).toNat : Int)) := fun j hj => by
      rw [hrow.cellAt j (by omega), bvals_get L j hj]
    have hf := hrow.frozenAt
    have hne : g ≠ w.heap.size + 1 := fun e => by
      rcases hrow.2 with ⟨h0, _⟩ | ⟨g', cap', cur, h0, _, hg, _⟩
      · cases h0
      · cases h0
        have := (show W.heap[w.heap.size + 1]? = _ from hv).symm.trans (e ▸ hg)
        simp at this
    have hne9 : g ≠ w.heap.size := fun e => by
      rcases hrow.2 with ⟨h0, _⟩ | ⟨g', cap', cur, h0, _, hg, _⟩
      · cases h0
      · cases h0
        have := (show W.heap[w.heap.size]? = _ from h9).symm.trans (e ▸ hg)
        simp at this
    have hglt : g < W.heap.size := by
      obtain ⟨o, ho, -⟩ := cells_of_cell (hc 0 (by omega))
      exact (Array.getElem?_eq_some_iff.1 ho).1
    have hcap3 : (size : Int) ≤ (cap : Int) := by omega
    have hcl : cap ≤ 9223372036854775807 := by unfold maxLen at hcap2; omega
    have hc10 := hv.cell
    have hf10 := hv.frozen
    have hc9 := h9.cell
    have HC := Lib.hid hc; clear hc
    have HF := Lib.hid hf; clear hf
    have HRW := Lib.hid hrow; clear hrow
    have HLL := Lib.hid hL; clear hL
    have HKK := Lib.hid hk; clear hk
    gi_wp2
    -- REGION 8
    obtain ⟨W2, hW2⟩ : ∃ W2, W2 = W.setCell ⟨w.heap.size + 1, 0, none⟩ (.slice (some ⟨g, 0, none⟩) size cap) := ⟨_, rfl⟩
    rw [← hW2]
    have k10 : W2.cell? ⟨w.heap.size + 1, 0, none⟩ = some (.slice (some ⟨g, 0, none⟩) size cap) := by rw [hW2]; exact (hv.set _).cell
    have k9 : W2.cell? ⟨w.heap.size, 0, none⟩ = some (.int .i64 size) := by rw [hW2]; exact (h9.other (by omega) _).cell
    have kc : ∀ j (hj : j < L.length), W2.cell? ⟨g, j, none⟩ = some (.int .u8 ((L[j]'hj).toNat : Int)) := fun j hj => by
      rw [hW2, World.cell?_setCell_other _ _ _ _ (fun e => hne (Addr.mk.inj e).1.symm)]; exact HC.out j hj
    have kf : W2.frozen? ⟨g, 0, none⟩ = false := by rw [hW2, World.frozen?_setCell]; exact HF.out 0
    have kD : W2.heap[D]? = some (.deferred (some [])) := by rw [hW2]; exact (KeepsOthers.setCell W ⟨w.heap.size + 1, 0, none⟩ _).same D _ hK rfl
    have kB : Below w.heap.size w W2 := by rw [hW2]; exact hB.setCell (p := ⟨w.heap.size + 1, 0, none⟩) (by show w.heap.size ≤ w.heap.size + 1; omega) _
    clear hW2 hc10 hf10 hc9 hv h9 HC HF HRW hK hB
    have hL0 : 0 < L.length := by omega
    obtain ⟨c, hc⟩ : ∃ c, c = (L[0]'hL0).toNat := ⟨_, rfl⟩
    have hc256 : c < 256 := by rw [hc]; exact (L[0]'hL0).toNat_lt
    have kc0 : W2.cell? ⟨g, 0, none⟩ = some (.int .u8 (c : Int)) := by rw [kc 0 hL0, hc]
    have hcs : size = (bits + 7) / 8 := HZ.out
    obtain ⟨s8, hs8e⟩ : ∃ s8, s8 = 8 * size := ⟨_, rfl⟩
    have hmul : (8 : Int) * (size : Int) = (s8 : Int) := by omega
    have hwr : IntKind.i64.wrap (s8 : Int) = (s8 : Int) := IntWalk.i64_in _ (by omega)
    have h8 : s8 = bits ∨ s8 = bits + 1 ∨ s8 = bits + 2 ∨ s8 = bits + 3 ∨ s8 = bits + 4 ∨ s8 = bits + 5 ∨ s8 = bits + 6 ∨ s8 = bits + 7 := by omega
    have kx : ∀ u, (W2.setCell ⟨g, 0, none⟩ u).cell? ⟨w.heap.size + 1, 0, none⟩ = some (.slice (some ⟨g, 0, none⟩) size cap) := fun u => by
      rw [World.cell?_setCell_other _ _ _ _ (fun e => hne (Addr.mk.inj e).1)]; exact k10
    have hszi : (1 : Int) ≤ (size : Int) := by omega
    have hbi : (0 : Int) ≤ (bits : Int) := by omega
    have HSL := Lib.hid hsl; clear hsl
    have HSE := Lib.hid hs8e; clear hs8e
    have HCS := Lib.hid hcs; clear hcs
    have HL1 := Lib.hid hl1; clear hl1 hl2
    have HS1 := Lib.hid hs1; clear hs1
    rcases h8 with h8 | h8 | h8 | h8 | h8 | h8 | h8 | h8
    · have hsub : (s8 : Int) - (bits : Int) = 0 := by omega
      obtain ⟨r, hr⟩ : ∃ r, r = c % 256 := ⟨_, rfl⟩
      have ha : Go.bits .and .u8 (c : Int) 255 = (r : Int) := by rw [and8_0 c hc256, hr]
      have hcv := conv_masked W2.drew g size cap r 0 L HS1.out.1 (by have := HSL.out; have := HL1.out; omega) (fun j hj => kc j hj) (by rw [hr, hc]) (by omega)
      obtain ⟨X, hX⟩ : ∃ X : ByteArray, X = ⟨(maskF 0 (L.take size)).toArray⟩ := ⟨_, rfl⟩
      rw [← hX] at hcv
      have hcv2 : (convert 69 9 (.slice (some ⟨g, 0, none⟩) size cap)).run Tryz.prog (W2.setCell ⟨g, 0, none⟩ (.int .u8 (r : Int))).drew = .ok (.string X) (W2.setCell ⟨g, 0, none⟩ (.int .u8 (r : Int))).drew := hcv
      clear hcv
      have HX := Lib.hid hX; clear hX
      have HR := Lib.hid hr; clear hr
      have H8 := Lib.hid h8; clear h8
      have KC := Lib.hid kc; clear kc hc
      gi_region
      all_goals gi_wp2
      all_goals
        refine ⟨trivial, (callsIn_wide.2 (Tryz.strings_TrimLeft_one X 0 (by decide) _)).mono ?_⟩
        rintro e wx ⟨rfl, rfl⟩
        have HF := Lib.hid (show (⟨(Lib.trimLeftB X.data.toList 0).toArray⟩ : ByteArray) = E (candN S.data.toList t a bits) by
          rw [HX.out, trim_masked]
          unfold candN candM candL
          rw [← HZ.out, ← HKK.out, ← HLL.out, show 8 * size - bits = 0 by have := HSE.out; have := H8.out; omega])
        rw [HF.out]
        gi_wp2
        have kD2 : (W2.setCell ⟨g, 0, none⟩ (.int .u8 (r : Int))).drew.heap[D]? = some (.deferred (some [])) := (KeepsOthers.setCell W2 ⟨g, 0, none⟩ (.int .u8 (r : Int))).same D _ kD rfl
        refine ⟨by simp, .inl ⟨_, _, rfl, run_takeDeferred kD2, ?_⟩⟩
        refine ⟨_, results_tmp rfl _ _ _, rfl, ?_⟩
        exact ((kB.setCell (p := ⟨g, 0, none⟩) hgb _).drew).trans (belowK_b (w := w) (Nat.le_refl _) _ D _ _ (by omega) kD2 rfl rfl)
    · have hsub : (s8 : Int) - (bits : Int) = 1 := by omega
      obtain ⟨r, hr⟩ : ∃ r, r = c % 128 := ⟨_, rfl⟩
      have ha : Go.bits .and .u8 (c : Int) 127 = (r : Int) := by rw [and8_1 c hc256, hr]
      have hcv := conv_masked W2.drew g size cap r 1 L HS1.out.1 (by have := HSL.out; have := HL1.out; omega) (fun j hj => kc j hj) (by rw [hr, hc]) (by omega)
      obtain ⟨X, hX⟩ : ∃ X : ByteArray, X = ⟨(maskF 1 (L.take size)).toArray⟩ := ⟨_, rfl⟩
      rw [← hX] at hcv
      have hcv2 : (convert 69 9 (.slice (some ⟨g, 0, none⟩) size cap)).run Tryz.prog (W2.setCell ⟨g, 0, none⟩ (.int .u8 (r : Int))).drew = .ok (.string X) (W2.setCell ⟨g, 0, none⟩ (.int .u8 (r : Int))).drew := hcv
      clear hcv
      have HX := Lib.hid hX; clear hX
      have HR := Lib.hid hr; clear hr
      have H8 := Lib.hid h8; clear h8
      have KC := Lib.hid kc; clear kc hc
      gi_region
      all_goals gi_wp2
      all_goals
        refine ⟨trivial, (callsIn_wide.2 (Tryz.strings_TrimLeft_one X 0 (by decide) _)).mono ?_⟩
        rintro e wx ⟨rfl, rfl⟩
        have HF := Lib.hid (show (⟨(Lib.trimLeftB X.data.toList 0).toArray⟩ : ByteArray) = E (candN S.data.toList t a bits) by
          rw [HX.out, trim_masked]
          unfold candN candM candL
          rw [← HZ.out, ← HKK.out, ← HLL.out, show 8 * size - bits = 1 by have := HSE.out; have := H8.out; omega])
        rw [HF.out]
        gi_wp2
        have kD2 : (W2.setCell ⟨g, 0, none⟩ (.int .u8 (r : Int))).drew.heap[D]? = some (.deferred (some [])) := (KeepsOthers.setCell W2 ⟨g, 0, none⟩ (.int .u8 (r : Int))).same D _ kD rfl
        refine ⟨by simp, .inl ⟨_, _, rfl, run_takeDeferred kD2, ?_⟩⟩
        refine ⟨_, results_tmp rfl _ _ _, rfl, ?_⟩
        exact ((kB.setCell (p := ⟨g, 0, none⟩) hgb _).drew).trans (belowK_b (w := w) (Nat.le_refl _) _ D _ _ (by omega) kD2 rfl rfl)
    · have hsub : (s8 : Int) - (bits : Int) = 2 := by omega
      obtain ⟨r, hr⟩ : ∃ r, r = c % 64 := ⟨_, rfl⟩
      have ha : Go.bits .and .u8 (c : Int) 63 = (r : Int) := by rw [and8_2 c hc256, hr]
      have hcv := conv_masked W2.drew g size cap r 2 L HS1.out.1 (by have := HSL.out; have := HL1.out; omega) (fun j hj => kc j hj) (by rw [hr, hc]) (by omega)
      obtain ⟨X, hX⟩ : ∃ X : ByteArray, X = ⟨(maskF 2 (L.take size)).toArray⟩ := ⟨_, rfl⟩
      rw [← hX] at hcv
      have hcv2 : (convert 69 9 (.slice (some ⟨g, 0, none⟩) size cap)).run Tryz.prog (W2.setCell ⟨g, 0, none⟩ (.int .u8 (r : Int))).drew = .ok (.string X) (W2.setCell ⟨g, 0, none⟩ (.int .u8 (r : Int))).drew := hcv
      clear hcv
      have HX := Lib.hid hX; clear hX
      have HR := Lib.hid hr; clear hr
      have H8 := Lib.hid h8; clear h8
      have KC := Lib.hid kc; clear kc hc
      gi_region
      all_goals gi_wp2
      all_goals
        refine ⟨trivial, (callsIn_wide.2 (Tryz.strings_TrimLeft_one X 0 (by decide) _)).mono ?_⟩
        rintro e wx ⟨rfl, rfl⟩
        have HF := Lib.hid (show (⟨(Lib.trimLeftB X.data.toList 0).toArray⟩ : ByteArray) = E (candN S.data.toList t a bits) by
          rw [HX.out, trim_masked]
          unfold candN candM candL
          rw [← HZ.out, ← HKK.out, ← HLL.out, show 8 * size - bits = 2 by have := HSE.out; have := H8.out; omega])
        rw [HF.out]
        gi_wp2
        have kD2 : (W2.setCell ⟨g, 0, none⟩ (.int .u8 (r : Int))).drew.heap[D]? = some (.deferred (some [])) := (KeepsOthers.setCell W2 ⟨g, 0, none⟩ (.int .u8 (r : Int))).same D _ kD rfl
        refine ⟨by simp, .inl ⟨_, _, rfl, run_takeDeferred kD2, ?_⟩⟩
        refine ⟨_, results_tmp rfl _ _ _, rfl, ?_⟩
        exact ((kB.setCell (p := ⟨g, 0, none⟩) hgb _).drew).trans (belowK_b (w := w) (Nat.le_refl _) _ D _ _ (by omega) kD2 rfl rfl)
    · have hsub : (s8 : Int) - (bits : Int) = 3 := by omega
      obtain ⟨r, hr⟩ : ∃ r, r = c % 32 := ⟨_, rfl⟩
      have ha : Go.bits .and .u8 (c : Int) 31 = (r : Int) := by rw [and8_3 c hc256, hr]
      have hcv := conv_masked W2.drew g size cap r 3 L HS1.out.1 (by have := HSL.out; have := HL1.out; omega) (fun j hj => kc j hj) (by rw [hr, hc]) (by omega)
      obtain ⟨X, hX⟩ : ∃ X : ByteArray, X = ⟨(maskF 3 (L.take size)).toArray⟩ := ⟨_, rfl⟩
      rw [← hX] at hcv
      have hcv2 : (convert 69 9 (.slice (some ⟨g, 0, none⟩) size cap)).run Tryz.prog (W2.setCell ⟨g, 0, none⟩ (.int .u8 (r : Int))).drew = .ok (.string X) (W2.setCell ⟨g, 0, none⟩ (.int .u8 (r : Int))).drew := hcv
      clear hcv
      have HX := Lib.hid hX; clear hX
      have HR := Lib.hid hr; clear hr
      have H8 := Lib.hid h8; clear h8
      have KC := Lib.hid kc; clear kc hc
      gi_region
      all_goals gi_wp2
      all_goals
        refine ⟨trivial, (callsIn_wide.2 (Tryz.strings_TrimLeft_one X 0 (by decide) _)).mono ?_⟩
        rintro e wx ⟨rfl, rfl⟩
        have HF := Lib.hid (show (⟨(Lib.trimLeftB X.data.toList 0).toArray⟩ : ByteArray) = E (candN S.data.toList t a bits) by
          rw [HX.out, trim_masked]
          unfold candN candM candL
          rw [← HZ.out, ← HKK.out, ← HLL.out, show 8 * size - bits = 3 by have := HSE.out; have := H8.out; omega])
        rw [HF.out]
        gi_wp2
        have kD2 : (W2.setCell ⟨g, 0, none⟩ (.int .u8 (r : Int))).drew.heap[D]? = some (.deferred (some [])) := (KeepsOthers.setCell W2 ⟨g, 0, none⟩ (.int .u8 (r : Int))).same D _ kD rfl
        refine ⟨by simp, .inl ⟨_, _, rfl, run_takeDeferred kD2, ?_⟩⟩
        refine ⟨_, results_tmp rfl _ _ _, rfl, ?_⟩
        exact ((kB.setCell (p := ⟨g, 0, none⟩) hgb _).drew).trans (belowK_b (w := w) (Nat.le_refl _) _ D _ _ (by omega) kD2 rfl rfl)
    · have hsub : (s8 : Int) - (bits : Int) = 4 := by omega
      obtain ⟨r, hr⟩ : ∃ r, r = c % 16 := ⟨_, rfl⟩
      have ha : Go.bits .and .u8 (c : Int) 15 = (r : Int) := by rw [and8_4 c hc256, hr]
      have hcv := conv_masked W2.drew g size cap r 4 L HS1.out.1 (by have := HSL.out; have := HL1.out; omega) (fun j hj => kc j hj) (by rw [hr, hc]) (by omega)
      obtain ⟨X, hX⟩ : ∃ X : ByteArray, X = ⟨(maskF 4 (L.take size)).toArray⟩ := ⟨_, rfl⟩
      rw [← hX] at hcv
      have hcv2 : (convert 69 9 (.slice (some ⟨g, 0, none⟩) size cap)).run Tryz.prog (W2.setCell ⟨g, 0, none⟩ (.int .u8 (r : Int))).drew = .ok (.string X) (W2.setCell ⟨g, 0, none⟩ (.int .u8 (r : Int))).drew := hcv
      clear hcv
      have HX := Lib.hid hX; clear hX
      have HR := Lib.hid hr; clear hr
      have H8 := Lib.hid h8; clear h8
      have KC := Lib.hid kc; clear kc hc
      gi_region
      all_goals gi_wp2
      all_goals
        refine ⟨trivial, (callsIn_wide.2 (Tryz.strings_TrimLeft_one X 0 (by decide) _)).mono ?_⟩
        rintro e wx ⟨rfl, rfl⟩
        have HF := Lib.hid (show (⟨(Lib.trimLeftB X.data.toList 0).toArray⟩ : ByteArray) = E (candN S.data.toList t a bits) by
          rw [HX.out, trim_masked]
          unfold candN candM candL
          rw [← HZ.out, ← HKK.out, ← HLL.out, show 8 * size - bits = 4 by have := HSE.out; have := H8.out; omega])
        rw [HF.out]
        gi_wp2
        have kD2 : (W2.setCell ⟨g, 0, none⟩ (.int .u8 (r : Int))).drew.heap[D]? = some (.deferred (some [])) := (KeepsOthers.setCell W2 ⟨g, 0, none⟩ (.int .u8 (r : Int))).same D _ kD rfl
        refine ⟨by simp, .inl ⟨_, _, rfl, run_takeDeferred kD2, ?_⟩⟩
        refine ⟨_, results_tmp rfl _ _ _, rfl, ?_⟩
        exact ((kB.setCell (p := ⟨g, 0, none⟩) hgb _).drew).trans (belowK_b (w := w) (Nat.le_refl _) _ D _ _ (by omega) kD2 rfl rfl)
    · have hsub : (s8 : Int) - (bits : Int) = 5 := by omega
      obtain ⟨r, hr⟩ : ∃ r, r = c % 8 := ⟨_, rfl⟩
      have ha : Go.bits .and .u8 (c : Int) 7 = (r : Int) := by rw [and8_5 c hc256, hr]
      have hcv := conv_masked W2.drew g size cap r 5 L HS1.out.1 (by have := HSL.out; have := HL1.out; omega) (fun j hj => kc j hj) (by rw [hr, hc]) (by omega)
      obtain ⟨X, hX⟩ : ∃ X : ByteArray, X = ⟨(maskF 5 (L.take size)).toArray⟩ := ⟨_, rfl⟩
      rw [← hX] at hcv
      have hcv2 : (convert 69 9 (.slice (some ⟨g, 0, none⟩) size cap)).run Tryz.prog (W2.setCell ⟨g, 0, none⟩ (.int .u8 (r : Int))).drew = .ok (.string X) (W2.setCell ⟨g, 0, none⟩ (.int .u8 (r : Int))).drew := hcv
      clear hcv
      have HX := Lib.hid hX; clear hX
      have HR := Lib.hid hr; clear hr
      have H8 := Lib.hid h8; clear h8
      have KC := Lib.hid kc; clear kc hc
      gi_region
      all_goals gi_wp2
      all_goals
        refine ⟨trivial, (callsIn_wide.2 (Tryz.strings_TrimLeft_one X 0 (by decide) _)).mono ?_⟩
        rintro e wx ⟨rfl, rfl⟩
        have HF := Lib.hid (show (⟨(Lib.trimLeftB X.data.toList 0).toArray⟩ : ByteArray) = E (candN S.data.toList t a bits) by
          rw [HX.out, trim_masked]
          unfold candN candM candL
          rw [← HZ.out, ← HKK.out, ← HLL.out, show 8 * size - bits = 5 by have := HSE.out; have := H8.out; omega])
        rw [HF.out]
        gi_wp2
        have kD2 : (W2.setCell ⟨g, 0, none⟩ (.int .u8 (r : Int))).drew.heap[D]? = some (.deferred (some [])) := (KeepsOthers.setCell W2 ⟨g, 0, none⟩ (.int .u8 (r : Int))).same D _ kD rfl
        refine ⟨by simp, .inl ⟨_, _, rfl, run_takeDeferred kD2, ?_⟩⟩
        refine ⟨_, results_tmp rfl _ _ _, rfl, ?_⟩
        exact ((kB.setCell (p := ⟨g, 0, none⟩) hgb _).drew).trans (belowK_b (w := w) (Nat.le_refl _) _ D _ _ (by omega) kD2 rfl rfl)
    · have hsub : (s8 : Int) - (bits : Int) = 6 := by omega
      obtain ⟨r, hr⟩ : ∃ r, r = c % 4 := ⟨_, rfl⟩
      have ha : Go.bits .and .u8 (c : Int) 3 = (r : Int) := by rw [and8_6 c hc256, hr]
      have hcv := conv_masked W2.drew g size cap r 6 L HS1.out.1 (by have := HSL.out; have := HL1.out; omega) (fun j hj => kc j hj) (by rw [hr, hc]) (by omega)
      obtain ⟨X, hX⟩ : ∃ X : ByteArray, X = ⟨(maskF 6 (L.take size)).toArray⟩ := ⟨_, rfl⟩
      rw [← hX] at hcv
      have hcv2 : (convert 69 9 (.slice (some ⟨g, 0, none⟩) size cap)).run Tryz.prog (W2.setCell ⟨g, 0, none⟩ (.int .u8 (r : Int))).drew = .ok (.string X) (W2.setCell ⟨g, 0, none⟩ (.int .u8 (r : Int))).drew := hcv
      clear hcv
      have HX := Lib.hid hX; clear hX
      have HR := Lib.hid hr; clear hr
      have H8 := Lib.hid h8; clear h8
      have KC := Lib.hid kc; clear kc hc
      gi_region
      all_goals gi_wp2
      all_goals
        refine ⟨trivial, (callsIn_wide.2 (Tryz.strings_TrimLeft_one X 0 (by decide) _)).mono ?_⟩
        rintro e wx ⟨rfl, rfl⟩
        have HF := Lib.hid (show (⟨(Lib.trimLeftB X.data.toList 0).toArray⟩ : ByteArray) = E (candN S.data.toList t a bits) by
          rw [HX.out, trim_masked]
          unfold candN candM candL
          rw [← HZ.out, ← HKK.out, ← HLL.out, show 8 * size - bits = 6 by have := HSE.out; have := H8.out; omega])
        rw [HF.out]
        gi_wp2
        have kD2 : (W2.setCell ⟨g, 0, none⟩ (.int .u8 (r : Int))).drew.heap[D]? = some (.deferred (some [])) := (KeepsOthers.setCell W2 ⟨g, 0, none⟩ (.int .u8 (r : Int))).same D _ kD rfl
        refine ⟨by simp, .inl ⟨_, _, rfl, run_takeDeferred kD2, ?_⟩⟩
        refine ⟨_, results_tmp rfl _ _ _, rfl, ?_⟩
        exact ((kB.setCell (p := ⟨g, 0, none⟩) hgb _).drew).trans (belowK_b (w := w) (Nat.le_refl _) _ D _ _ (by omega) kD2 rfl rfl)
    · have hsub : (s8 : Int) - (bits : Int) = 7 := by omega
      obtain ⟨r, hr⟩ : ∃ r, r = c % 2 := ⟨_, rfl⟩
      have ha : Go.bits .and .u8 (c : Int) 1 = (r : Int) := by rw [and8_7 c hc256, hr]
      have hcv := conv_masked W2.drew g size cap r 7 L HS1.out.1 (by have := HSL.out; have := HL1.out; omega) (fun j hj => kc j hj) (by rw [hr, hc]) (by omega)
      obtain ⟨X, hX⟩ : ∃ X : ByteArray, X = ⟨(maskF 7 (L.take size)).toArray⟩ := ⟨_, rfl⟩
      rw [← hX] at hcv
      have hcv2 : (convert 69 9 (.slice (some ⟨g, 0, none⟩) size cap)).run Tryz.prog (W2.setCell ⟨g, 0, none⟩ (.int .u8 (r : Int))).drew = .ok (.string X) (W2.setCell ⟨g, 0, none⟩ (.int .u8 (r : Int))).drew := hcv
      clear hcv
      have HX := Lib.hid hX; clear hX
      have HR := Lib.hid hr; clear hr
      have H8 := Lib.hid h8; clear h8
      have KC := Lib.hid kc; clear kc hc
      gi_region
      all_goals gi_wp2
      all_goals
        refine ⟨trivial, (callsIn_wide.2 (Tryz.strings_TrimLeft_one X 0 (by decide) _)).mono ?_⟩
        rintro e wx ⟨rfl, rfl⟩
        have HF := Lib.hid (show (⟨(Lib.trimLeftB X.data.toList 0).toArray⟩ : ByteArray) = E (candN S.data.toList t a bits) by
          rw [HX.out, trim_masked]
          unfold candN candM candL
          rw [← HZ.out, ← HKK.out, ← HLL.out, show 8 * size - bits = 7 by have := HSE.out; have := H8.out; omega])
        rw [HF.out]
        gi_wp2
        have kD2 : (W2.setCell ⟨g, 0, none⟩ (.int .u8 (r : Int))).drew.heap[D]? = some (.deferred (some [])) := (KeepsOthers.setCell W2 ⟨g, 0, none⟩ (.int .u8 (r : Int))).same D _ kD rfl
        refine ⟨by simp, .inl ⟨_, _, rfl, run_takeDeferred kD2, ?_⟩⟩
        refine ⟨_, results_tmp rfl _ _ _, rfl, ?_⟩
        exact ((kB.setCell (p := ⟨g, 0, none⟩) hgb _).drew).trans (belowK_b (w := w) (Nat.le_refl _) _ D _ _ (by omega) kD2 rfl rfl)
end Go.Proofs.YtehbbghobagkjaaGreatDoor
