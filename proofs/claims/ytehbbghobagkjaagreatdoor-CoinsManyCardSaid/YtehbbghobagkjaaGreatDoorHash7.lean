/-
  Contracts of package hash, the seventh part: Sum.
-/
import Derived.Test.YtehbbghobagkjaaGreatDoorHash6
import Derived.ArgAppend
import Derived.Lib.ConvBytes
import Derived.Deep.RegionWith
import Derived.Deep.MidRow
namespace Go.Proofs.YtehbbghobagkjaaGreatDoor
open Go.RowKit Go.Deep
set_option linter.unusedVariables false

theorem hbelow_setCells {B b : Nat} {a : World} (hb : B ≤ b) : ∀ (vs : List Value) (o : Nat) (w : World), Below B a w → Below B a (w.setCells b o vs)
  | [], o, w, h => h
  | v :: vs, o, w, h => hbelow_setCells hb vs (o + 1) _ (h.setCell (p := ⟨b, o, none⟩) hb v)
/-- Bytes that lie in a block that is not older than base; there may be room behind them. -/
def Lies (w : World) (base : Nat) (v : Value) (l : List UInt8) : Prop :=
  ∃ g cap, v = .slice (some ⟨g, 0, none⟩) l.length cap ∧ base ≤ g ∧ g < w.heap.size ∧ l.length ≤ cap ∧ (∀ j (h : j < l.length), w.cell? ⟨g, j, none⟩ = some (.int .u8 ((l[j]'h).toNat : Int))) ∧
    ∀ j, j < cap → (w.cell? ⟨g, j, none⟩).isSome = true ∧ w.frozen? ⟨g, j, none⟩ = false
theorem Lies.below {w w' : World} {base : Nat} {v : Value} {l : List UInt8} (h : Lies w base v l) (b : Below w.heap.size w w') : Lies w' base v l := by
  obtain ⟨g, cap, hv, hb, hg, hl, hc, hs⟩ := h
  exact ⟨g, cap, hv, hb, Nat.lt_of_lt_of_le hg b.size, hl, fun j hj => by rw [b.cell (p := ⟨g, j, none⟩) hg]; exact hc j hj, fun j hj => by rw [b.cell (p := ⟨g, j, none⟩) hg, b.frozen (p := ⟨g, j, none⟩) hg]; exact hs j hj⟩
theorem Lies.string {w : World} {base : Nat} {v : Value} {l : List UInt8} (h : Lies w base v l) :
    (convert 69 9 v).run Tryz.prog w = .ok (.string ⟨l.toArray⟩) w := by
  obtain ⟨g, cap, rfl, -, -, -, hc, -⟩ := h
  have := run_convert_bytes_arg (P := Tryz.prog) w 69 5 Tryz.hund69 Tryz.hund5 g 0 l.length cap (l.map fun c => (c.toNat : Int)) (by simp) (fun i hi => by
    rw [Nat.zero_add, hc i hi]; simp [List.getD, hi]) 9 Tryz.hund9
  rw [this, hstr_bytes]
theorem own_lies {w : World} {base base' : Nat} {v : Value} {n : Nat} {l : List UInt8} (h : w.ownsRow base 5 1 v n (bvals l)) (hn : n = l.length) (h0 : 0 < n) (hb : base' ≤ base) : Lies w base' v l := by
  obtain ⟨hl, h | ⟨g, cap, cur, hv, hbg, hg, hc, hm, hs, ht⟩⟩ := h
  · omega
  · refine ⟨g, cap, by rw [hv, hn], by omega, (Array.getElem?_eq_some_iff.1 hg).1, by omega, fun j hj => ?_, fun j hj => ⟨?_, ?_⟩⟩
    · rw [cell_of_row _ _ _ _ _ _ hg]
      have e : (cur.toList.take (n * 1))[j]? = (bvals l)[j]? := by rw [ht]
      rw [bvals_get l j hj, List.getElem?_take, if_pos (by omega)] at e
      simpa using e
    · rw [cell_of_row _ _ _ _ _ _ hg]; simp; omega
    · rw [World.frozen?, hg]; simp
/-- '[]byte(s)'. -/
theorem run_conv (s : ByteArray) (w : World) : (convert 9 69 (.string s)).run Tryz.prog w = .ok (.slice (some ⟨w.heap.size, 0, none⟩) s.size (grownCap w s.size 0 5)) (Lib.bytesWorld w 5 s) :=
  Lib.run_convert_string_bytes w 9 69 5 s Tryz.hund9 Tryz.hund69 Tryz.hund5
theorem bytesWorld_below (s : ByteArray) (w : World) : Below w.heap.size w (Lib.bytesWorld w 5 s) :=
  ⟨rfl, rfl, rfl, by rw [Lib.bytesWorld_size]; omega, fun k hk => Lib.bytesWorld_at_old w _ s k hk⟩
theorem conv_lies (s : ByteArray) (w : World) (base : Nat) (hb : base ≤ w.heap.size) : Lies (Lib.bytesWorld w 5 s) base (.slice (some ⟨w.heap.size, 0, none⟩) s.size (grownCap w s.size 0 5)) s.data.toList := by
  have hg := grownCap_ge w s.size 0 5
  have hsz : (Lib.bytesCells w 5 s).size = grownCap w s.size 0 5 := by
    simp [Lib.bytesCells]; omega
  refine ⟨w.heap.size, grownCap w s.size 0 5, by rw [hsize_eq], hb, by rw [Lib.bytesWorld_size]; omega, by rw [hsize_eq]; exact hg, fun j hj => ?_, fun j hj => ⟨?_, ?_⟩⟩
  · rw [Lib.bytesWorld_cell w _ s j (by rw [← hsize_eq]; exact hj)]
    rw [List.getD_eq_getElem?_getD, List.getElem?_eq_getElem hj, Option.getD_some]
  · rw [World.cell?, Lib.bytesWorld_at_new]; simp [hsz, hj]
  · rw [World.frozen?, Lib.bytesWorld_at_new]; simp [hsz]; omega
theorem run_append_lies {w : World} {base : Nat} {v x : Value} {l m : List UInt8} (h : Lies w base v l) (hb : base ≤ w.heap.size) (hx : Lies w base x m) (hl : l.length + m.length ≤ 100000000000000) (ty : TypeId) :
    ∃ v' w', (Builtin.append_ #[69, 69] ty #[v, x]).run Tryz.prog w = .ok v' w' ∧ Lies w' base v' (l ++ m) ∧ Below base w w' := by
  obtain ⟨g, cap, rfl, hbg, hg, hlc, hc, hs⟩ := h
  obtain ⟨g2, cap2, rfl, -, -, -, hc2, -⟩ := hx
  obtain ⟨i0, hi, hz0, hz1, hz2⟩ := info_parts Tryz.hinfo5
  have hnews : ∀ j u, (bvals m)[j]? = some u → w.cell? ((⟨g2, 0, none⟩ : Addr).add j) = some u := fun j u hj => by
    have hjl := (List.getElem?_eq_some_iff.1 hj).1
    rw [bvals_length] at hjl
    rw [show (⟨g2, 0, none⟩ : Addr).add j = ⟨g2, j, none⟩ by unfold Addr.add; split <;> simp_all, hc2 j hjl, ← bvals_get m j hjl, hj]
  by_cases hr : l.length + m.length ≤ cap
  · have hrun := run_append_room_cells (P := Tryz.prog) w 69 ty 5 i0 Tryz.hund69 hi g 0 l.length cap ⟨g2, 0, none⟩ m.length cap2 (bvals m) (by rw [bvals_length, hz1]; omega) hnews (bvals_one _) hr
      (fun j hj => by rw [bvals_length] at hj; rw [hz1, Nat.zero_add, Nat.mul_one]; exact (hs _ (by omega)).1) (fun j hj => by rw [bvals_length] at hj; rw [hz1, Nat.zero_add, Nat.mul_one]; exact (hs _ (by omega)).2)
    rw [hz1, Nat.zero_add, Nat.mul_one] at hrun
    have hbel := hbelow_setCells hbg (bvals m) l.length w (Below.refl base w)
    refine ⟨_, _, hrun, ⟨g, cap, by rw [List.length_append], hbg, Nat.lt_of_lt_of_le hg hbel.size, by rw [List.length_append]; exact hr, fun j hj => ?_, fun j hj => ⟨World.isSome_setCells _ _ _ _ _ (hs j hj).1, by rw [World.frozen?_setCells]; exact (hs j hj).2⟩⟩, hbel⟩
    rw [List.length_append] at hj
    by_cases e : j < l.length
    · rw [World.cell?_setCells_out _ _ _ _ _ (fun _ _ => .inl e), hc j e, List.getElem_append_left e]
    · obtain ⟨q, rfl⟩ : ∃ q, j = l.length + q := ⟨j - l.length, by omega⟩
      have hq : q < (bvals m).length := by rw [bvals_length]; omega
      rw [World.cell?_setCells_in _ _ _ _ (fun j hj => by rw [bvals_length] at hj; exact (hs _ (by omega)).1) q hq]
      have := bvals_get m q (by omega)
      rw [List.getElem?_eq_getElem hq] at this
      rw [Option.some.inj this]
      simp
  · obtain ⟨v', w', hrun, r1, r2⟩ := run_append_arg_grows (P := Tryz.prog) w 69 ty 5 i0 (.int .u8 0) 1 1 Tryz.hund69 hi hz0 hz1 hz2 rfl (by decide) ⟨g, 0, none⟩ l.length cap (bvals l) (by rw [bvals_length]; omega)
      (fun j u hj => by
        have hjl := (List.getElem?_eq_some_iff.1 hj).1
        rw [bvals_length] at hjl
        rw [show (⟨g, 0, none⟩ : Addr).add j = ⟨g, j, none⟩ by unfold Addr.add; split <;> simp_all, hc j hjl, ← bvals_get l j hjl, hj])
      ⟨g2, 0, none⟩ m.length cap2 (bvals m) (by rw [bvals_length]; omega) hnews (by omega) (by unfold maxLen; omega) (by omega)
    rw [← bvals_append] at r1
    refine ⟨v', w', hrun, own_lies r1 (by rw [List.length_append]) (by omega) hb, ⟨r2.os, r2.tape, r2.output, r2.size, fun k hk => r2.block k (by omega) (by simp)⟩⟩

theorem padz_lt (n : Nat) : padz n < 64 := Nat.mod_lt _ (by omega)
theorem step_append {ops : Array Oper} {o : Oper} {a : Act} {w : World} {K : Act → World → Prop} {Q : Exit → Act → World → Prop} {E : Prop} (hgd : o.guard = none) (d s : Operand)
    (ho : o.op = .call { callee := .builtin .append, args := #[d, s], argTypes := #[69, 69] }) (base : Nat) (l m : List UInt8) (v x : Value) (hd : a.eval d = v) (hs : a.eval s = x)
    (h1 : Lies w base v l) (h2 : Lies w base x m) (hb : base ≤ w.heap.size) (hl : l.length + m.length ≤ 100000000000000)
    (h : ∀ v' w', Lies w' base v' (l ++ m) → Below base w w' → K (a.put o.dst v') w') :
    if Region.wanted o (yielded ops a.tmps) = true then Oper.wp Tryz.prog o a w K Q else E := by
  have hw : Region.wanted o (yielded ops a.tmps) = true := by simp [Region.wanted, hgd]
  rw [if_pos hw]
  obtain ⟨v', w', hrun, r1, r2⟩ := run_append_lies h1 hb h2 hl o.type
  unfold Oper.wp
  simp [execOp, ho, resolve, invoke, builtin, hd, hs, hrun, Result.andThen]
  exact h _ _ r1 r2

theorem hret_str {a b : ByteArray} (h : a = b) : Ending.returned (.string a) = .returned (.string b) := by rw [h]
theorem sum_small {s T L : ByteArray} (h : T.size < 64) (hL : (⟨(T.data.toList ++ padT s.size).toArray⟩ : ByteArray) = L) : L.size ≤ 200 := by
  have hz := padz_lt s.size
  rw [← hsize_eq, ← hL]
  simp [padT_length]
  omega
theorem sum_len2 {s T L : ByteArray} {k : Nat} (h : T.size < 64) (hT : T.data.toList = s.data.toList.drop k) (hk : k = s.size - s.size % 64) (hL : (⟨(T.data.toList ++ padT s.size).toArray⟩ : ByteArray) = L) : L.size = 64 * ((s.size % 64 + 9 + padz s.size) / 64) := by
  have hm := pad_mod s.size
  have e : L.size = s.size % 64 + 9 + padz s.size := by
    rw [← hsize_eq, ← hL]
    simp only [hT]
    rw [List.length_append, List.length_drop, padT_length, hsize_eq]
    omega
  rw [e]; omega
theorem sum_final {s T A L : ByteArray} {k m n : Nat} (hk : k = s.size - s.size % 64) (hm : k = 64 * m) (hT : T.data.toList = s.data.toList.drop k) (hA : s.extract 0 k = A) (hL : (⟨(T.data.toList ++ padT s.size).toArray⟩ : ByteArray) = L) (hn : L.size = 64 * n) :
    outS (absb n (absb m st0 A.data.toList) L.data.toList) = shaL s.data.toList := by
  have hl : L.data.toList = s.data.toList.drop k ++ padT s.size := by rw [← hL, ← hT]
  have ha : A.data.toList = s.data.toList.take k := by rw [← hA]; simp [ByteArray.data_extract]
  rw [sha_split s.data.toList, hsize_eq, ← hk, ← hl, hsize_eq, hn, ← ha, hm]
  rw [show 64 * n / 64 = n by omega, show 64 * m / 64 = m by omega]

set_option maxHeartbeats 1000000 in
set_option maxRecDepth 100000 in
theorem sum_any (s : ByteArray) (w : World) (hn : s.size ≤ 1099511627776) :
    Calls Tryz.prog 85 #[.string s] w fun e w' => e = .returned (.string ⟨(shaL s.data.toList).toArray⟩) ∧ Below w.heap.size w w' := by
  obtain ⟨k, hk⟩ : ∃ k, k = s.size - s.size % 64 := ⟨_, rfl⟩
  have hk1 : (s.size : Int) - (s.size : Int) % 64 = (k : Int) := by rw [hk]; omega
  have hk2 : k ≤ s.size := by rw [hk]; omega
  have hk3 : (k : Int) ≤ (s.size : Int) := by omega
  have hk4 : (0 : Int) ≤ (k : Int) := by omega
  obtain ⟨T, hT⟩ : ∃ T, s.extract k s.size = T := ⟨_, rfl⟩
  have hTs : T.data.toList = s.data.toList.drop k := by rw [← hT]; simp [ByteArray.data_extract]; exact List.take_of_length_le (by simp)
  have hTl : T.size < 64 := by rw [← hT]; simp; omega
  have HTS := Lib.hid hTs
  clear hTs
  have hcv := run_conv T
  have HK := Lib.hid hk
  clear hk
  go_enter Tryz.func85, Tryz.ntmps85
  go_wp2
  go_region_law (first
    | (refine step_append rfl (.tmp 14) (.tmp 17) rfl w.heap.size T.data.toList (padT s.size) _ _ rfl rfl (by first | exact (conv_lies T w.drew w.heap.size (Nat.le_refl _)).below b3 | exact conv_lies T w3 w.heap.size HL3) (by first | exact L3 | exact L3.below (bytesWorld_below T w3)) (by first | exact HL3 | exact Nat.le_trans HL3 (bytesWorld_below T w3).size) (by rw [hsize_eq, padT_length]; have := padz_lt s.size; omega) ?_; intro v4 w4 hL4 hb4)
    | (go_simp; go_at_call 94; refine (padding_any s.size _ hn).mono ?_; rintro e w3 ⟨v3, rfl, hown3, b3⟩; have L3 : Lies w3 w.heap.size v3 (padT s.size) := own_lies hown3 (padT_length _).symm (by omega) (by simp [Lib.bytesWorld_size]); have HL3 : w.heap.size ≤ w3.heap.size := Nat.le_trans (by simp [Lib.bytesWorld_size]) b3.size))
  all_goals
    have BB : Below w.heap.size w w4 := by
      first
        | exact (bnext' (bnext' (Below.refl _ _).drew (bytesWorld_below T w.drew)) b3).trans hb4
        | exact (bnext' (bnext' (Below.refl _ _).drew b3) (bytesWorld_below T w3)).trans hb4
    clear hown3 b3 L3 HL3 hb4 hcv hT
    have hc4 := fun w' (b : Below w4.heap.size w4 w') => (hL4.below b).string
    have HL4 := Lib.hid hL4
    clear hL4
    obtain ⟨L, hL⟩ : ∃ L : ByteArray, (⟨(T.data.toList ++ padT s.size).toArray⟩ : ByteArray) = L := ⟨_, rfl⟩
    obtain ⟨A, hA⟩ : ∃ A : ByteArray, s.extract 0 k = A := ⟨_, rfl⟩
    obtain ⟨m, hm⟩ : ∃ m, k = 64 * m := ⟨k / 64, by rw [HK.out]; omega⟩
    obtain ⟨n, hn2⟩ : ∃ n, L.size = 64 * n := ⟨(s.size % 64 + 9 + padz s.size) / 64, sum_len2 hTl HTS.out HK.out hL⟩
    have hAs : A.size = 64 * m := by rw [← hA, ← hm]; simp; omega
    have hAl : A.size ≤ 1099511627776 := by omega
    have hLl : L.size ≤ 1099511627776 := by have := sum_small hTl hL; omega
    have HAS := Lib.hid hAs
    have HLS := Lib.hid hn2
    have HF := Lib.hid (sum_final (m := m) (n := n) HK.out hm HTS.out hA hL hn2)
    rw [hL] at hc4
    clear hAs hn2 hm hL
    go_wp2
    have B0 : Below w4.heap.size w4 w4.drew := (Below.refl _ _).drew
    go_region_with (first
      | (go_at_call 97; (with_reducible refine (start_any _).mono ?_); rintro e w5 ⟨rfl, b5⟩; have B5 := bnext' B0 b5; clear b5)
      | (go_at_call 96; (with_reducible refine (absorb_any st0 A m _ HAS.out hAl).mono ?_); rintro e w6 ⟨rfl, b6⟩; have B6 := bnext' B5 b6; clear b6)
      | (go_at_call 96; (with_reducible refine (absorb_any (absb m st0 A.data.toList) L n _ HLS.out hLl).mono ?_); rintro e w7 ⟨rfl, b7⟩; have B7 := bnext' B6 b7; clear b7)
      | (go_at_call 95; (with_reducible refine (text_any (absb n (absb m st0 A.data.toList) L.data.toList) _).mono ?_); rintro e w8 ⟨rfl, b8⟩; have B8 := bnext' B7 b8; clear b8))
    all_goals
      have BF := bnext' BB B8
      clear B0 B5 B6 B7 B8 BB hc4
      go_wp2
      go_ret
      exact ⟨hret_str (by rw [HF.out]), BF⟩
end Go.Proofs.YtehbbghobagkjaaGreatDoor
