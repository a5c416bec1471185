/-
  The reference of layer 4, the seventh part: FactorsU, Factors.
-/
import Derived.Test.YtfokiokcofabcaaDoorPB
import Derived.Test.YtfokiokcofabcaaDoorPQ
import Derived.OwnWalk
namespace Go.Proofs.YtfokiokcofabcaaDoor
open Go.RowKit Go.Deep
set_option linter.unusedVariables false

theorem Tryd.fund65 : Tryd.prog.underlying 65 = some (.slice 31) := by kernel_rfl
theorem Tryd.fund47 : Tryd.prog.underlying 47 = some (.slice 22) := by kernel_rfl
theorem Tryd.finfo31 : (Tryd.prog.info? 31).map (fun i => (i.zero, i.size, i.bytes)) = some (some (.int .u64 0), 1, 8) := by kernel_rfl
theorem Tryd.finfo22 : (Tryd.prog.info? 22).map (fun i => (i.zero, i.size, i.bytes)) = some (some (.string ⟨#[]⟩), 1, 16) := by kernel_rfl
/-- Numbers, and canonical strings, as values. -/
def u64s (l : List Nat) : List Value := l.map fun x : Nat => Value.int .u64 ((x : Nat) : Int)
def nats (l : List Nat) : List Value := l.map fun x => Value.string (E x)
theorem u64s_len (l : List Nat) : (u64s l).length = l.length := by simp [u64s]
theorem nats_len (l : List Nat) : (nats l).length = l.length := by simp [nats]
theorem u64s_snoc (l : List Nat) (x : Nat) : u64s l ++ [Value.int .u64 (x : Int)] = u64s (l ++ [x]) := by simp [u64s]
theorem nats_snoc (l : List Nat) (x : Nat) : nats l ++ [Value.string (E x)] = nats (l ++ [x]) := by simp [nats]
theorem own_base {w : World} {base base' e size n : Nat} {v : Value} {xs : List Value} (h : w.ownsRow base e size v n xs) (hb : base' ≤ base) : w.ownsRow base' e size v n xs := by
  obtain ⟨h1, h2 | ⟨g, cap, cur, h3, h4, h5⟩⟩ := h
  · exact ⟨h1, .inl h2⟩
  · exact ⟨h1, .inr ⟨g, cap, cur, h3, Nat.le_trans hb h4, h5⟩⟩
theorem own_ge {w : World} {base e size n : Nat} {v : Value} {xs : List Value} (h : w.ownsRow base e size v n xs) : ∀ k, v.ownBlock = some k → base ≤ k := by
  intro k hk
  obtain ⟨-, ⟨rfl, -⟩ | ⟨g, cap, cur, rfl, hb, -⟩⟩ := h
  · simp [Value.ownBlock] at hk
  · simp [Value.ownBlock] at hk; omega
theorem own_below {w w' : World} {base e size n : Nat} {v : Value} {xs : List Value} (h : w.ownsRow base e size v n xs) (b : Below w.heap.size w w') : w'.ownsRow base e size v n xs := by
  obtain ⟨h1, h2 | ⟨g, cap, cur, h3, h4, h5, h6⟩⟩ := h
  · exact ⟨h1, .inl h2⟩
  · exact ⟨h1, .inr ⟨g, cap, cur, h3, h4, (b.block g (Array.getElem?_eq_some_iff.1 h5).1).trans h5, h6⟩⟩
theorem one_cells (W : World) (x : Value) (t : TypeId) : ∀ j u, [x][j]? = some u → (W.alloc (.cells #[x] t)).cell? ((⟨W.heap.size, 0, none⟩ : Addr).add j) = some u := by
  intro j u hj
  match j, hj with
  | 0, hj =>
    simp at hj; subst hj
    show (W.alloc (.cells #[x] t)).cell? ⟨W.heap.size, 0 + 0, none⟩ = _
    exact World.cell?_alloc_new W _ _ _
theorem facs40 {n : Nat} (h0 : 0 < n) (hn : n < 1099511627776) {pre suf : List Nat} (h : QR.facs n = pre ++ suf) : pre.length < 40 := by
  have h1 := QR.facs_len (k := 40) h0 (by omega)
  rw [h, List.length_append] at h1
  omega
/-- What the outer loop of FactorsU knows, and the inner one. -/
def FacO (n : Nat) (w : World) (y : Nat) (vn vo vp : Value) (wr : World) : Prop :=
  ∃ (rest d : Nat) (pre : List Nat), d + y = 1048577 ∧ 2 ≤ d ∧ 0 < rest ∧ rest ≤ n ∧ QR.NoDiv rest d ∧ QR.facs n = pre ++ QR.FC rest d ∧ vn = .int .u64 rest ∧ vp = .int .u64 d ∧
    wr.ownsRow w.heap.size 31 1 vo pre.length (u64s pre) ∧ Below w.heap.size w wr
def FacI (n d : Nat) (w : World) (rest : Nat) (vn vo : Value) (wr : World) : Prop :=
  ∃ pre : List Nat, 0 < rest ∧ rest ≤ n ∧ QR.NoDiv rest d ∧ QR.facs n = pre ++ QR.FC rest d ∧ vn = .int .u64 rest ∧
    wr.ownsRow w.heap.size 31 1 vo pre.length (u64s pre) ∧ Below w.heap.size w wr
/-- What FactorsU answers. -/
def FacUP (n : Nat) (w : World) (e : Ending) (w' : World) : Prop :=
  ∃ v, e = .returned v ∧ w'.ownsRow w.heap.size 31 1 v (QR.facs n).length (u64s (QR.facs n)) ∧ Below w.heap.size w w'

set_option maxHeartbeats 2000000 in
set_option maxRecDepth 20000 in
theorem rfactU_any (n : Nat) (w : World) (h0 : 0 < n) (hn : n < 1099511627776) :
    Calls Tryd.prog 39 #[.int .u64 n] w fun e w' => FacUP n w e w' := by
  have HN := Lib.hid hn; clear hn
  have HN0 := Lib.hid h0; clear h0
  obtain ⟨i0, hi, hz0, hz1, hz2⟩ := info_parts Tryd.finfo31
  go_enter Tryd.func39, Tryd.ntmps39
  go_wp2
  go_loopg [0, 3, 4] 1048575 (fun y vn vo vp wr => FacO n w y vn vo vp wr)
  case atStart => exact ⟨n, 2, [], by omega, by omega, HN0.out, Nat.le_refl _, QR.NoDiv_two _, rfl, rfl, rfl, World.ownsRow_nil _ _ _ _, Below.refl _ _⟩
  case round =>
    obtain ⟨rest, d, pre, hy, hd2, hr0, hrn, hnd, hf, rfl, rfl, hown, hbel⟩ := hrel
    have HND := Lib.hid hnd; clear hnd
    have HF := Lib.hid hf; clear hf
    have HR0 := Lib.hid hr0
    have HRN := Lib.hid hrn
    have hrl : rest < 1099511627776 := Nat.lt_of_le_of_lt hrn HN.out
    have hd3 : d ≤ 1048577 := by omega
    obtain ⟨p, hp⟩ : ∃ p, p = d * d := ⟨_, rfl⟩
    have hpi : (d : Int) * (d : Int) = (p : Int) := by rw [hp]; simp
    have hpl : p ≤ 1048577 * 1048577 := by rw [hp]; exact Nat.mul_le_mul hd3 hd3
    have HP := Lib.hid hp; clear hp
    have HY := Lib.hid hy; clear hy
    by_cases hle : p ≤ rest
    · have HD := Lib.hid (QR.sq_lt (by rw [← HP.out]; exact hle) hrl)
      have HB := Lib.hid hbel
      have HO := Lib.hid hown
      clear hbel hown
      go_wp2
      go_loopg [0, 3] rest (fun y vn vo wr => FacI n d w y vn vo wr)
      case atStart => exact ⟨pre, HR0.out, HRN.out, HND.out, HF.out, rfl, HO.out, HB.out⟩
      case round =>
        clear HB HO HND HF HRN HR0 hrl hr0 hrn hle hpi hpl
        obtain ⟨pre, hr0, hrn, hnd, hf, rfl, hown, hbel⟩ := hrel
        have HND := Lib.hid hnd; clear hnd
        have HF := Lib.hid hf; clear hf
        have hrl : gk < 1099511627776 := Nat.lt_of_le_of_lt hrn HN.out
        have hd1 : (1 : Int) ≤ (d : Int) := by omega
        by_cases hz : gk % d = 0
        · have hzi : (gk : Int) % (d : Int) = 0 := by rw [← Int.natCast_emod, hz]; rfl
          have HST := Lib.hid (QR.FC_div hd2 hr0 hz HND.out)
          have HND2 := Lib.hid (QR.NoDiv_div HND.out hz hd2)
          have HF2 := Lib.hid (show QR.facs n = (pre ++ [d]) ++ QR.FC (gk / d) d by rw [HF.out, HST.out, List.append_assoc]; rfl)
          have hlen := facs40 HN0.out HN.out HF.out
          have HZ := Lib.hid hz; clear hz
          have hq0 : 0 < gk / d := by
            have hk := Nat.div_add_mod gk d
            rw [HZ.out, Nat.add_zero] at hk
            rcases Nat.eq_zero_or_pos (gk / d) with e | e
            · rw [e, Nat.mul_zero] at hk; omega
            · exact e
          have hql : gk / d < gk := Nat.div_lt_self hr0 (by omega)
          have hwd : IntKind.u64.wrap ((gk : Int) / (d : Int)) = ((gk / d : Nat) : Int) := by rw [← Int.natCast_ediv]; exact IntWalk.u64_in _ (by omega)
          have HQ0 := Lib.hid hq0; clear hq0
          have HQL := Lib.hid hql; clear hql
          have HB := Lib.hid hbel
          go_wp2_with (at_builtin; refine wpList_append_own _ rfl _ _ 65 rfl w.heap.size 31 i0 (.int .u64 0) 1 8 Tryd.fund65 hi hz0 hz1 hz2 rfl (by decide) _ _ _ rfl (hown.alloc _) ⟨wr.heap.size, 0, none⟩ 1 1 [.int .u64 (d : Int)] rfl rfl (one_cells _ _ _) (by simp [Value.oneCell']) (by unfold maxLen; omega) (by omega) (by have := HB.out.size; simp; omega) ?_)
          intro v' w1 hown' hgrow _
          rw [u64s_snoc, show pre.length + 1 = (pre ++ [d]).length by simp] at hown'
          have HO' := Lib.hid hown'
          have HB' := Lib.hid ((HB.out.alloc HB.out.size _).grown hgrow (by have := HB.out.size; simp; omega) (own_ge hown))
          clear hown' hgrow hown hbel
          go_wp2
          go_roundg (gk / d)
          case measure => exact HQL.out
          case rel => exact ⟨pre ++ [d], HQ0.out, by have := HQL.out; omega, HND2.out, HF2.out, by first | rfl | rw [Int.natCast_ediv], HO'.out, HB'.out⟩
        · have HST := Lib.hid (QR.FC_skip hd2 hz)
          have HND2 := Lib.hid (QR.NoDiv_next HND.out hz)
          obtain ⟨r, hr⟩ : ∃ r, r = gk % d := ⟨_, rfl⟩
          have hri : (gk : Int) % (d : Int) = (r : Int) := by rw [hr, Int.natCast_emod]
          have hrb : ((r : Int) == 0) = false := by rw [beq_eq_false_iff_ne]; omega
          have hrne : ¬ (r : Int) = 0 := by omega
          clear hr hz
          have HB := Lib.hid hbel
          have HO := Lib.hid hown
          have HR0 := Lib.hid hr0
          have HRN := Lib.hid hrn
          clear hbel hown
          go_wp2
          go_roundg (1048577 - (d + 1))
          case measure => have := HY.out; have := HD.out; omega
          case rel => exact ⟨gk, d + 1, pre, by have := HD.out; omega, by omega, HR0.out, HRN.out, HND2.out, by rw [HF.out, HST.out], rfl, by go_num, HO.out, HB.out⟩
    · have HE := Lib.hid (QR.FC_end (n := rest) (d := d) (by rw [← HP.out]; omega))
      have hlen := facs40 HN0.out HN.out HF.out
      by_cases h1 : 1 < rest
      · have h1i : (1 : Int) < (rest : Int) := by omega
        have HF2 := Lib.hid (show QR.facs n = pre ++ [rest] by rw [HF.out, HE.out, if_pos h1])
        have HB := Lib.hid hbel
        go_wp2_with (at_builtin; refine wpList_append_own _ rfl _ _ 65 rfl w.heap.size 31 i0 (.int .u64 0) 1 8 Tryd.fund65 hi hz0 hz1 hz2 rfl (by decide) _ _ _ rfl (hown.alloc _) ⟨wr.heap.size, 0, none⟩ 1 1 [.int .u64 (rest : Int)] rfl rfl (one_cells _ _ _) (by simp [Value.oneCell']) (by unfold maxLen; omega) (by omega) (by have := HB.out.size; simp; omega) ?_)
        intro v' w1 hown' hgrow _
        rw [u64s_snoc, show pre.length + 1 = (pre ++ [rest]).length by simp, ← HF2.out] at hown'
        have HO' := Lib.hid hown'
        have HB' := Lib.hid ((HB.out.alloc HB.out.size _).grown hgrow (by have := HB.out.size; simp; omega) (own_ge hown))
        clear hown' hgrow hown hbel
        go_wp2
        go_ret
        exact ⟨_, rfl, HO'.out, HB'.out⟩
      · have h1i : ¬ (1 : Int) < (rest : Int) := by omega
        have HF2 := Lib.hid (show QR.facs n = pre by rw [HF.out, HE.out, if_neg h1, List.append_nil])
        rw [← HF2.out] at hown
        have HO := Lib.hid hown
        have HB := Lib.hid hbel
        clear hown hbel
        go_wp2
        go_ret
        exact ⟨_, rfl, HO.out, HB.out⟩
end Go.Proofs.YtfokiokcofabcaaDoor
