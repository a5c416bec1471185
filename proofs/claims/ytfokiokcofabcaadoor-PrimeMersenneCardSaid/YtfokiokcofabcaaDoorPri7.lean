/-
  Contracts of package prime, the seventh part: factors, Factors.
-/
import Derived.Test.YtfokiokcofabcaaDoorRP8
import Derived.Test.YtfokiokcofabcaaDoorMD
import Derived.RangeFuncBox
import Derived.Sort.LoopGhostIn
namespace Go.Proofs.YtfokiokcofabcaaDoor
open Go.RowKit Go.Deep Go.Shelf
set_option linter.unusedVariables false
attribute [local go_sem] Oper.semAt_some

/-- A number of 64 bits. -/
abbrev U64N := { x : Nat // x < 18446744073709551616 }
/-- What the loops of factors know. -/
def ItO (n : Nat) (J : List U64N → World → Prop) (y : Nat) (vr vd : Value) (wr : World) : Prop :=
  ∃ (rest d : Nat) (pre : List U64N), d + y = 1048577 ∧ 2 ≤ d ∧ 0 < rest ∧ rest ≤ n ∧ QR.NoDiv rest d ∧ QR.facs n = pre.map (·.1) ++ QR.FC rest d ∧ vr = .int .u64 rest ∧ vd = .int .u64 d ∧ J pre wr
def ItI (n d : Nat) (J : List U64N → World → Prop) (rest : Nat) (vr : Value) (wr : World) : Prop :=
  ∃ (pre : List U64N), 0 < rest ∧ rest ≤ n ∧ QR.NoDiv rest d ∧ QR.facs n = pre.map (·.1) ++ QR.FC rest d ∧ vr = .int .u64 rest ∧ J pre wr
/-- What factors$1 answers. -/
def ItP (n : Nat) (J Jx : List U64N → World → Prop) (e : Ending) (W' : World) : Prop :=
  (∃ v, e = .returned v) ∧ ((∃ ys : List U64N, ys.map (·.1) = QR.facs n ∧ J ys W') ∨ (∃ pre, True ∧ Jx pre W'))

set_option maxRecDepth 100000 in
set_option maxHeartbeats 2000000 in
theorem factors1_in (F : Fence) (m : Nat) (hF : F.fn 52) (hFa : ∀ f, F.fn f) (hFw : F = Fence.wide) (hro : F.round = none) (hm : 1 ≤ m) (l Be n : Nat) (h0 : 0 < n) (hn : n < 1099511627776) (J Jx : List U64N → World → Prop)
    (hY : ∀ pre (x : U64N) W, J pre W → pre.length < 40 → YieldAt F (m - 1) Tryd.prog l #[.int .u64 (x.1 : Int)] W fun e W' =>
      (e = .returned (.bool true) ∧ J (pre ++ [x]) W' ∧ KpB Be W W') ∨ (e = .returned (.bool false) ∧ Jx (pre ++ [x]) W'))
    (W : World) (hBe : W.cell? ⟨Be, 0, none⟩ = some (.int .u64 n)) (hJ0 : J [] W) :
    CallsIn F m Tryd.prog 52 #[.func (.yield l) #[] #[], .pointer (some ⟨Be, 0, none⟩)] W fun e W' => ItP n J Jx e W' := by
  subst hFw
  have HN := Lib.hid hn; clear hn
  have HN0 := Lib.hid h0; clear h0
  refine callsIn_of_wp Tryd.func52 rfl hF ?_ hro
  simp only [Tryd.ntmps52, List.size_toArray, List.length_cons, List.length_nil, Nat.reduceAdd, Nat.reduceSub, Array.replicate_succ, Array.replicate_zero, List.push_toArray, List.append_toArray, List.nil_append, List.cons_append]
  gi_wp2
  gi_loopg [3, 4] 1048575 (fun y vr vd wr => ItO n J y vr vd wr)
  case atStart => exact ⟨n, 2, [], by omega, by omega, HN0.out, Nat.le_refl _, QR.NoDiv_two _, rfl, rfl, rfl, hJ0⟩
  case round =>
    obtain ⟨rest, d, pre, hy, hd2, hr0, hrn, hnd, hf, rfl, rfl, hJ⟩ := hrel
    have HND := Lib.hid hnd; clear hnd
    have HF := Lib.hid hf; clear hf
    have HR0 := Lib.hid hr0
    have HRN := Lib.hid hrn
    have hrl : rest < 1099511627776 := Nat.lt_of_le_of_lt hrn HN.out
    have hd3 : d ≤ 1048577 := by omega
    obtain ⟨p, hp⟩ : ∃ p, p = d * d := ⟨_, rfl⟩
    have hpi : (d : Int) * (d : Int) = (p : Int) := by rw [hp]; simp
    have hpl : p ≤ 1048577 * 1048577 := by rw [hp]; exact Nat.mul_le_mul hd3 hd3
    have HP := Lib.hid hp; clear hp
    have HY := Lib.hid hy; clear hy
    have HJ := Lib.hid hJ; clear hJ
    by_cases hle : p ≤ rest
    · have HD := Lib.hid (QR.sq_lt (by rw [← HP.out]; exact hle) hrl)
      gi_wp2
      gi_loopg [3] rest (fun y vr wr => ItI n d J y vr wr)
      case atStart => exact ⟨pre, HR0.out, HRN.out, HND.out, HF.out, rfl, HJ.out⟩
      case round =>
        clear HJ HND HF HRN HR0 hrl hr0 hrn hle hpi hpl
        obtain ⟨pre, hr0, hrn, hnd, hf, rfl, hJ⟩ := hrel
        have HND := Lib.hid hnd; clear hnd
        have HF := Lib.hid hf; clear hf
        have hrl : gk < 1099511627776 := Nat.lt_of_le_of_lt hrn HN.out
        have hd1 : (1 : Int) ≤ (d : Int) := by omega
        by_cases hz : gk % d = 0
        · have hzi : (gk : Int) % (d : Int) = 0 := by rw [← Int.natCast_emod, hz]; rfl
          have HST := Lib.hid (QR.FC_div hd2 hr0 hz HND.out)
          have HND2 := Lib.hid (QR.NoDiv_div HND.out hz hd2)
          have hdl : d < 18446744073709551616 := by omega
          have HF2 := Lib.hid (show QR.facs n = (pre ++ [(⟨d, hdl⟩ : U64N)]).map (·.1) ++ QR.FC (gk / d) d by rw [HF.out, HST.out, List.map_append, List.append_assoc]; rfl)
          have hlen := facs40 HN0.out HN.out HF.out
          rw [List.length_map] at hlen
          have HZ := Lib.hid hz; clear hz
          have hq0 : 0 < gk / d := by
            have hk := Nat.div_add_mod gk d
            rw [HZ.out, Nat.add_zero] at hk
            rcases Nat.eq_zero_or_pos (gk / d) with e | e
            · rw [e, Nat.mul_zero] at hk; omega
            · exact e
          have hql : gk / d < gk := Nat.div_lt_self hr0 (by omega)
          have hwd : IntKind.u64.wrap ((gk : Int) / (d : Int)) = ((gk / d : Nat) : Int) := by rw [← Int.natCast_ediv]; exact IntWalk.u64_in _ (by omega)
          have HQ0 := Lib.hid hq0; clear hq0
          have HQL := Lib.hid hql; clear hql
          obtain ⟨fn, tmps, assign, body, hy, hR⟩ := hY pre ⟨d, hdl⟩ wr hJ hlen
          dsimp only at hy
          clear hY
          gi_wp2
          refine hR.mono ?_
          rintro e W3 (⟨rfl, hJ3, hk3⟩ | ⟨rfl, hJx3⟩)
          · have HJ3 := Lib.hid hJ3; clear hJ3
            clear hy hR hk3
            gi_wp2
            go_roundg (gk / d)
            case measure => exact HQL.out
            case rel => exact ⟨pre ++ [⟨d, hdl⟩], HQ0.out, by have := HQL.out; omega, HND2.out, HF2.out, by first | rfl | rw [Int.natCast_ediv], HJ3.out⟩
          · clear hy hR
            gi_wp2
            refine bodyPost_ret (results_none rfl _ _ _) rfl ?_
            exact ⟨⟨_, rfl⟩, .inr ⟨_, trivial, hJx3⟩⟩
        · have HST := Lib.hid (QR.FC_skip hd2 hz)
          have HND2 := Lib.hid (QR.NoDiv_next HND.out hz)
          obtain ⟨r, hr⟩ : ∃ r, r = gk % d := ⟨_, rfl⟩
          have hri : (gk : Int) % (d : Int) = (r : Int) := by rw [hr, Int.natCast_emod]
          have hrb : ((r : Int) == 0) = false := by rw [beq_eq_false_iff_ne]; omega
          have hrne : ¬ (r : Int) = 0 := by omega
          clear hr hz
          have HJ := Lib.hid hJ; clear hJ
          have HR0 := Lib.hid hr0
          have HRN := Lib.hid hrn
          gi_wp2
          go_roundg (1048577 - (d + 1))
          case measure => have := HY.out; have := HD.out; omega
          case rel => exact ⟨gk, d + 1, pre, by have := HD.out; omega, by omega, HR0.out, HRN.out, HND2.out, by rw [HF.out, HST.out], rfl, by go_num, HJ.out⟩
    · have HE := Lib.hid (QR.FC_end (n := rest) (d := d) (by rw [← HP.out]; omega))
      have hlen := facs40 HN0.out HN.out HF.out
      rw [List.length_map] at hlen
      by_cases h1 : 1 < rest
      · have h1i : (1 : Int) < (rest : Int) := by omega
        have hrl2 : rest < 18446744073709551616 := by omega
        have HF2 := Lib.hid (show (pre ++ [(⟨rest, hrl2⟩ : U64N)]).map (·.1) = QR.facs n by rw [HF.out, HE.out, if_pos h1, List.map_append]; rfl)
        obtain ⟨fn, tmps, assign, body, hy, hR⟩ := hY pre ⟨rest, hrl2⟩ wr HJ.out hlen
        dsimp only at hy
        clear hY
        gi_wp2
        refine hR.mono ?_
        rintro e W3 (⟨rfl, hJ3, hk3⟩ | ⟨rfl, hJx3⟩)
        · clear hy hR hk3
          gi_wp2
          go_end0
          exact ⟨⟨_, rfl⟩, .inl ⟨_, HF2.out, hJ3⟩⟩
        · clear hy hR
          gi_wp2
          go_end0
          exact ⟨⟨_, rfl⟩, .inr ⟨_, trivial, hJx3⟩⟩
      · have h1i : ¬ (1 : Int) < (rest : Int) := by omega
        have HF2 := Lib.hid (show pre.map (·.1) = QR.facs n by rw [HF.out, HE.out, if_neg h1, List.append_nil])
        gi_wp2
        go_end0
        exact ⟨⟨_, rfl⟩, .inl ⟨_, HF2.out, HJ.out⟩⟩
theorem factors_stops (m : Nat) (hm : 1 ≤ m) (Be n : Nat) (h0 : 0 < n) (hn : n < 1099511627776) (w : World) (hB : Be < w.heap.size) (hc : w.cell? ⟨Be, 0, none⟩ = some (.int .u64 n)) :
    SeqStopsK Fence.wide m Tryd.prog 52 #[.pointer (some ⟨Be, 0, none⟩)] (fun x : U64N => #[Value.int .u64 (x.1 : Int)]) (KpB Be) (fun ys => ys.map (·.1) = QR.facs n) (fun _ => True) 40 w := fun l J Jx W hW _ _ hY hJ0 =>
  factors1_in Fence.wide m trivial (fun _ => trivial) rfl rfl hm l Be n h0 hn J Jx hY W ((hW.cell (p := ⟨Be, 0, none⟩) hB).trans hc) hJ0

set_option maxHeartbeats 400000 in
theorem factors_any (n : Nat) (w : World) :
    Calls Tryd.prog 38 #[.int .u64 n] w fun e w' => e = .returned (.func (.func 52) #[] #[.pointer (some ⟨w.heap.size, 0, none⟩)]) ∧ w' = w.alloc (.cells #[.int .u64 n] 31) := by
  go_enter Tryd.func38, Tryd.ntmps38
  go_wp2
  go_ret
  exact ⟨rfl, rfl⟩
end Go.Proofs.YtfokiokcofabcaaDoor
