/-
  Contracts of package hash, the fifth part: bytes of the call's own; text.
-/
import Derived.Test.YtehbbghobagkjaaGreatDoorHash4
import Derived.OwnWalk
import Derived.Laws.BytesArg
namespace Go.Proofs.YtehbbghobagkjaaGreatDoor
open Go.RowKit Go.Deep
set_option linter.unusedVariables false

theorem Tryz.hund69 : Tryz.prog.underlying 69 = some (.slice 5) := by kernel_rfl
theorem Tryz.hund5 : Tryz.prog.underlying 5 = some (.int .u8) := by kernel_rfl
theorem Tryz.hund9 : Tryz.prog.underlying 9 = some .string := by kernel_rfl
theorem Tryz.hinfo5 : (Tryz.prog.info? 5).map (fun i => (i.zero, i.size, i.bytes)) = some (some (.int .u8 0), 1, 1) := by kernel_rfl
/-- Bytes as values. -/
def bvals (l : List UInt8) : List Value := l.map fun c => Value.int .u8 (c.toNat : Int)
theorem bvals_length (l : List UInt8) : (bvals l).length = l.length := by simp [bvals]
theorem bvals_append (l m : List UInt8) : bvals (l ++ m) = bvals l ++ bvals m := by simp [bvals]
theorem bvals_get (l : List UInt8) (j : Nat) (h : j < l.length) : (bvals l)[j]? = some (.int .u8 ((l[j]'h).toNat : Int)) := by simp [bvals, h]
theorem hstr_bytes (l : List UInt8) : strOfNums (l.map fun c => (c.toNat : Int)) = ⟨l.toArray⟩ := by
  unfold strOfNums
  simp [List.map_map, Function.comp_def]
theorem own_at {w : World} {base e : Nat} {v : Value} {n : Nat} {l : List UInt8} (h : w.ownsRow base e 1 v n (bvals l)) (hn : 0 < n) :
    ∃ g cap, v = .slice (some ⟨g, 0, none⟩) n cap ∧ base ≤ g ∧ n = l.length ∧ n ≤ cap ∧ ∀ j (hj : j < l.length), w.cell? ⟨g, j, none⟩ = some (.int .u8 ((l[j]'hj).toNat : Int)) := by
  obtain ⟨hl, h | ⟨g, cap, cur, hv, hb, hg, hc, hm, hs, ht⟩⟩ := h
  · omega
  · rw [bvals_length] at hl
    refine ⟨g, cap, hv, hb, by omega, hc, fun j hj => ?_⟩
    rw [cell_of_row _ _ _ _ _ _ hg]
    have e : (cur.toList.take (n * 1))[j]? = (bvals l)[j]? := by rw [ht]
    rw [bvals_get l j hj, List.getElem?_take, if_pos (by omega)] at e
    simpa using e
theorem own_string {w : World} {base : Nat} {v : Value} {n : Nat} {l : List UInt8} (h : w.ownsRow base 5 1 v n (bvals l)) :
    (convert 69 9 v).run Tryz.prog w = .ok (.string ⟨l.toArray⟩) w := by
  by_cases hn : 0 < n
  · obtain ⟨g, cap, rfl, -, rfl, -, hc⟩ := own_at h hn
    have := run_convert_bytes_arg (P := Tryz.prog) w 69 5 Tryz.hund69 Tryz.hund5 g 0 l.length cap (l.map fun c => (c.toNat : Int)) (by simp) (fun i hi => by
      rw [Nat.zero_add, hc i hi]; simp [List.getD, hi]) 9 Tryz.hund9
    rw [this, hstr_bytes]
  · obtain ⟨hl, h | ⟨g, cap, cur, hv, hb, hg, hc, hm, hs, ht⟩⟩ := h
    · obtain ⟨rfl, rfl⟩ := h
      rw [bvals_length] at hl
      obtain rfl := List.length_eq_zero_iff.1 (by omega : l.length = 0)
      exact run_convert_bytes_nil (P := Tryz.prog) w 69 5 Tryz.hund69 Tryz.hund5 0 0 9 Tryz.hund9
    · rw [bvals_length] at hl
      obtain rfl := List.length_eq_zero_iff.1 (by omega : l.length = 0)
      obtain rfl : n = 0 := by omega
      subst hv
      have := run_convert_bytes_arg (P := Tryz.prog) w 69 5 Tryz.hund69 Tryz.hund5 g 0 0 cap [] rfl (fun i hi => by omega) 9 Tryz.hund9
      rw [this]; rfl
theorem hown_ge {w : World} {base e size n : Nat} {v : Value} {xs : List Value} (h : w.ownsRow base e size v n xs) : ∀ k, v.ownBlock = some k → base ≤ k := by
  intro k hk
  obtain ⟨-, ⟨rfl, -⟩ | ⟨g, cap, cur, rfl, hb, -⟩⟩ := h
  · simp [Value.ownBlock] at hk
  · simp [Value.ownBlock] at hk; omega

theorem bvals_one (l : List UInt8) : ∀ u ∈ bvals l, u.oneCell' = true := by
  intro u hu
  simp only [bvals, List.mem_map] at hu
  obtain ⟨c, _, rfl⟩ := hu
  rfl
theorem new_cells (w : World) (c : Array Value) (t : TypeId) : ∀ j u, c.toList[j]? = some u → (w.alloc (.cells c t)).cell? ((⟨w.heap.size, 0, none⟩ : Addr).add j) = some u := by
  intro j u h
  rw [show (⟨w.heap.size, 0, none⟩ : Addr).add j = ⟨w.heap.size, j, none⟩ by unfold Addr.add; split <;> simp_all, cell_of_row _ _ _ _ _ _ (heap_alloc_last w _)]
  simpa using h
/-- The first k words of a state as bytes. -/
def outK (s : St) : Nat → List UInt8
  | 0 => []
  | k + 1 => outK s k ++ w4 (stF s k)
theorem outK_all (s : St) : outK s 8 = outS s := rfl
theorem outK_length (s : St) : ∀ k, (outK s k).length = 4 * k
  | 0 => rfl
  | k + 1 => by rw [outK, List.length_append, outK_length s k, w4_length]; omega
theorem index8 (s : St) (k : Nat) (h : k < 8) (w : World) : (Instr.index 115 (.agg (stC s)) (.int .i64 (k : Int))).run Tryz.prog w = .ok (.int .u32 (stF s k : Nat)) w := by
  have hk : k = 0 ∨ k = 1 ∨ k = 2 ∨ k = 3 ∨ k = 4 ∨ k = 5 ∨ k = 6 ∨ k = 7 := by omega
  rcases hk with rfl | rfl | rfl | rfl | rfl | rfl | rfl | rfl
  all_goals (show _ = _; kernel_rfl)
theorem hmake (c : Nat) (hc : c ≤ 100000000000000) (w : World) : (Instr.makeSlice 69 (.int .i64 0) (.int .i64 (c : Int))).run Tryz.prog w = .ok (.slice (some ⟨w.heap.size, 0, none⟩) 0 c) (w.alloc (.cells (madeCells #[.int .u8 0] c) 5)) := by
  obtain ⟨i0, hi, hz0, hz1, hz2⟩ := info_parts Tryz.hinfo5
  have := run_make (P := Tryz.prog) w 69 5 i0 (.int .u8 0) Tryz.hund69 hi hz0 .i64 .i64 0 c (by omega) (by omega) (by rw [hz2]; omega) (by omega)
  rw [this, hz1]
  simp [Value.cells]
theorem hmake32 (w : World) : (Instr.makeSlice 69 (.int .i64 0) (.int .i64 32)).run Tryz.prog w = .ok (.slice (some ⟨w.heap.size, 0, none⟩) 0 32) (w.alloc (.cells (madeCells #[.int .u8 0] 32) 5)) := hmake 32 (by omega) w
theorem hmake_own (c : Nat) (hc : c ≤ 100000000000000) (w : World) (base : Nat) (hb : base ≤ w.heap.size) : (w.alloc (.cells (madeCells #[.int .u8 0] c) 5)).ownsRow base 5 1 (.slice (some ⟨w.heap.size, 0, none⟩) 0 c) 0 (bvals []) :=
  World.ownsRow_made w _ c hb (by unfold maxLen; omega) (by rw [size_madeCells]; omega)
theorem w4_vals (x : Nat) : bvals (w4 x) = [.int .u8 ((x : Int) / 16777216 % 256), .int .u8 ((x : Int) / 65536 % 256), .int .u8 ((x : Int) / 256 % 256), .int .u8 ((x : Int) % 256)] := by
  simp [bvals, w4]
/-- What the loop of text knows. -/
def HTextR (s : St) (base : Nat) (w : World) (v i : Value) (wr : World) : Prop :=
  ∃ k : Nat, k ≤ 8 ∧ i = .int .i64 k ∧ wr.ownsRow base 5 1 v (4 * k) (bvals (outK s k)) ∧ base ≤ wr.heap.size ∧ Below base w wr
theorem text_start (s : St) (w : World) : HTextR s w.heap.size w (.slice (some ⟨w.heap.size + 1, 0, none⟩) 0 32) (.int .i64 0) ((w.alloc (.cells (stC s) 115)).alloc (.cells (madeCells #[.int .u8 0] 32) 5)) := by
  refine ⟨0, by omega, rfl, ?_, by simp; omega, ((Below.refl _ _).alloc (Nat.le_refl _) _).alloc (by simp) _⟩
  have := hmake_own 32 (by omega) (w.alloc (.cells (stC s) 115)) w.heap.size (by simp)
  have e : (w.alloc (.cells (stC s) 115)).heap.size = w.heap.size + 1 := by simp
  rw [e] at this
  exact this
/-- What text gives. -/
def TextP (s : St) (w : World) (e : Ending) (w' : World) : Prop := e = .returned (.string ⟨(outS s).toArray⟩) ∧ Below w.heap.size w w'

set_option maxHeartbeats 1000000 in
set_option maxRecDepth 100000 in
theorem text_any (s : St) (w : World) :
    Calls Tryz.prog 95 #[.agg (stC s)] w fun e w' => TextP s w e w' := by
  obtain ⟨G, hG⟩ : ∃ G, G = w.heap.size := ⟨_, rfl⟩
  have HG := Lib.hid hG
  have hmk := hmake32
  have hld := run_loadAt_new (P := Tryz.prog) w 115 (stC s) 8 103 Tryz.und115a (stC_siz s)
  go_enter Tryz.func95, Tryz.ntmps95
  go_wp2_with (refine wpList_load_row rfl 115 _ rfl w.heap.size rfl 115 (stC s) (0, 0) _ ((blk_alloc_lt _ _ _ (by simp)).trans (blk_alloc_new _ _)) Tryz.und115a rfl (stC_siz _) ?_)
  have hS := text_start s w
  have HS := Lib.hid hS
  clear hS hld hmk hG HG
  obtain ⟨i0, hi, hz0, hz1, hz2⟩ := info_parts Tryz.hinfo5
  go_loopw [3, 8] (fun v i wr => HTextR s w.heap.size w v i wr) (fun _ i _ => 8 - (intOf i).toNat)
  case atStart => exact HS.out
  case round =>
    clear HS
    obtain ⟨k, hk, rfl, hown, hbs, hbel⟩ := hrel
    by_cases hlt : k < 8
    · have hix := index8 s k hlt
      obtain ⟨x, hx⟩ : ∃ x, x = stF s k := ⟨_, rfl⟩
      rw [← hx] at hix
      have HX := Lib.hid hx
      clear hx
      go_wp2_with (at_builtin; refine wpList_append_own _ rfl _ _ 69 rfl w.heap.size 5 i0 (.int .u8 0) 1 1 Tryz.hund69 hi hz0 hz1 hz2 rfl (by decide) _ _ _ rfl (hown.alloc _) ⟨wr.heap.size, 0, none⟩ 4 4 (bvals (w4 x)) rfl rfl ?c1 ?c2 ?c3 ?c4 ?c5 ?_)
      case c1 => rw [w4_vals]; exact new_cells _ _ _
      case c2 => exact bvals_one _
      case c3 => unfold maxLen; omega
      case c4 => omega
      case c5 => simp; omega
      intro v' w5 hown5 hgrow _
      have hb5 : Below w.heap.size w w5 := (hbel.alloc hbs _).grown hgrow (by simp; omega) (fun z hz => hown_ge hown _ hz)
      rw [← bvals_append, HX.out, show outK s k ++ w4 (stF s k) = outK s (k + 1) from rfl, show 4 * k + 4 = 4 * (k + 1) by omega] at hown5
      have HO := Lib.hid hown5
      have hs5 := Nat.le_trans hbs (Nat.le_trans (by simp : wr.heap.size ≤ _) hgrow.size)
      clear hown5 hgrow hown hix
      go_wp2
      go_roundw
      case rel => exact ⟨k + 1, by omega, by go_num, HO.out, hs5, hb5⟩
      case measure => simp [intOf]; omega
    · obtain rfl : k = 8 := by omega
      have hcv := own_string hown
      rw [outK_all] at hcv
      clear hown
      go_wp2
      go_ret
      exact ⟨rfl, hbel⟩
end Go.Proofs.YtehbbghobagkjaaGreatDoor
