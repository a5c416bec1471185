/-
  Contracts of package hash, the third part: rounds.
-/
import Derived.Test.YtehbbghobagkjaaGreatDoorHash2
namespace Go.Proofs.YtehbbghobagkjaaGreatDoor
open Go.RowKit Go.Deep
set_option linter.unusedVariables false

def zeros8 : Array Value := #[.int .u32 0, .int .u32 0, .int .u32 0, .int .u32 0, .int .u32 0, .int .u32 0, .int .u32 0, .int .u32 0]
/-- What lies in memory while rounds runs. -/
def RoundS (s : St) (f : Nat → Nat) (g k : Nat) (w wr : World) : Prop :=
  wr.heap[g]? = some (.cells (stC s) 115 (0, 0)) ∧ wr.heap[g + 1]? = some (.cells (rowC 64 f) 121 (0, 0)) ∧ wr.heap[g + 1 + 1]? = some (.cells zeros8 115 (0, 0)) ∧ wr.heap[k]? = some (.cells kRow 121 (0, 0)) ∧ Below g w wr
theorem roundS_start (s : St) (f : Nat → Nat) (w w1 : World) (h : Below (((w.alloc (.cells (stC s) 115)).alloc (.cells (rowC 64 f) 121)).alloc (.cells zeros8 115)).heap.size (((w.alloc (.cells (stC s) 115)).alloc (.cells (rowC 64 f) 121)).alloc (.cells zeros8 115)) w1) :
    RoundS s f w.heap.size w1.heap.size w (w1.alloc (.cells kRow 121)) := by
  have hz := h.size
  simp at hz
  have b := h.block
  simp at b
  refine ⟨?_, ?_, ?_, blk_alloc_new _ _, ?_⟩
  · rw [blk_alloc_lt _ _ _ (by omega), b _ (by omega)]
    rw [blk_alloc_lt _ _ _ (by simp; omega), blk_alloc_lt _ _ _ (by simp), blk_alloc_new]
  · rw [blk_alloc_lt _ _ _ (by omega), b _ (by omega)]
    rw [blk_alloc_lt _ _ _ (by simp)]; rw [show w.heap.size + 1 = (w.alloc (.cells (stC s) 115)).heap.size by simp]; exact blk_alloc_new _ _
  · rw [blk_alloc_lt _ _ _ (by omega), b _ (by omega)]
    rw [show w.heap.size + 1 + 1 = ((w.alloc (.cells (stC s) 115)).alloc (.cells (rowC 64 f) 121)).heap.size by simp]; exact blk_alloc_new _ _
  · have h0 : Below w.heap.size w (((w.alloc (.cells (stC s) 115)).alloc (.cells (rowC 64 f) 121)).alloc (.cells zeros8 115)) :=
      (((Below.refl _ _).alloc (Nat.le_refl _) _).alloc (by simp) _).alloc (by simp; omega) _
    exact (h0.trans (h.mono (by simp; omega))).alloc (by omega) _
theorem RoundS.drewN {s : St} {f : Nat → Nat} {g k : Nat} {w wr : World} (h : RoundS s f g k w wr) (q : Nat) : RoundS s f g k w (wr.drewN q) :=
  ⟨h.1, h.2.1, h.2.2.1, h.2.2.2.1, below_drewN h.2.2.2.2 q⟩
/-- What its loop knows. -/
def RoundR (s : St) (f : Nat → Nat) (g k0 : Nat) (w : World) (va vb vc vd ve vf vg vh v : Value) (wr : World) : Prop :=
  ∃ (k : Nat) (t : St), k ≤ 64 ∧ t = rnds (fun i => kTab.getD i 0) f k s ∧ v = .int .i64 k ∧ va = .int .u32 (t.a : Nat) ∧ vb = .int .u32 (t.b : Nat) ∧ vc = .int .u32 (t.c : Nat) ∧ vd = .int .u32 (t.d : Nat) ∧ ve = .int .u32 (t.e : Nat) ∧ vf = .int .u32 (t.f : Nat) ∧ vg = .int .u32 (t.g : Nat) ∧ vh = .int .u32 (t.h : Nat) ∧ RoundS s f g k0 w wr
theorem roundR_start {s : St} {f : Nat → Nat} {g k0 : Nat} {w wr : World} (h : RoundS s f g k0 w wr) (p q : Nat) : RoundR s f g k0 w (.int .u32 (s.a : Nat)) (.int .u32 (s.b : Nat)) (.int .u32 (s.c : Nat)) (.int .u32 (s.d : Nat)) (.int .u32 (s.e : Nat)) (.int .u32 (s.f : Nat)) (.int .u32 (s.g : Nat)) (.int .u32 (s.h : Nat)) (.int .i64 0) ((wr.drewN p).drewN q) :=
  ⟨0, s, by omega, rfl, rfl, rfl, rfl, rfl, rfl, rfl, rfl, rfl, rfl, (h.drewN p).drewN q⟩
theorem stC_one (t : St) : (stC t).all (·.oneCell') = true := by
  rw [Array.all_eq_true_iff_forall_mem]
  intro v hv
  simp only [stC, List.mem_toArray, List.mem_cons, List.not_mem_nil, or_false] at hv
  rcases hv with rfl | rfl | rfl | rfl | rfl | rfl | rfl | rfl <;> rfl
theorem stC_siz (t : St) : (Tryz.prog.info? 115).map (·.size) = some (stC t).size := Tryz.siz115a
/-- The state behind all rounds. -/
def after (f : Nat → Nat) (s : St) : St := rnds (fun i => kTab.getD i 0) f 64 s
/-- What rounds gives. -/
def RoundP (s : St) (f : Nat → Nat) (w : World) (e : Ending) (w' : World) : Prop :=
  e = .returned (.agg (stC (after f s))) ∧ Below w.heap.size w w'

set_option maxHeartbeats 1000000 in
set_option maxRecDepth 100000 in
theorem rounds_any (s : St) (f : Nat → Nat) (w : World) :
    Calls Tryz.prog 101 #[.agg (stC s), .agg (rowC 64 f)] w fun e w' => RoundP s f w e w' := by
  obtain ⟨A, hA⟩ : ∃ A, A = rowC 64 f := ⟨_, rfl⟩
  rw [← hA]
  have HA := Lib.hid hA; clear hA
  go_enter Tryz.func101, Tryz.ntmps101
  go_wp2_with fail
  refine (constants_any _).mono ?_
  rintro e w1 ⟨rfl, b1⟩
  have hk1 : (Tryz.prog.info? 121).map (·.size) = some kRow.size := Tryz.siz121a
  go_wp2_with (refine wpList_store_fresh rfl 121 _ _ rfl kRow rfl rfl 121 _ hk1 (by kernel_rfl) kRow_one ?_)
  have hS := roundS_start s f w w1 (by rw [← HA.out]; exact b1)
  have HS := Lib.hid hS
  have HW : w.heap.size + 3 ≤ w1.heap.size := by have := b1.size; simp at this; omega
  clear b1 hS
  refine gen_world (p := fun W => Code.wp _ _ _ _ W) (RoundS s f w.heap.size w1.heap.size w) HS.out ?_
  clear HS HA
  intro w2 hS
  obtain ⟨G, hG⟩ : ∃ G, G = w.heap.size := ⟨_, rfl⟩
  obtain ⟨K, hK⟩ : ∃ K, K = w1.heap.size := ⟨_, rfl⟩
  rw [← hG, ← hK] at hS HW
  rw [← hG, ← hK]
  have HG := Lib.hid hG
  clear hG hK
  have c0 : w2.cell? ⟨G, 0, none⟩ = some (.int .u32 (s.a : Nat)) := cell_of_row _ _ _ _ _ _ hS.1
  have c1 : w2.cell? ⟨G, 1, none⟩ = some (.int .u32 (s.b : Nat)) := cell_of_row _ _ _ _ _ _ hS.1
  have c2 : w2.cell? ⟨G, 2, none⟩ = some (.int .u32 (s.c : Nat)) := cell_of_row _ _ _ _ _ _ hS.1
  have c3 : w2.cell? ⟨G, 3, none⟩ = some (.int .u32 (s.d : Nat)) := cell_of_row _ _ _ _ _ _ hS.1
  have c4 : w2.cell? ⟨G, 4, none⟩ = some (.int .u32 (s.e : Nat)) := cell_of_row _ _ _ _ _ _ hS.1
  have c5 : w2.cell? ⟨G, 5, none⟩ = some (.int .u32 (s.f : Nat)) := cell_of_row _ _ _ _ _ _ hS.1
  have c6 : w2.cell? ⟨G, 6, none⟩ = some (.int .u32 (s.g : Nat)) := cell_of_row _ _ _ _ _ _ hS.1
  have c7 : w2.cell? ⟨G, 7, none⟩ = some (.int .u32 (s.h : Nat)) := cell_of_row _ _ _ _ _ _ hS.1
  have HS := Lib.hid hS; clear hS
  go_quiet (fail)
  go_wp2
  go_quiet (fail)
  go_wp2
  clear c0 c1 c2 c3 c4 c5 c6 c7
  go_loopw [6, 7, 8, 9, 10, 11, 12, 13, 34] (fun va vb vc vd ve vf vg vh v wr => RoundR s f G K w va vb vc vd ve vf vg vh v wr) (fun _ _ _ _ _ _ _ _ v _ => 64 - (intOf v).toNat)
  case atStart => exact roundR_start HS.out _ _
  case round =>
    obtain ⟨k, t, hk, ht, rfl, rfl, rfl, rfl, rfl, rfl, rfl, rfl, rfl, hS⟩ := hrel
    have HT := Lib.hid ht; clear ht
    by_cases hlt : k < 64
    · have ck : wr.cell? ⟨K, k, none⟩ = some (.int .u32 (kTab.getD k 0 : Nat)) := by rw [cell_of_row _ _ _ _ _ _ hS.2.2.2.1]; exact kRow_get k hlt
      have cw : wr.cell? ⟨G + 1, k, none⟩ = some (.int .u32 (f k : Nat)) := by rw [cell_of_row _ _ _ _ _ _ hS.2.1]; exact rowC_get 64 f k hlt
      have HS2 := Lib.hid hS; clear hS HS
      obtain ⟨kk, hkk⟩ : ∃ kk, kk = kTab.getD k 0 := ⟨_, rfl⟩
      obtain ⟨ww, hww⟩ : ∃ ww, ww = f k := ⟨_, rfl⟩
      rw [← hkk] at ck
      rw [← hww] at cw
      have HK := Lib.hid hkk
      have HW2 := Lib.hid hww
      clear hkk hww
      have hX := b_xor
      have hA := b_add
      have hN := b_and
      have hO := b_not2
      go_wp2
      go_quiet ((go_at_call 109; exact q_left (right_z _ _ _ (by omega) (by omega))))
      go_wp2_with fail
      refine (right_z _ _ _ (by omega) (by omega)).mono ?_
      rintro e w' ⟨rfl, rfl⟩
      go_wp2_with fail
      refine (right_z _ _ _ (by omega) (by omega)).mono ?_
      rintro e w' ⟨rfl, rfl⟩
      go_wp2_with fail
      refine (right_z _ _ _ (by omega) (by omega)).mono ?_
      rintro e w' ⟨rfl, rfl⟩
      go_wp2
      go_roundw
      case rel =>
        refine ⟨k + 1, rnd kk ww t, by omega, by rw [rnds, HK.out, HW2.out, HT.out], by go_num, ?_, rfl, rfl, rfl, ?_, rfl, rfl, rfl, HS2.out.drewN _⟩
        · rfl
        · rfl
      case measure => simp [intOf]; omega
    · obtain rfl : k = 64 := by omega
      have HS2 := Lib.hid hS.2.2.1
      have HB := Lib.hid hS.2.2.2.2
      clear hS HS
      go_wp2_with (refine wpList_store_row rfl 115 _ _ rfl (G + 1 + 1) (stC t) rfl rfl 115 _ HS2.out (stC_siz t) rfl (stC_one t) ?_)
      refine bodyPost_ret (v := .agg (stC t)) (results_cell_row rfl _ _ (G + 1 + 1) 115 _ (0, 0) _ rfl (heap_setRow_self HS2.out) Tryz.und115a rfl (stC_siz t)) rfl ?_
      rw [HT.out]
      exact ⟨rfl, by rw [← HG.out]; exact below_setRow HB.out (by omega) _⟩
end Go.Proofs.YtehbbghobagkjaaGreatDoor
