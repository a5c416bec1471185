/-
  Contracts of package hash, the fourth part: absorb.
-/
import Derived.Test.YtehbbghobagkjaaGreatDoorHash3
import Derived.Deep.RegionHeld3
namespace Go.Proofs.YtehbbghobagkjaaGreatDoor
open Go.RowKit Go.Deep
set_option linter.unusedVariables false

/-- What lies in memory while absorb works on a block. -/
def AbsS (t : St) (G B : Nat) (w wr : World) : Prop :=
  wr.heap[G]? = some (.cells (stC t) 115 (0, 0)) ∧ wr.heap[G + 1]? = some (.cells zeros8 115 (0, 0)) ∧ wr.heap[B]? = some (.cells (stC t) 115 (0, 0)) ∧ G + 1 < B ∧ B < wr.heap.size ∧ Below G w wr
theorem AbsS.keep {t : St} {G B : Nat} {w wr w' : World} (h : AbsS t G B w wr) (b : Below wr.heap.size wr w') : AbsS t G B w w' := by
  obtain ⟨h1, h2, h3, h4, h5, h6⟩ := h
  refine ⟨?_, ?_, ?_, h4, Nat.lt_of_lt_of_le h5 b.size, h6.trans (b.mono (by omega))⟩
  · rw [b.block _ (by omega)]; exact h1
  · rw [b.block _ (by omega)]; exact h2
  · rw [b.block _ (by omega)]; exact h3
theorem AbsS.keep2 {t : St} {G B : Nat} {w wr w' : World} (b : Below wr.heap.size wr w') (h : AbsS t G B w wr) : AbsS t G B w w' := h.keep b
theorem AbsS.drew {t : St} {G B : Nat} {w wr : World} (h : AbsS t G B w wr) : AbsS t G B w wr.drew := ⟨h.1, h.2.1, h.2.2.1, h.2.2.2.1, h.2.2.2.2.1, h.2.2.2.2.2.drew⟩
theorem AbsS.store {t t' : St} {G B : Nat} {w wr : World} (h : AbsS t G B w wr) : (Instr.storeAt 115 (.pointer (some ⟨G, 0, none⟩)) (.agg (stC t'))).run Tryz.prog wr = .ok () (wr.setRow G (stC t')) := by
  simp only [Instr.storeAt, Instr.sureAddr, Sem.run_bind, Sem.run_pure, Result.andThen_ok]
  exact run_storeVar_row _ _ _ _ _ _ h.1 (stC_siz t') rfl (stC_one t')

theorem absS_start {t : St} {G B : Nat} {w wr : World} (hB : B = wr.heap.size) (h1 : wr.heap[G]? = some (.cells (stC t) 115 (0, 0))) (h2 : wr.heap[G + 1]? = some (.cells zeros8 115 (0, 0))) (hb : Below G w wr) : AbsS t G B w (wr.alloc (.cells (stC t) 115)) := by
  subst hB
  obtain ⟨l1, -⟩ := Array.getElem?_eq_some_iff.1 h1
  obtain ⟨l2, -⟩ := Array.getElem?_eq_some_iff.1 h2
  exact ⟨by rw [blk_alloc_lt _ _ _ l1]; exact h1, by rw [blk_alloc_lt _ _ _ l2]; exact h2, blk_alloc_new _ _, l2, by simp, hb.alloc (Nat.le_of_lt l1) _⟩
theorem slice_of (b : ByteArray) (i : Nat) (h : i + 64 ≤ b.size) : (b.extract i (i + 64)).data.toList = (b.data.toList.drop i).take 64 := by
  simp [ByteArray.data_extract]
theorem slice_size (b : ByteArray) (i : Nat) (h : i + 64 ≤ b.size) : (b.extract i (i + 64)).size = 64 := by
  simp; omega
theorem absS_heap {t : St} {G B : Nat} {w wr : World} {X : Prop} (h : AbsS t G B w wr ∧ X) : wr.heap[G]? = some (.cells (stC t) 115 (0, 0)) := h.1.1
theorem AbsS.cellsTo {t t' : St} {G B : Nat} {w wr : World} (h : AbsS t G B w wr) : (storeCells ⟨G, 0, none⟩ (stC t').toList).run Tryz.prog wr = .ok () (wr.setRow G (stC t')) := by
  have := h.store (t' := t')
  simp only [Instr.storeAt, Instr.sureAddr, Sem.run_bind, Sem.run_pure, Result.andThen_ok] at this
  cases hq : Tryz.prog.info? 115 with
  | none => have := stC_siz t'; rw [hq] at this; simp at this
  | some i =>
    have hs : (stC t').size = i.size := by have := stC_siz t'; rw [hq] at this; simp at this; omega
    simpa [storeVar, sizeOf, typeInfo, hq, Value.cells, hs] using this
theorem bnext' {w a b : World} (h : Below w.heap.size w a) (k : Below a.heap.size a b) : Below w.heap.size w b := h.trans (k.mono h.size)
/-- The cells besides. -/
def AbsC (t : St) (G : Nat) (wr : World) : Prop :=
  wr.cell? ⟨G, 0, none⟩ = some (.int .u32 (t.a : Nat)) ∧ wr.cell? ⟨G, 1, none⟩ = some (.int .u32 (t.b : Nat)) ∧ wr.cell? ⟨G, 2, none⟩ = some (.int .u32 (t.c : Nat)) ∧ wr.cell? ⟨G, 3, none⟩ = some (.int .u32 (t.d : Nat)) ∧ wr.cell? ⟨G, 4, none⟩ = some (.int .u32 (t.e : Nat)) ∧ wr.cell? ⟨G, 5, none⟩ = some (.int .u32 (t.f : Nat)) ∧ wr.cell? ⟨G, 6, none⟩ = some (.int .u32 (t.g : Nat)) ∧ wr.cell? ⟨G, 7, none⟩ = some (.int .u32 (t.h : Nat))
theorem AbsS.all {t : St} {G B : Nat} {w wr : World} (h : AbsS t G B w wr) : AbsS t G B w wr ∧ wr.cell? ⟨G, 0, none⟩ = some (.int .u32 (t.a : Nat)) ∧ wr.cell? ⟨G, 1, none⟩ = some (.int .u32 (t.b : Nat)) ∧ wr.cell? ⟨G, 2, none⟩ = some (.int .u32 (t.c : Nat)) ∧ wr.cell? ⟨G, 3, none⟩ = some (.int .u32 (t.d : Nat)) ∧ wr.cell? ⟨G, 4, none⟩ = some (.int .u32 (t.e : Nat)) ∧ wr.cell? ⟨G, 5, none⟩ = some (.int .u32 (t.f : Nat)) ∧ wr.cell? ⟨G, 6, none⟩ = some (.int .u32 (t.g : Nat)) ∧ wr.cell? ⟨G, 7, none⟩ = some (.int .u32 (t.h : Nat)) :=
  ⟨h, cell_of_row _ _ _ _ _ _ h.1, cell_of_row _ _ _ _ _ _ h.1, cell_of_row _ _ _ _ _ _ h.1, cell_of_row _ _ _ _ _ _ h.1, cell_of_row _ _ _ _ _ _ h.1, cell_of_row _ _ _ _ _ _ h.1, cell_of_row _ _ _ _ _ _ h.1, cell_of_row _ _ _ _ _ _ h.1⟩
theorem AbsS.ofAll {t : St} {G B : Nat} {w wr : World} (h : AbsS t G B w wr ∧ wr.cell? ⟨G, 0, none⟩ = some (.int .u32 (t.a : Nat)) ∧ wr.cell? ⟨G, 1, none⟩ = some (.int .u32 (t.b : Nat)) ∧ wr.cell? ⟨G, 2, none⟩ = some (.int .u32 (t.c : Nat)) ∧ wr.cell? ⟨G, 3, none⟩ = some (.int .u32 (t.d : Nat)) ∧ wr.cell? ⟨G, 4, none⟩ = some (.int .u32 (t.e : Nat)) ∧ wr.cell? ⟨G, 5, none⟩ = some (.int .u32 (t.f : Nat)) ∧ wr.cell? ⟨G, 6, none⟩ = some (.int .u32 (t.g : Nat)) ∧ wr.cell? ⟨G, 7, none⟩ = some (.int .u32 (t.h : Nat))) : AbsS t G B w wr := h.1
/-- The words of a state. -/
def stF (s : St) : Nat → Nat
  | 0 => s.a
  | 1 => s.b
  | 2 => s.c
  | 3 => s.d
  | 4 => s.e
  | 5 => s.f
  | 6 => s.g
  | _ => s.h
theorem stC_get (t : St) (q : Nat) (h : q < 8) : (stC t)[q]? = some (.int .u32 (stF t q : Nat)) := by
  match q, h with
  | 0, _ => rfl
  | 1, _ => rfl
  | 2, _ => rfl
  | 3, _ => rfl
  | 4, _ => rfl
  | 5, _ => rfl
  | 6, _ => rfl
  | 7, _ => rfl
/-- The first q words of s added to those of r. -/
def mixF (r s : St) (q i : Nat) : Nat := if i < q then pl (stF r i) (stF s i) else stF r i
theorem mixF_at (r s : St) (q : Nat) : mixF r s q q = stF r q := by unfold mixF; rw [if_neg (by omega)]
theorem mix_row {w : World} {g : Nat} {ty : TypeId} {r s : St} {q : Nat} (h : w.rowIs g ty 8 (rowF (mixF r s q))) :
    (w.setCell ⟨g, q, none⟩ (.int .u32 ((pl (stF r q) (stF s q) : Nat) : Int))).rowIs g ty 8 (rowF (mixF r s (q + 1))) := by
  refine (h.set q _).congr fun i hi => ?_
  by_cases e : i = q
  · rw [if_pos e, e]; show _ = Value.int .u32 ((mixF r s (q + 1) q : Nat) : Int); unfold mixF; rw [if_pos (by omega)]
  · rw [if_neg e]; show Value.int .u32 ((mixF r s q i : Nat) : Int) = Value.int .u32 ((mixF r s (q + 1) i : Nat) : Int); unfold mixF
    by_cases e2 : i < q
    · rw [if_pos e2, if_pos (by omega)]
    · rw [if_neg e2, if_neg (by omega)]
theorem mix_done (r s : St) : rowC 8 (mixF r s 8) = stC (addS r s) := rfl
theorem absb_step {s t t2 : St} {b : ByteArray} {k i j : Nat} (ht : t = absb k s b.data.toList) (hi : i = 64 * k) (hs : (b.extract i j).data.toList = (b.data.toList.drop i).take 64) (h2 : t2 = after (sB (b.extract i j)) t) (hj : i + 64 = j) :
    absb (k + 1) s b.data.toList = addS t2 t := by
  rw [absb, ← ht, ← hi, ← hs, h2]; rfl
/-- What the inner loop knows. -/
def AbsQ (r t : St) (G B : Nat) (w : World) (v : Value) (wr : World) : Prop :=
  ∃ q : Nat, q ≤ 8 ∧ v = .int .i64 q ∧ wr.rowIs G 115 8 (rowF (mixF r t q)) ∧ wr.heap[G + 1]? = some (.cells zeros8 115 (0, 0)) ∧ wr.heap[B]? = some (.cells (stC t) 115 (0, 0)) ∧ G + 1 < B ∧ Below G w wr
theorem absQ_start {t2 t : St} {G B : Nat} {w wr : World} (h : AbsS t G B w wr) : AbsQ t2 t G B w (.int .i64 0) (wr.setRow G (stC t2)) := by
  obtain ⟨h1, h2, h3, h4, h5, h6⟩ := h
  refine ⟨0, by omega, rfl, ⟨stC t2, heap_setRow_self h1, rfl, fun i hi => ?_⟩, ?_, ?_, h4, below_setRow h6 (Nat.le_refl _) _⟩
  · rw [stC_get t2 i hi]; show _ = some (Value.int .u32 ((mixF t2 t 0 i : Nat) : Int)); unfold mixF; rw [if_neg (by omega)]
  · rw [setRow_other _ _ _ _ (by omega)]; exact h2
  · rw [setRow_other _ _ _ _ (by omega)]; exact h3
/-- What its loop knows. -/
def AbsR (s : St) (b : ByteArray) (n G : Nat) (w : World) (v : Value) (wr : World) : Prop :=
  ∃ k i : Nat, k ≤ n ∧ i = 64 * k ∧ v = .int .i64 i ∧ wr.heap[G]? = some (.cells (stC (absb k s b.data.toList)) 115 (0, 0)) ∧ wr.heap[G + 1]? = some (.cells zeros8 115 (0, 0)) ∧ Below G w wr
theorem absR_start (s : St) (b : ByteArray) (n : Nat) (w : World) : AbsR s b n w.heap.size w (.int .i64 0) ((w.alloc (.cells (stC s) 115)).alloc (.cells zeros8 115)) := by
  refine ⟨0, 0, by omega, rfl, rfl, ?_, ?_, ((Below.refl _ _).alloc (Nat.le_refl _) _).alloc (by simp) _⟩
  · rw [blk_alloc_lt _ _ _ (by simp), blk_alloc_new]; rfl
  · rw [show w.heap.size + 1 = (w.alloc (.cells (stC s) 115)).heap.size by simp]; exact blk_alloc_new _ _
/-- What absorb gives. -/
def AbsP (s : St) (b : ByteArray) (n : Nat) (w : World) (e : Ending) (w' : World) : Prop :=
  e = .returned (.agg (stC (absb n s b.data.toList))) ∧ Below w.heap.size w w'

set_option maxHeartbeats 1000000 in
set_option maxRecDepth 100000 in
theorem absorb_any (s : St) (b : ByteArray) (n : Nat) (w : World) (hb : b.size = 64 * n) (hn : b.size ≤ 1099511627776) :
    Calls Tryz.prog 96 #[.agg (stC s), .string b] w fun e w' => AbsP s b n w e w' := by
  have HB := Lib.hid hb; clear hb
  obtain ⟨G, hG⟩ : ∃ G, G = w.heap.size := ⟨_, rfl⟩
  have h0 := absR_start s b n w
  rw [← hG] at h0
  have H0 := Lib.hid h0
  clear h0
  go_enter Tryz.func96, Tryz.ntmps96
  go_wp2
  rw [← hG]
  have HG := Lib.hid hG
  clear hG
  go_loopw [5] (fun v wr => AbsR s b n G w v wr) (fun v _ => b.size - (intOf v).toNat)
  case atStart => exact H0.out
  case round =>
    clear H0
    obtain ⟨k, i, hk, hi, rfl, h1, h2, hbel⟩ := hrel
    by_cases hlt : k < n
    · obtain ⟨t, ht⟩ : ∃ t, t = absb k s b.data.toList := ⟨_, rfl⟩
      rw [← ht] at h1
      have hib : i + 64 ≤ b.size := by rw [HB.out]; omega
      have hib2 : i < b.size := by omega
      have H1 := Lib.hid h1
      have H2 := Lib.hid h2
      have HI := Lib.hid hi
      have HT := Lib.hid ht
      clear h1 h2 hi ht
      go_wp2_with (first | (refine wpList_load_row rfl 115 _ rfl G rfl 115 _ _ _ H1.out Tryz.und115a rfl (stC_siz _) ?_) | (refine wpList_store_fresh rfl 115 _ _ rfl (stC t) rfl rfl 115 _ (stC_siz t) rfl (stC_one t) ?_))
      obtain ⟨B, hB⟩ : ∃ B, B = wr.heap.size := ⟨_, rfl⟩
      have hS : AbsS t G B w (wr.alloc (.cells (stC t) 115)) := absS_start hB H1.out H2.out hbel
      rw [← hB]
      have HS := Lib.hid hS
      clear hS hB hbel H1 H2
      refine gen_world (p := fun W => Code.wp _ _ _ _ W) (AbsS t G B w) HS.out ?_
      clear HS
      intro w2 hS
      obtain ⟨j, hj⟩ : ∃ j, i + 64 = j := ⟨_, rfl⟩
      have hslice := slice_of b i hib
      have hsz := slice_size b i hib
      rw [hj] at hslice hsz hib
      have i1 : (0 : Int) ≤ (i : Int) := by omega
      have i2 : (i : Int) ≤ (j : Int) := by omega
      have i3 : (j : Int) ≤ (b.size : Int) := by omega
      have i4 : IntKind.i64.wrap ((i : Int) + 64) = (j : Int) := by rw [IntWalk.i64_in _ (by omega)]; omega
      have HJ := Lib.hid hj
      clear hj
      have HSL := Lib.hid hslice
      have HSZ := Lib.hid hsz
      clear hslice hsz
      obtain ⟨t2, ht2⟩ : ∃ t2, t2 = after (sB (b.extract i j)) t := ⟨_, rfl⟩
      have HT2 := Lib.hid ht2
      clear ht2
      have hW := fun w' (h : AbsS t G B w w') => h.cellsTo (t' := after (sB (b.extract i j)) t)
      obtain ⟨-, c0, c1, c2, c3, c4, c5, c6, c7⟩ := hS.all
      go_region_with (first
        | (go_at_call 102; refine (schedule_any _ _ HSZ.out).mono ?_; rintro e w3 ⟨rfl, b3⟩; obtain ⟨hS3, d0, d1, d2, d3, d4, d5, d6, d7⟩ := ((hS.drew).keep b3).all; clear b3)
        | (go_at_call 101; refine (rounds_any t _ _).mono ?_; rintro e w4 ⟨rfl, b4⟩; obtain hS4 := hS3.keep b4; clear b4))
      all_goals
        have hQ := absQ_start (t2 := after (sB (b.extract i j)) t) hS4
        rw [← HT2.out] at hQ ⊢
        have HQ := Lib.hid hQ
        clear hQ hS4 hS3 hS hW c0 c1 c2 c3 c4 c5 c6 c7 d0 d1 d2 d3 d4 d5 d6 d7 i1 i2 i3 i4
        refine gen_world (p := fun W => Exit.then _ _ _ _ W) (fun W => AbsQ t2 t G B w (.int .i64 0) W) HQ.out ?_
        clear HQ
        intro w5 hQ
        have HQ := Lib.hid hQ
        clear hQ
        go_wp2
        go_loopw [23] (fun v wx => AbsQ t2 t G B w v wx) (fun v _ => 8 - (intOf v).toNat)
        case atStart => exact HQ.out
        case round =>
          clear HQ
          obtain ⟨q, hq, rfl, hrow, hz, hB, hlt', hbel⟩ := hrel
          by_cases hq8 : q < 8
          · have e1 := hrow.cell (i := q) hq8
            have e2 : wr.cell? ⟨B, q, none⟩ = some (.int .u32 (stF t q : Nat)) := by rw [cell_of_row _ _ _ _ _ _ hB]; exact stC_get t q hq8
            have e3 := hrow.frozen q
            dsimp only [rowF] at e1
            rw [mixF_at t2 t q] at e1
            have hst := mix_row hrow (q := q)
            obtain ⟨x, hx⟩ : ∃ x, x = stF t2 q := ⟨_, rfl⟩
            obtain ⟨y, hy⟩ : ∃ y, y = stF t q := ⟨_, rfl⟩
            rw [← hx] at e1 hst
            rw [← hy] at e2 hst
            have hA := b_add
            have HST := Lib.hid hst
            have HR := Lib.hid hrow
            have HBB := Lib.hid hB
            have HZ := Lib.hid hz
            clear hst hrow hx hy hB hz
            go_wp2
            go_region
            go_wp2
            go_roundw
            case rel => exact ⟨q + 1, by omega, by go_num, HST.out.drew, (blk_setCell_other _ _ _ _ (by simp)).trans HZ.out, (blk_setCell_other _ _ _ _ (by simp; omega)).trans HBB.out, hlt', (hbel.setCell (Nat.le_refl _) _).drew⟩
            case measure => simp [intOf]; omega
          · obtain rfl : q = 8 := by omega
            obtain ⟨c, hc, hce⟩ := rowIs_row hrow
            rw [hce, mix_done] at hc
            have HC := Lib.hid hc
            have HZ := Lib.hid hz
            clear hc hce hrow hB hz hq hq8
            go_wp2
            go_roundw
            case rel =>
              refine ⟨k + 1, j, by omega, by rw [← HJ.out, HI.out]; omega, by rw [← HJ.out]; go_num, ?_, HZ.out, hbel⟩
              rw [HC.out, absb_step HT.out HI.out HSL.out HT2.out HJ.out]
            case measure => simp [intOf]; omega
    · obtain rfl : k = n := by omega
      have hib : b.size ≤ i := by rw [HB.out, hi]; exact Nat.le_refl _
      have hib2 : ¬ i < b.size := by omega
      have H1 := Lib.hid h1
      have H2 := Lib.hid h2
      clear h1 h2 hlt hk hi
      go_wp2_with (first | (refine wpList_load_row rfl 115 _ rfl G rfl 115 _ _ _ H1.out Tryz.und115a rfl (stC_siz _) ?_) | (refine wpList_store_row rfl 115 _ _ rfl (G + 1) (stC (absb k s b.data.toList)) rfl rfl 115 _ H2.out (stC_siz _) rfl (stC_one _) ?_))
      refine bodyPost_ret (v := .agg (stC (absb k s b.data.toList))) (results_cell_row rfl _ _ (G + 1) 115 _ (0, 0) _ rfl (heap_setRow_self H2.out) Tryz.und115a rfl (stC_siz _)) rfl ?_
      exact ⟨rfl, by rw [← HG.out]; exact below_setRow hbel (by omega) _⟩
end Go.Proofs.YtehbbghobagkjaaGreatDoor
