/-
  Contracts of package hash, the second part: schedule.
-/
import Derived.Test.YtehbbghobagkjaaGreatDoorHash1
import Derived.Deep.OwnRows
import Derived.StillTailTactics
import Derived.RegionTactic
import Derived.Laws.CopyOwn
namespace Go.Proofs.YtehbbghobagkjaaGreatDoor
open Go.RowKit
set_option linter.unusedVariables false

/-- A row of n words. -/
abbrev rowF (f : Nat → Nat) : Nat → Value := fun j => .int .u32 (f j : Nat)
def zeros64 : Array Value := #[.int .u32 0, .int .u32 0, .int .u32 0, .int .u32 0, .int .u32 0, .int .u32 0, .int .u32 0, .int .u32 0, .int .u32 0, .int .u32 0, .int .u32 0, .int .u32 0, .int .u32 0, .int .u32 0, .int .u32 0, .int .u32 0, .int .u32 0, .int .u32 0, .int .u32 0, .int .u32 0, .int .u32 0, .int .u32 0, .int .u32 0, .int .u32 0, .int .u32 0, .int .u32 0, .int .u32 0, .int .u32 0, .int .u32 0, .int .u32 0, .int .u32 0, .int .u32 0, .int .u32 0, .int .u32 0, .int .u32 0, .int .u32 0, .int .u32 0, .int .u32 0, .int .u32 0, .int .u32 0, .int .u32 0, .int .u32 0, .int .u32 0, .int .u32 0, .int .u32 0, .int .u32 0, .int .u32 0, .int .u32 0, .int .u32 0, .int .u32 0, .int .u32 0, .int .u32 0, .int .u32 0, .int .u32 0, .int .u32 0, .int .u32 0, .int .u32 0, .int .u32 0, .int .u32 0, .int .u32 0, .int .u32 0, .int .u32 0, .int .u32 0, .int .u32 0]
theorem zeros64_get (i : Nat) (h : i < 64) : zeros64[i]? = some (Value.int .u32 ((0 : Nat) : Int)) := by
  rw [show zeros64 = (List.replicate 64 (Value.int .u32 0)).toArray from rfl, List.getElem?_toArray, List.getElem?_replicate, if_pos h]; rfl
theorem hget_eq (s : ByteArray) (i : Nat) (h : i < s.size) : s[i] = s.data.toList[i]'(by rw [Array.length_toList]; exact h) := by cases s; rfl
theorem hsize_eq (s : ByteArray) : s.data.toList.length = s.size := by rw [Array.length_toList]; rfl
theorem word_or (p c : Nat) (hp : p < 16777216) (hc : c < 256) : bits .or .u32 ((p : Int) * 256) (c : Int) = ((p * 256 + c : Nat) : Int) := by
  have e : ((p : Int) * 256) = ((p * 256 : Nat) : Int) := by simp
  rw [e, b_or]
  unfold og
  have h := Nat.shiftLeft_add_eq_or_of_lt (show c < 2 ^ 8 by omega) p
  rw [Nat.shiftLeft_eq] at h
  rw [show p * 256 = p * 2 ^ 8 from rfl, ← h, Nat.mod_eq_of_lt (by omega)]
theorem pw_row {w : World} {g : Nat} {t : TypeId} {l : List UInt8} {k j c : Nat} (h : w.rowIs g t 64 (rowF (pw l k))) (hk : k < l.length) (hj : k / 4 = j) (hc : (l[k]'hk).toNat = c) :
    (w.setCell ⟨g, j, none⟩ (.int .u32 ((pw l k j * 256 + c : Nat) : Int))).rowIs g t 64 (rowF (pw l (k + 1))) := by
  refine (h.set j _).congr fun i hi => ?_
  subst hj hc
  by_cases e : i = k / 4
  · rw [if_pos e, e, rowF, pw_at]
  · rw [if_neg e, rowF, rowF, pw_other _ _ _ hk e]

/-- What the first loop knows. -/
def SchedR (s : ByteArray) (w : World) (v : Value) (wr : World) : Prop :=
  ∃ k : Nat, k ≤ s.size ∧ v = .int .i64 k ∧ wr.rowIs (w.heap.size + 1) 121 64 (rowF (pw s.data.toList k)) ∧ wr.rowIs w.heap.size 121 64 (fun _ => .int .u32 0) ∧ Below w.heap.size w wr
theorem sched_start (s : ByteArray) (w : World) : SchedR s w (.int .i64 0) ((w.alloc (.cells zeros64 121)).alloc (.cells zeros64 121)) := by
  have h1 := World.rowIs_alloc (w.alloc (.cells zeros64 121)) zeros64 121 (fun _ => .int .u32 ((0 : Nat) : Int)) (fun i hi => zeros64_get i hi)
  have h2 := World.rowIs_alloc w zeros64 121 (fun _ => .int .u32 ((0 : Nat) : Int)) (fun i hi => zeros64_get i hi)
  have e : (w.alloc (.cells zeros64 121)).heap.size = w.heap.size + 1 := by simp
  rw [e] at h1
  refine ⟨0, by omega, rfl, ?_, h2.alloc _, ((Below.refl _ _).alloc (Nat.le_refl _) _).alloc (by simp) _⟩
  exact World.rowIs.congr (n := 64) h1 (fun i hi => by show _ = Value.int .u32 ((pw s.data.toList 0 i : Nat) : Int); rw [pw_zero])
theorem rowC_one (n : Nat) (f : Nat → Nat) : (rowC n f).all (·.oneCell') = true := by
  rw [Array.all_eq_true_iff_forall_mem]
  intro v hv
  simp only [rowC, List.mem_toArray, List.mem_map] at hv
  obtain ⟨i, _, rfl⟩ := hv
  rfl
theorem rowIs_row {w : World} {g n : Nat} {t : TypeId} {f : Nat → Nat} (h : w.rowIs g t n (rowF f)) : ∃ c, w.heap[g]? = some (.cells c t (0, 0)) ∧ c = rowC n f := by
  obtain ⟨c, hb, hn, hc⟩ := h
  refine ⟨c, hb, ?_⟩
  apply Array.ext_getElem?
  intro i
  by_cases h : i < n
  · rw [hc i h, rowC_get n f i h]
  · rw [Array.getElem?_eq_none (by omega), Array.getElem?_eq_none (by rw [rowC_size]; omega)]
theorem heap_setRow_self {w : World} {g : Nat} {t : TypeId} {c c' : Array Value} {fr : Nat × Nat} (h : w.heap[g]? = some (.cells c t fr)) : (w.setRow g c').heap[g]? = some (.cells c' t fr) := by
  simp [World.setRow, Array.getElem?_modify, h]
/-- What the second loop knows. -/
def SchedQ (s : ByteArray) (w : World) (v : Value) (wr : World) : Prop :=
  ∃ i : Nat, 16 ≤ i ∧ i ≤ 64 ∧ v = .int .i64 i ∧ wr.rowIs (w.heap.size + 1) 121 64 (rowF (gw s.data.toList (i - 16))) ∧ wr.rowIs w.heap.size 121 64 (fun _ => .int .u32 0) ∧ Below w.heap.size w wr
theorem gw_row {w : World} {g : Nat} {t : TypeId} {l : List UInt8} {i n : Nat} (h : w.rowIs g t 64 (rowF (gw l (i - 16)))) (hn : i = n + 16) :
    (w.setCell ⟨g, i, none⟩ (.int .u32 ((pl (pl (pl (gw l n n) (sig0 (gw l n (n + 1)))) (gw l n (n + 9))) (sig1 (gw l n (n + 14))) : Nat) : Int))).rowIs g t 64 (rowF (gw l (i + 1 - 16))) := by
  refine (h.set i _).congr fun j hj => ?_
  subst hn
  rw [show n + 16 - 16 = n by omega, show n + 16 + 1 - 16 = n + 1 by omega]
  by_cases e : j = n + 16
  · rw [if_pos e, e, rowF, gw_at]
  · rw [if_neg e, rowF, rowF, gw_other _ _ _ e]
/-- The words of a block. -/
def sB (b : ByteArray) : Nat → Nat := fun i => (sched b.data.toList).getD i 0
/-- What schedule gives. -/
def SchedP (s : ByteArray) (w : World) (e : Ending) (w' : World) : Prop :=
  e = .returned (.agg (rowC 64 (sB s))) ∧ Below w.heap.size w w'

set_option maxHeartbeats 1000000 in
set_option maxRecDepth 100000 in
theorem schedule_any (s : ByteArray) (w : World) (hs : s.size = 64) :
    Calls Tryz.prog 102 #[.string s] w fun e w' => SchedP s w e w' := by
  have h64 : (s.size : Int) ≤ 64 := by omega
  have HS := Lib.hid hs; clear hs
  go_enter Tryz.func102, Tryz.ntmps102
  go_wp2
  go_loopw [12] (fun v wr => SchedR s w v wr) (fun v _ => s.size - (intOf v).toNat)
  case atStart => exact sched_start s w
  case round =>
    obtain ⟨k, hk, rfl, hrow, hres, hbel⟩ := hrel
    by_cases hlt : k < s.size
    · obtain ⟨j, hj⟩ : ∃ j, k / 4 = j := ⟨_, rfl⟩
      have hj16 : j < 16 := by have := HS.out; omega
      have hcell := hrow.cell (i := j) (by omega)
      have hfr := hrow.frozen j
      have hp : pw s.data.toList k j < 16777216 := by rw [← hj]; exact pw_lt _ _
      have hl : k < s.data.toList.length := by rw [hsize_eq]; exact hlt
      have hst := pw_row hrow hl hj rfl
      rw [← hget_eq s k hlt] at hst
      have hc := (s[k]'hlt).toNat_lt
      have hor := word_or _ _ hp hc
      obtain ⟨p, hpe⟩ : ∃ p, p = pw s.data.toList k j := ⟨_, rfl⟩
      dsimp only [rowF] at hcell
      rw [← hpe] at hcell hp hst hor
      have HST := Lib.hid hst; clear hst hpe
      have HR := Lib.hid hrow; clear hrow
      have hji : (k : Int) / 4 = (j : Int) := by omega
      have HJ := Lib.hid hj; clear hj
      go_wp2
      go_region
      go_wp2
      go_roundw
      case rel =>
        have e := HST.out
        have e2 : ((p * 256 + (s[k]'hlt).toNat : Nat) : Int) = (p : Int) * 256 + ((s[k]'hlt).toNat : Int) := by simp
        rw [e2] at e
        exact ⟨k + 1, by omega, by go_num, e.drew, (hres.setOther (by simp) _).drew, (hbel.setCell (by simp) _).drew⟩
      case measure => simp [intOf]; omega
    · have hk64 : k = 64 := by have := HS.out; omega
      have hrow2 := hrow.congr (fun i hi => by show Value.int .u32 ((pw s.data.toList k i : Nat) : Int) = Value.int .u32 ((gw s.data.toList 0 i : Nat) : Int); rw [hk64, pw_full _ (by rw [hsize_eq, HS.out]), gw_zero] : ∀ i, i < 64 → rowF (pw s.data.toList k) i = rowF (gw s.data.toList 0) i)
      have HR2 := Lib.hid hrow2; clear hrow hrow2
      have HR3 := Lib.hid hres; clear hres
      have HB := Lib.hid hbel; clear hbel hk64
      go_wp2
      go_loopw [5] (fun v wx => SchedQ s w v wx) (fun v _ => 64 - (intOf v).toNat)
      case atStart => exact ⟨16, by omega, by omega, rfl, HR2.out, HR3.out, HB.out⟩
      case round =>
        clear HR2 HR3 HB hk hlt
        obtain ⟨i, h16, hi, rfl, hrow, hres, hbel⟩ := hrel
        by_cases hlt : i < 64
        · obtain ⟨n, hn⟩ : ∃ n, i = n + 16 := ⟨i - 16, by omega⟩
          have c1 := hrow.cell (i := i - 15) (by omega)
          have c2 := hrow.cell (i := i - 2) (by omega)
          have c3 := hrow.cell (i := i - 16) (by omega)
          have c4 := hrow.cell (i := i - 7) (by omega)
          have hfr := hrow.frozen i
          have c5 := hrow.cell (i := i) (by omega)
          dsimp only [rowF] at c5
          have hst := gw_row hrow hn
          dsimp only [rowF] at c1 c2 c3 c4
          rw [show i - 16 = n by omega] at c1 c2 c3 c4
          obtain ⟨a1, e1⟩ : ∃ a, i - 15 = a := ⟨_, rfl⟩
          obtain ⟨a2, e2⟩ : ∃ a, i - 2 = a := ⟨_, rfl⟩
          obtain ⟨a3, e3⟩ : ∃ a, n = a := ⟨_, rfl⟩
          obtain ⟨a4, e4⟩ : ∃ a, i - 7 = a := ⟨_, rfl⟩
          rw [show n + 1 = a1 by omega, show n + 14 = a2 by omega, show n + 9 = a4 by omega, e3] at hst
          rw [e1, e3] at c1
          rw [e2, e3] at c2
          rw [e3] at c3
          rw [e4, e3] at c4
          have w1 : IntKind.i64.wrap ((i : Int) - 15) = (a1 : Int) := by rw [IntWalk.i64_in _ (by omega)]; omega
          have w2 : IntKind.i64.wrap ((i : Int) - 2) = (a2 : Int) := by rw [IntWalk.i64_in _ (by omega)]; omega
          have w3 : (i : Int) - 16 = (a3 : Int) := by omega
          have w4 : (i : Int) - 7 = (a4 : Int) := by omega
          have b1 : a1 < 64 := by omega
          have b2 : a2 < 64 := by omega
          have b3 : a3 < 64 := by omega
          have b4 : a4 < 64 := by omega
          obtain ⟨x1, f1⟩ : ∃ x, x = gw s.data.toList a3 a1 := ⟨_, rfl⟩
          obtain ⟨x2, f2⟩ : ∃ x, x = gw s.data.toList a3 a2 := ⟨_, rfl⟩
          obtain ⟨x3, f3⟩ : ∃ x, x = gw s.data.toList a3 a3 := ⟨_, rfl⟩
          obtain ⟨x4, f4⟩ : ∃ x, x = gw s.data.toList a3 a4 := ⟨_, rfl⟩
          rw [← f1] at c1
          rw [← f2] at c2
          rw [← f3] at c3
          rw [← f4] at c4
          rw [← f1, ← f2, ← f3, ← f4] at hst
          have HST := Lib.hid hst
          have HR2 := Lib.hid hrow
          clear hst hrow e1 e2 e3 e4 f1 f2 f3 f4 hn
          have hX := b_xor
          have hA := b_add
          obtain ⟨y1, g1⟩ : ∃ y, y = x1 / 8 := ⟨_, rfl⟩
          obtain ⟨y2, g2⟩ : ∃ y, y = x2 / 1024 := ⟨_, rfl⟩
          have d1 : (x1 : Int) / 8 = (y1 : Int) := by rw [g1]; simp
          have d2 : (x2 : Int) / 1024 = (y2 : Int) := by rw [g2]; simp
          have G1 := Lib.hid g1
          have G2 := Lib.hid g2
          clear g1 g2
          go_wp2
          go_quiet (fail)
          go_wp2_with fail
          refine (right_at x1 7 25 7 _ (by omega) rfl (by omega) rfl).mono ?_
          rintro e w' ⟨rfl, rfl⟩
          go_wp2_with fail
          refine (right_at x1 18 14 18 _ (by omega) rfl (by omega) rfl).mono ?_
          rintro e w' ⟨rfl, rfl⟩
          go_wp2_with fail
          refine (right_at x2 17 15 17 _ (by omega) rfl (by omega) rfl).mono ?_
          rintro e w' ⟨rfl, rfl⟩
          go_wp2_with fail
          refine (right_at x2 19 13 19 _ (by omega) rfl (by omega) rfl).mono ?_
          rintro e w' ⟨rfl, rfl⟩
          go_wp2
          go_region
          go_wp2
          go_roundw
          case rel =>
            have e := HST.out
            unfold sig0 sig1 at e
            rw [← G1.out, ← G2.out] at e
            exact ⟨i + 1, by omega, by omega, by go_num, e, hres.setOther (by simp) _, (below_drewN (hbel.setCell (by simp) _) _).drew⟩
          case measure => simp [intOf]; omega
        · obtain rfl : i = 64 := by omega
          obtain ⟨c, hb, hn⟩ := rowIs_row hrow
          obtain ⟨c0, hb0, hn0, -⟩ := hres
          have hone : (rowC 64 fun i => (sched s.data.toList).getD i 0).all (·.oneCell') = true := rowC_one _ _
          subst hn
          clear hrow
          have HB0 := Lib.hid hb0
          have HB := Lib.hid hb
          have HN0 := Lib.hid hn0
          clear hb hb0 hn0
          go_wp2_with (first | (refine wpList_load_row rfl 121 _ rfl (w.heap.size + 1) rfl 121 _ _ _ HB.out Tryz.und121a rfl (by rw [rowC_size]; exact Tryz.siz121a) ?_) | (refine wpList_store_row rfl 121 _ _ rfl w.heap.size (rowC 64 fun i => (sched s.data.toList).getD i 0) rfl rfl 121 _ HB0.out (by rw [rowC_size]; exact Tryz.siz121a) (by rw [rowC_size]; exact HN0.out) hone ?_))

          exact bodyPost_ret (v := .agg (rowC 64 fun i => (sched s.data.toList).getD i 0)) (results_cell_row rfl _ _ w.heap.size 121 _ (0, 0) _ rfl (heap_setRow_self HB0.out) Tryz.und121a rfl (by rw [rowC_size]; exact Tryz.siz121a)) rfl ⟨rfl, below_setRow hbel (Nat.le_refl _) _⟩
end Go.Proofs.YtehbbghobagkjaaGreatDoor
