/-
  Contracts of the reference of layer 5, the first part: schedule, constants.
-/
import Derived.Test.YtchjllnlhhoflaaHash9
namespace Go.Proofs.Ytchjllnlhhoflaa
open Go.RowKit Go.Deep
set_option linter.unusedVariables false

theorem Try.hund36 : Try.prog.underlying 36 = some (.slice 32) := by kernel_rfl
theorem Try.hinfo32 : (Try.prog.info? 32).map (fun i => (i.zero, i.size, i.bytes)) = some (some (.int .u32 0), 1, 4) := by kernel_rfl
/-- The first n cells of block g are the words f. -/
def RowW (w : World) (g N n : Nat) (f : Nat → Nat) : Prop := ∃ F : Nat → Value, w.rowIs g 32 N F ∧ n ≤ N ∧ ∀ j, j < n → F j = .int .u32 (f j : Nat)
theorem RowW.cell {w : World} {g N n : Nat} {f : Nat → Nat} (h : RowW w g N n f) {j : Nat} (hj : j < n) : w.cell? ⟨g, j, none⟩ = some (.int .u32 (f j : Nat)) := by
  obtain ⟨F, h1, h2, h3⟩ := h
  rw [h1.cell (by omega), h3 j hj]
theorem RowW.frozen {w : World} {g N n : Nat} {f : Nat → Nat} (h : RowW w g N n f) (j : Nat) : w.frozen? ⟨g, j, none⟩ = false := by
  obtain ⟨F, h1, h2, h3⟩ := h
  exact h1.frozen j
theorem RowW.lt {w : World} {g N n : Nat} {f : Nat → Nat} (h : RowW w g N n f) : g < w.heap.size := by
  obtain ⟨F, h1, -⟩ := h
  exact h1.lt
theorem RowW.below {w w' : World} {g N n : Nat} {f : Nat → Nat} (h : RowW w g N n f) (b : Below w.heap.size w w') : RowW w' g N n f := by
  obtain ⟨F, h1, h2, h3⟩ := h
  exact ⟨F, h1.of_block (b.block _ h1.lt), h2, h3⟩
theorem RowW.set {w : World} {g N n j v : Nat} {f f' : Nat → Nat} (h : RowW w g N n f) (hv : v = f' j) (ho : ∀ i, i < n → i ≠ j → f' i = f i) : RowW (w.setCell ⟨g, j, none⟩ (.int .u32 (v : Nat))) g N n f' := by
  obtain ⟨F, h1, h2, h3⟩ := h
  refine ⟨_, h1.set j _, h2, fun i hi => ?_⟩
  by_cases e : i = j
  · rw [if_pos e, hv, e]
  · rw [if_neg e, h3 i hi, ho i hi e]
theorem RowW.congr {w : World} {g N n : Nat} {f f' : Nat → Nat} (h : RowW w g N n f) (e : ∀ i, i < n → f' i = f i) : RowW w g N n f' := by
  obtain ⟨F, h1, h2, h3⟩ := h
  exact ⟨F, h1, h2, fun i hi => by rw [h3 i hi, e i hi]⟩
theorem hmakeW (c : Nat) (hc : c ≤ 100000) (w : World) : (Instr.makeSlice 36 (.int .i64 (c : Int)) (.int .i64 (c : Int))).run Try.prog w = .ok (.slice (some ⟨w.heap.size, 0, none⟩) c c) (w.alloc (.cells (madeCells #[.int .u32 0] c) 32)) := by
  obtain ⟨i0, hi, hz0, hz1, hz2⟩ := info_parts Try.hinfo32
  exact run_make_row 36 32 i0 _ Try.hund36 hi hz0 hz1 rfl .i64 .i64 c (by rw [hz2]; omega) (by omega) w
theorem hmakeW64 (w : World) : (Instr.makeSlice 36 (.int .i64 64) (.int .i64 64)).run Try.prog w = .ok (.slice (some ⟨w.heap.size, 0, none⟩) 64 64) (w.alloc (.cells (madeCells #[.int .u32 0] 64) 32)) := hmakeW 64 (by omega) w
theorem pw_rowW {w : World} {g N k i c : Nat} {l : List UInt8} (h : RowW w g N 64 (pw l k)) (hk : k < l.length) (hi : k / 4 = i) (hc : (l[k]'hk).toNat = c) : RowW (w.setCell ⟨g, i, none⟩ (.int .u32 ((pw l k i * 256 + c : Nat) : Int))) g N 64 (pw l (k + 1)) :=
  h.set (by subst hi hc; rw [pw_at]) (fun j hj e => by subst hi; exact pw_other l k j hk e)
theorem gw_rowW {w : World} {g N i n : Nat} {l : List UInt8} (h : RowW w g N 64 (gw l (i - 16))) (hn : i = n + 16) :
    RowW (w.setCell ⟨g, i, none⟩ (.int .u32 ((pl (pl (pl (gw l n n) (sig0 (gw l n (n + 1)))) (gw l n (n + 9))) (sig1 (gw l n (n + 14))) : Nat) : Int))) g N 64 (gw l (i + 1 - 16)) := by
  subst hn
  rw [show n + 16 + 1 - 16 = n + 1 by omega]
  refine h.set ?_ (fun j hj e => ?_)
  · rw [gw_at]
  · rw [show n + 16 - 16 = n by omega]; exact gw_other l n j e
/-- What the loops know. -/
def RSchR (s : ByteArray) (w : World) (v : Value) (wr : World) : Prop :=
  ∃ i : Nat, i ≤ 16 ∧ v = .int .i64 i ∧ RowW wr w.heap.size 64 64 (pw s.data.toList (4 * i)) ∧ Below w.heap.size w wr
def RSchQ (s : ByteArray) (i : Nat) (w : World) (v : Value) (wr : World) : Prop :=
  ∃ k : Nat, k ≤ 4 ∧ v = .int .i64 k ∧ RowW wr w.heap.size 64 64 (pw s.data.toList (4 * i + k)) ∧ Below w.heap.size w wr
def RSchG (s : ByteArray) (w : World) (v : Value) (wr : World) : Prop :=
  ∃ i : Nat, 16 ≤ i ∧ i ≤ 64 ∧ v = .int .i64 i ∧ RowW wr w.heap.size 64 64 (gw s.data.toList (i - 16)) ∧ Below w.heap.size w wr
theorem rsch_start (s : ByteArray) (w : World) : RSchR s w (.int .i64 0) (w.alloc (.cells (madeCells #[.int .u32 0] 64) 32)) :=
  ⟨0, by omega, rfl, ⟨_, World.rowIs_made w (.int .u32 0) 64 32, by omega, fun j hj => by rw [show 4 * 0 = 0 from rfl, pw_zero]; rfl⟩, (Below.refl _ _).alloc (Nat.le_refl _) _⟩
/-- What schedule gives. -/
def RSchP (s : ByteArray) (w : World) (e : Ending) (w' : World) : Prop :=
  e = .returned (.slice (some ⟨w.heap.size, 0, none⟩) 64 64) ∧ RowW w' w.heap.size 64 64 (sB s) ∧ Below w.heap.size w w'

set_option maxHeartbeats 1000000 in
set_option maxRecDepth 100000 in
theorem rschedule_any (s : ByteArray) (w : World) (hs : s.size = 64) :
    Calls Try.prog 27 #[.string s] w fun e w' => RSchP s w e w' := by
  have h64 : (s.size : Int) ≤ 64 := by omega
  have h64b : 64 ≤ s.size := by omega
  have HS := Lib.hid hs; clear hs
  have hmk := hmakeW64
  go_enter Try.func27, Try.ntmps27
  go_wp2
  go_loopw [4] (fun v wr => RSchR s w v wr) (fun v _ => 16 - (intOf v).toNat)
  case atStart => exact rsch_start s w
  case round =>
    clear hmk
    obtain ⟨i, hi, rfl, hrow, hbel⟩ := hrel
    by_cases hlt : i < 16
    · have HR0 := Lib.hid hrow
      have HB0 := Lib.hid hbel
      clear hrow hbel
      go_wp2
      go_loopw [5] (fun v wr => RSchQ s i w v wr) (fun v _ => 4 - (intOf v).toNat)
      case atStart => exact ⟨0, by omega, rfl, HR0.out, HB0.out⟩
      case round =>
        clear HR0 HB0
        obtain ⟨k, hk, rfl, hrow, hbel⟩ := hrel
        by_cases hlt2 : k < 4
        · obtain ⟨q, hq⟩ : ∃ q, 4 * i + k = q := ⟨_, rfl⟩
          have hqs : q < s.size := by omega
          have hql : q < s.data.toList.length := by rw [hsize_eq]; exact hqs
          have hqi : q / 4 = i := by omega
          have hq1 : 4 * (i : Int) + (k : Int) = (q : Int) := by omega
          rw [hq] at hrow
          have hcell := hrow.cell (j := i) (by omega)
          have hfr := hrow.frozen i
          have hst := pw_rowW hrow hql hqi rfl
          rw [← hget_eq s q hqs] at hst
          have hp : pw s.data.toList q i < 16777216 := by rw [← hqi]; exact pw_lt _ _
          have hc := (s[q]'hqs).toNat_lt
          obtain ⟨p, hpe⟩ : ∃ p, p = pw s.data.toList q i := ⟨_, rfl⟩
          rw [← hpe] at hcell hp hst
          have hi64 : i < 64 := by omega
          have HST := Lib.hid hst
          have HQ := Lib.hid hq
          clear hst hpe hrow hq hqi hql
          go_wp2
          go_region
          go_wp2
          go_roundw
          case rel =>
            have e := HST.out
            have e2 : ((p * 256 + (s[q]'hqs).toNat : Nat) : Int) = (p : Int) * 256 + ((s[q]'hqs).toNat : Int) := by simp
            rw [e2] at e
            exact ⟨k + 1, by omega, by go_num, by rw [← Nat.add_assoc, HQ.out]; exact e, (hbel.setCell (Nat.le_refl _) _).drew⟩
          case measure => simp [intOf]; omega
        · obtain rfl : k = 4 := by omega
          have HR := Lib.hid hrow
          clear hrow hlt2 hk
          go_wp2
          go_roundw
          case rel => exact ⟨i + 1, by omega, by go_num, HR.out, hbel⟩
          case measure => simp [intOf]; omega
    · have hi16 : i = 16 := by omega
      have hge : 16 ≤ i := by omega
      have hg : RowW wr w.heap.size 64 64 (gw s.data.toList (16 - 16)) := hrow.congr (fun j hj => by rw [hi16, show 4 * 16 = 64 from rfl, pw_full _ (by rw [hsize_eq, HS.out])]; rfl)
      have HR0 := Lib.hid hg
      have HB0 := Lib.hid hbel
      clear hrow hg hbel hlt hi hi16
      go_wp2
      go_loopw [6] (fun v wr => RSchG s w v wr) (fun v _ => 64 - (intOf v).toNat)
      case atStart => exact ⟨16, by omega, by omega, rfl, HR0.out, HB0.out⟩
      case round =>
        clear HR0 HB0
        obtain ⟨i, h16, hi, rfl, hrow, hbel⟩ := hrel
        by_cases hlt : i < 64
        · obtain ⟨n, hn⟩ : ∃ n, i = n + 16 := ⟨i - 16, by omega⟩
          have c1 := hrow.cell (j := i - 15) (by omega)
          have c2 := hrow.cell (j := i - 2) (by omega)
          have c3 := hrow.cell (j := i - 16) (by omega)
          have c4 := hrow.cell (j := i - 7) (by omega)
          have hfr := hrow.frozen i
          have c5 := hrow.cell (j := i) (by omega)
          have hst := gw_rowW hrow hn
          rw [show i - 16 = n by omega] at c1 c2 c3 c4 c5
          obtain ⟨a1, e1⟩ : ∃ a, i - 15 = a := ⟨_, rfl⟩
          obtain ⟨a2, e2⟩ : ∃ a, i - 2 = a := ⟨_, rfl⟩
          obtain ⟨a3, e3⟩ : ∃ a, n = a := ⟨_, rfl⟩
          obtain ⟨a4, e4⟩ : ∃ a, i - 7 = a := ⟨_, rfl⟩
          rw [show n + 1 = a1 by omega, show n + 14 = a2 by omega, show n + 9 = a4 by omega, e3] at hst
          rw [e1, e3] at c1
          rw [e2, e3] at c2
          rw [e3] at c3
          rw [e4, e3] at c4
          have w1 : IntKind.i64.wrap ((i : Int) - 15) = (a1 : Int) := by rw [IntWalk.i64_in _ (by omega)]; omega
          have w2 : IntKind.i64.wrap ((i : Int) - 2) = (a2 : Int) := by rw [IntWalk.i64_in _ (by omega)]; omega
          have w3 : (i : Int) - 16 = (a3 : Int) := by omega
          have w4 : (i : Int) - 7 = (a4 : Int) := by omega
          have b1 : a1 < 64 := by omega
          have b2 : a2 < 64 := by omega
          have b3 : a3 < 64 := by omega
          have b4 : a4 < 64 := by omega
          obtain ⟨x1, f1⟩ : ∃ x, x = gw s.data.toList a3 a1 := ⟨_, rfl⟩
          obtain ⟨x2, f2⟩ : ∃ x, x = gw s.data.toList a3 a2 := ⟨_, rfl⟩
          obtain ⟨x3, f3⟩ : ∃ x, x = gw s.data.toList a3 a3 := ⟨_, rfl⟩
          obtain ⟨x4, f4⟩ : ∃ x, x = gw s.data.toList a3 a4 := ⟨_, rfl⟩
          rw [← f1] at c1
          rw [← f2] at c2
          rw [← f3] at c3
          rw [← f4] at c4
          rw [← f1, ← f2, ← f3, ← f4] at hst
          have HST := Lib.hid hst
          have HR2 := Lib.hid hrow
          clear hst hrow e1 e2 e3 e4 f1 f2 f3 f4 hn
          have hX := b_xor
          have hA := b_add
          obtain ⟨y1, g1⟩ : ∃ y, y = x1 / 8 := ⟨_, rfl⟩
          obtain ⟨y2, g2⟩ : ∃ y, y = x2 / 1024 := ⟨_, rfl⟩
          have d1 : (x1 : Int) / 8 = (y1 : Int) := by rw [g1]; simp
          have d2 : (x2 : Int) / 1024 = (y2 : Int) := by rw [g2]; simp
          have G1 := Lib.hid g1
          have G2 := Lib.hid g2
          clear g1 g2
          go_wp2
          go_quiet (fail)
          go_wp2_with fail
          refine (rright_z x1 _ _ (by omega) (by omega)).mono ?_
          rintro e w' ⟨rfl, q1, rfl⟩
          go_wp2_with fail
          refine (rright_z x1 _ _ (by omega) (by omega)).mono ?_
          rintro e w' ⟨rfl, q2, rfl⟩
          go_wp2_with fail
          refine (rright_z x2 _ _ (by omega) (by omega)).mono ?_
          rintro e w' ⟨rfl, q3, rfl⟩
          go_wp2_with fail
          refine (rright_z x2 _ _ (by omega) (by omega)).mono ?_
          rintro e w' ⟨rfl, q4, rfl⟩
          go_wp2
          go_region
          go_wp2
          go_roundw
          case rel =>
            have e := HST.out
            unfold sig0 sig1 at e
            rw [← G1.out, ← G2.out] at e
            exact ⟨i + 1, by omega, by omega, by go_num, e, (below_drewN (hbel.setCell (Nat.le_refl _) _) _).drew⟩
          case measure => simp [intOf]; omega
        · obtain rfl : i = 64 := by omega
          have hf : RowW wr w.heap.size 64 64 (sB s) := hrow.congr (fun j hj => by rw [show 64 - 16 = 48 from rfl, gw_all]; rfl)
          have HF := Lib.hid hf
          clear hrow hf
          go_wp2
          go_ret
          exact ⟨rfl, HF.out, hbel⟩

theorem rconst_hl : kInts.length = 64 := rfl
theorem kRow_rowW (w : World) : RowW (w.alloc (.cells kRow 32)) w.heap.size 64 64 (fun i => kTab.getD i 0) :=
  ⟨_, World.rowIs_alloc w kRow 32 (fun i => .int .u32 (kTab.getD i 0 : Nat)) (fun i hi => kRow_get i (by rw [kRow_size] at hi; exact hi)), by omega, fun j hj => rfl⟩
set_option maxHeartbeats 1000000 in
set_option maxRecDepth 100000 in
theorem rconstants_any (w : World) :
    Calls Try.prog 28 #[] w fun e w' => e = .returned (.slice (some ⟨w.heap.size, 0, none⟩) 64 64) ∧ w' = w.alloc (.cells kRow 32) := by
  go_enter Try.func28, Try.ntmps28
  go_wp2_with (refine wpList_buildFlat rfl 36 32 64 _ rfl .u32 kInts Try.hund36 (by kernel_rfl) (by kernel_rfl) rfl (by omega) (by omega) (by kernel_rfl) ?_)
  go_ret
  exact ⟨rfl, rfl⟩
end Go.Proofs.Ytchjllnlhhoflaa
