/-
  Several parts in one text (RG).
-/
import Derived.Test.YtehbbghobagkjaaGreatDoorHash9
/-
  Contracts of the reference of layer 5, the first part: schedule, constants.
-/
namespace Go.Proofs.YtehbbghobagkjaaGreatDoor
open Go.RowKit Go.Deep
set_option linter.unusedVariables false

theorem Tryz.hund104 : Tryz.prog.underlying 104 = some (.slice 103) := by kernel_rfl
theorem Tryz.hinfo103 : (Tryz.prog.info? 103).map (fun i => (i.zero, i.size, i.bytes)) = some (some (.int .u32 0), 1, 4) := by kernel_rfl
/-- The first n cells of block g are the words f. -/
def RowW (w : World) (g N n : Nat) (f : Nat → Nat) : Prop := ∃ F : Nat → Value, w.rowIs g 103 N F ∧ n ≤ N ∧ ∀ j, j < n → F j = .int .u32 (f j : Nat)
theorem RowW.cell {w : World} {g N n : Nat} {f : Nat → Nat} (h : RowW w g N n f) {j : Nat} (hj : j < n) : w.cell? ⟨g, j, none⟩ = some (.int .u32 (f j : Nat)) := by
  obtain ⟨F, h1, h2, h3⟩ := h
  rw [h1.cell (by omega), h3 j hj]
theorem RowW.frozen {w : World} {g N n : Nat} {f : Nat → Nat} (h : RowW w g N n f) (j : Nat) : w.frozen? ⟨g, j, none⟩ = false := by
  obtain ⟨F, h1, h2, h3⟩ := h
  exact h1.frozen j
theorem RowW.lt {w : World} {g N n : Nat} {f : Nat → Nat} (h : RowW w g N n f) : g < w.heap.size := by
  obtain ⟨F, h1, -⟩ := h
  exact h1.lt
theorem RowW.below {w w' : World} {g N n : Nat} {f : Nat → Nat} (h : RowW w g N n f) (b : Below w.heap.size w w') : RowW w' g N n f := by
  obtain ⟨F, h1, h2, h3⟩ := h
  exact ⟨F, h1.of_block (b.block _ h1.lt), h2, h3⟩
theorem RowW.set {w : World} {g N n j v : Nat} {f f' : Nat → Nat} (h : RowW w g N n f) (hv : v = f' j) (ho : ∀ i, i < n → i ≠ j → f' i = f i) : RowW (w.setCell ⟨g, j, none⟩ (.int .u32 (v : Nat))) g N n f' := by
  obtain ⟨F, h1, h2, h3⟩ := h
  refine ⟨_, h1.set j _, h2, fun i hi => ?_⟩
  by_cases e : i = j
  · rw [if_pos e, hv, e]
  · rw [if_neg e, h3 i hi, ho i hi e]
theorem RowW.congr {w : World} {g N n : Nat} {f f' : Nat → Nat} (h : RowW w g N n f) (e : ∀ i, i < n → f' i = f i) : RowW w g N n f' := by
  obtain ⟨F, h1, h2, h3⟩ := h
  exact ⟨F, h1, h2, fun i hi => by rw [h3 i hi, e i hi]⟩
theorem hmakeW (c : Nat) (hc : c ≤ 100000) (w : World) : (Instr.makeSlice 104 (.int .i64 (c : Int)) (.int .i64 (c : Int))).run Tryz.prog w = .ok (.slice (some ⟨w.heap.size, 0, none⟩) c c) (w.alloc (.cells (madeCells #[.int .u32 0] c) 103)) := by
  obtain ⟨i0, hi, hz0, hz1, hz2⟩ := info_parts Tryz.hinfo103
  exact run_make_row 104 103 i0 _ Tryz.hund104 hi hz0 hz1 rfl .i64 .i64 c (by rw [hz2]; omega) (by omega) w
theorem hmakeW64 (w : World) : (Instr.makeSlice 104 (.int .i64 64) (.int .i64 64)).run Tryz.prog w = .ok (.slice (some ⟨w.heap.size, 0, none⟩) 64 64) (w.alloc (.cells (madeCells #[.int .u32 0] 64) 103)) := hmakeW 64 (by omega) w
theorem pw_rowW {w : World} {g N k i c : Nat} {l : List UInt8} (h : RowW w g N 64 (pw l k)) (hk : k < l.length) (hi : k / 4 = i) (hc : (l[k]'hk).toNat = c) : RowW (w.setCell ⟨g, i, none⟩ (.int .u32 ((pw l k i * 256 + c : Nat) : Int))) g N 64 (pw l (k + 1)) :=
  h.set (by subst hi hc; rw [pw_at]) (fun j hj e => by subst hi; exact pw_other l k j hk e)
theorem gw_rowW {w : World} {g N i n : Nat} {l : List UInt8} (h : RowW w g N 64 (gw l (i - 16))) (hn : i = n + 16) :
    RowW (w.setCell ⟨g, i, none⟩ (.int .u32 ((pl (pl (pl (gw l n n) (sig0 (gw l n (n + 1)))) (gw l n (n + 9))) (sig1 (gw l n (n + 14))) : Nat) : Int))) g N 64 (gw l (i + 1 - 16)) := by
  subst hn
  rw [show n + 16 + 1 - 16 = n + 1 by omega]
  refine h.set ?_ (fun j hj e => ?_)
  · rw [gw_at]
  · rw [show n + 16 - 16 = n by omega]; exact gw_other l n j e
/-- What the loops know. -/
def RSchR (s : ByteArray) (w : World) (v : Value) (wr : World) : Prop :=
  ∃ i : Nat, i ≤ 16 ∧ v = .int .i64 i ∧ RowW wr w.heap.size 64 64 (pw s.data.toList (4 * i)) ∧ Below w.heap.size w wr
def RSchQ (s : ByteArray) (i : Nat) (w : World) (v : Value) (wr : World) : Prop :=
  ∃ k : Nat, k ≤ 4 ∧ v = .int .i64 k ∧ RowW wr w.heap.size 64 64 (pw s.data.toList (4 * i + k)) ∧ Below w.heap.size w wr
def RSchG (s : ByteArray) (w : World) (v : Value) (wr : World) : Prop :=
  ∃ i : Nat, 16 ≤ i ∧ i ≤ 64 ∧ v = .int .i64 i ∧ RowW wr w.heap.size 64 64 (gw s.data.toList (i - 16)) ∧ Below w.heap.size w wr
theorem rsch_start (s : ByteArray) (w : World) : RSchR s w (.int .i64 0) (w.alloc (.cells (madeCells #[.int .u32 0] 64) 103)) :=
  ⟨0, by omega, rfl, ⟨_, World.rowIs_made w (.int .u32 0) 64 103, by omega, fun j hj => by rw [show 4 * 0 = 0 from rfl, pw_zero]; rfl⟩, (Below.refl _ _).alloc (Nat.le_refl _) _⟩
/-- What schedule gives. -/
def RSchP (s : ByteArray) (w : World) (e : Ending) (w' : World) : Prop :=
  e = .returned (.slice (some ⟨w.heap.size, 0, none⟩) 64 64) ∧ RowW w' w.heap.size 64 64 (sB s) ∧ Below w.heap.size w w'

set_option maxHeartbeats 1000000 in
set_option maxRecDepth 100000 in
theorem rschedule_any (s : ByteArray) (w : World) (hs : s.size = 64) :
    Calls Tryz.prog 91 #[.string s] w fun e w' => RSchP s w e w' := by
  have h64 : (s.size : Int) ≤ 64 := by omega
  have h64b : 64 ≤ s.size := by omega
  have HS := Lib.hid hs; clear hs
  have hmk := hmakeW64
  go_enter Tryz.func91, Tryz.ntmps91
  go_wp2
  go_loopw [4] (fun v wr => RSchR s w v wr) (fun v _ => 16 - (intOf v).toNat)
  case atStart => exact rsch_start s w
  case round =>
    clear hmk
    obtain ⟨i, hi, rfl, hrow, hbel⟩ := hrel
    by_cases hlt : i < 16
    · have HR0 := Lib.hid hrow
      have HB0 := Lib.hid hbel
      clear hrow hbel
      go_wp2
      go_loopw [5] (fun v wr => RSchQ s i w v wr) (fun v _ => 4 - (intOf v).toNat)
      case atStart => exact ⟨0, by omega, rfl, HR0.out, HB0.out⟩
      case round =>
        clear HR0 HB0
        obtain ⟨k, hk, rfl, hrow, hbel⟩ := hrel
        by_cases hlt2 : k < 4
        · obtain ⟨q, hq⟩ : ∃ q, 4 * i + k = q := ⟨_, rfl⟩
          have hqs : q < s.size := by omega
          have hql : q < s.data.toList.length := by rw [hsize_eq]; exact hqs
          have hqi : q / 4 = i := by omega
          have hq1 : 4 * (i : Int) + (k : Int) = (q : Int) := by omega
          rw [hq] at hrow
          have hcell := hrow.cell (j := i) (by omega)
          have hfr := hrow.frozen i
          have hst := pw_rowW hrow hql hqi rfl
          rw [← hget_eq s q hqs] at hst
          have hp : pw s.data.toList q i < 16777216 := by rw [← hqi]; exact pw_lt _ _
          have hc := (s[q]'hqs).toNat_lt
          obtain ⟨p, hpe⟩ : ∃ p, p = pw s.data.toList q i := ⟨_, rfl⟩
          rw [← hpe] at hcell hp hst
          have hi64 : i < 64 := by omega
          have HST := Lib.hid hst
          have HQ := Lib.hid hq
          clear hst hpe hrow hq hqi hql
          go_wp2
          go_region
          go_wp2
          go_roundw
          case rel =>
            have e := HST.out
            have e2 : ((p * 256 + (s[q]'hqs).toNat : Nat) : Int) = (p : Int) * 256 + ((s[q]'hqs).toNat : Int) := by simp
            rw [e2] at e
            exact ⟨k + 1, by omega, by go_num, by rw [← Nat.add_assoc, HQ.out]; exact e, (hbel.setCell (Nat.le_refl _) _).drew⟩
          case measure => simp [intOf]; omega
        · obtain rfl : k = 4 := by omega
          have HR := Lib.hid hrow
          clear hrow hlt2 hk
          go_wp2
          go_roundw
          case rel => exact ⟨i + 1, by omega, by go_num, HR.out, hbel⟩
          case measure => simp [intOf]; omega
    · have hi16 : i = 16 := by omega
      have hge : 16 ≤ i := by omega
      have hg : RowW wr w.heap.size 64 64 (gw s.data.toList (16 - 16)) := hrow.congr (fun j hj => by rw [hi16, show 4 * 16 = 64 from rfl, pw_full _ (by rw [hsize_eq, HS.out])]; rfl)
      have HR0 := Lib.hid hg
      have HB0 := Lib.hid hbel
      clear hrow hg hbel hlt hi hi16
      go_wp2
      go_loopw [6] (fun v wr => RSchG s w v wr) (fun v _ => 64 - (intOf v).toNat)
      case atStart => exact ⟨16, by omega, by omega, rfl, HR0.out, HB0.out⟩
      case round =>
        clear HR0 HB0
        obtain ⟨i, h16, hi, rfl, hrow, hbel⟩ := hrel
        by_cases hlt : i < 64
        · obtain ⟨n, hn⟩ : ∃ n, i = n + 16 := ⟨i - 16, by omega⟩
          have c1 := hrow.cell (j := i - 15) (by omega)
          have c2 := hrow.cell (j := i - 2) (by omega)
          have c3 := hrow.cell (j := i - 16) (by omega)
          have c4 := hrow.cell (j := i - 7) (by omega)
          have hfr := hrow.frozen i
          have c5 := hrow.cell (j := i) (by omega)
          have hst := gw_rowW hrow hn
          rw [show i - 16 = n by omega] at c1 c2 c3 c4 c5
          obtain ⟨a1, e1⟩ : ∃ a, i - 15 = a := ⟨_, rfl⟩
          obtain ⟨a2, e2⟩ : ∃ a, i - 2 = a := ⟨_, rfl⟩
          obtain ⟨a3, e3⟩ : ∃ a, n = a := ⟨_, rfl⟩
          obtain ⟨a4, e4⟩ : ∃ a, i - 7 = a := ⟨_, rfl⟩
          rw [show n + 1 = a1 by omega, show n + 14 = a2 by omega, show n + 9 = a4 by omega, e3] at hst
          rw [e1, e3] at c1
          rw [e2, e3] at c2
          rw [e3] at c3
          rw [e4, e3] at c4
          have w1 : IntKind.i64.wrap ((i : Int) - 15) = (a1 : Int) := by rw [IntWalk.i64_in _ (by omega)]; omega
          have w2 : IntKind.i64.wrap ((i : Int) - 2) = (a2 : Int) := by rw [IntWalk.i64_in _ (by omega)]; omega
          have w3 : (i : Int) - 16 = (a3 : Int) := by omega
          have w4 : (i : Int) - 7 = (a4 : Int) := by omega
          have b1 : a1 < 64 := by omega
          have b2 : a2 < 64 := by omega
          have b3 : a3 < 64 := by omega
          have b4 : a4 < 64 := by omega
          obtain ⟨x1, f1⟩ : ∃ x, x = gw s.data.toList a3 a1 := ⟨_, rfl⟩
          obtain ⟨x2, f2⟩ : ∃ x, x = gw s.data.toList a3 a2 := ⟨_, rfl⟩
          obtain ⟨x3, f3⟩ : ∃ x, x = gw s.data.toList a3 a3 := ⟨_, rfl⟩
          obtain ⟨x4, f4⟩ : ∃ x, x = gw s.data.toList a3 a4 := ⟨_, rfl⟩
          rw [← f1] at c1
          rw [← f2] at c2
          rw [← f3] at c3
          rw [← f4] at c4
          rw [← f1, ← f2, ← f3, ← f4] at hst
          have HST := Lib.hid hst
          have HR2 := Lib.hid hrow
          clear hst hrow e1 e2 e3 e4 f1 f2 f3 f4 hn
          have hX := b_xor
          have hA := b_add
          obtain ⟨y1, g1⟩ : ∃ y, y = x1 / 8 := ⟨_, rfl⟩
          obtain ⟨y2, g2⟩ : ∃ y, y = x2 / 1024 := ⟨_, rfl⟩
          have d1 : (x1 : Int) / 8 = (y1 : Int) := by rw [g1]; simp
          have d2 : (x2 : Int) / 1024 = (y2 : Int) := by rw [g2]; simp
          have G1 := Lib.hid g1
          have G2 := Lib.hid g2
          clear g1 g2
          go_wp2
          go_quiet (fail)
          go_wp2_with fail
          refine (rright_z x1 _ _ (by omega) (by omega)).mono ?_
          rintro e w' ⟨rfl, q1, rfl⟩
          go_wp2_with fail
          refine (rright_z x1 _ _ (by omega) (by omega)).mono ?_
          rintro e w' ⟨rfl, q2, rfl⟩
          go_wp2_with fail
          refine (rright_z x2 _ _ (by omega) (by omega)).mono ?_
          rintro e w' ⟨rfl, q3, rfl⟩
          go_wp2_with fail
          refine (rright_z x2 _ _ (by omega) (by omega)).mono ?_
          rintro e w' ⟨rfl, q4, rfl⟩
          go_wp2
          go_region
          go_wp2
          go_roundw
          case rel =>
            have e := HST.out
            unfold sig0 sig1 at e
            rw [← G1.out, ← G2.out] at e
            exact ⟨i + 1, by omega, by omega, by go_num, e, (below_drewN (hbel.setCell (Nat.le_refl _) _) _).drew⟩
          case measure => simp [intOf]; omega
        · obtain rfl : i = 64 := by omega
          have hf : RowW wr w.heap.size 64 64 (sB s) := hrow.congr (fun j hj => by rw [show 64 - 16 = 48 from rfl, gw_all]; rfl)
          have HF := Lib.hid hf
          clear hrow hf
          go_wp2
          go_ret
          exact ⟨rfl, HF.out, hbel⟩

theorem rconst_hl : kInts.length = 64 := rfl
theorem kRow_rowW (w : World) : RowW (w.alloc (.cells kRow 103)) w.heap.size 64 64 (fun i => kTab.getD i 0) :=
  ⟨_, World.rowIs_alloc w kRow 103 (fun i => .int .u32 (kTab.getD i 0 : Nat)) (fun i hi => kRow_get i (by rw [kRow_size] at hi; exact hi)), by omega, fun j hj => rfl⟩
set_option maxHeartbeats 1000000 in
set_option maxRecDepth 100000 in
theorem rconstants_any (w : World) :
    Calls Tryz.prog 92 #[] w fun e w' => e = .returned (.slice (some ⟨w.heap.size, 0, none⟩) 64 64) ∧ w' = w.alloc (.cells kRow 103) := by
  go_enter Tryz.func92, Tryz.ntmps92
  go_wp2_with (refine wpList_buildFlat rfl 104 103 64 _ rfl .u32 kInts Tryz.hund104 (by kernel_rfl) (by kernel_rfl) rfl (by omega) (by omega) (by kernel_rfl) ?_)
  go_ret
  exact ⟨rfl, rfl⟩
end Go.Proofs.YtehbbghobagkjaaGreatDoor


/-
  Contracts of the reference of layer 5, the second part: compress.
-/
namespace Go.Proofs.YtehbbghobagkjaaGreatDoor
open Go.RowKit Go.Deep
set_option linter.unusedVariables false

/-- n words as values. -/
def wvals (n : Nat) (f : Nat → Nat) : List Value := (List.range n).map fun j => Value.int .u32 (f j : Nat)
theorem wvals_get (n : Nat) (f : Nat → Nat) (j : Nat) (h : j < n) : (wvals n f)[j]? = some (.int .u32 (f j : Nat)) := by simp [wvals, h]
theorem wvals_length (n : Nat) (f : Nat → Nat) : (wvals n f).length = n := by simp [wvals]
theorem wvals_one (n : Nat) (f : Nat → Nat) : ∀ u ∈ wvals n f, u.oneCell' = true := by
  intro u hu
  simp only [wvals, List.mem_map] at hu
  obtain ⟨c, _, rfl⟩ := hu
  rfl
theorem own_rowW {w : World} {base n : Nat} {v : Value} {f : Nat → Nat} (h : w.ownsRow base 103 1 v n (wvals n f)) (h0 : 0 < n) :
    ∃ g cap, v = .slice (some ⟨g, 0, none⟩) n cap ∧ base ≤ g ∧ RowW w g cap n f := by
  obtain ⟨hl, h | ⟨g, cap, cur, hv, hb, hg, hc, hm, hs, ht⟩⟩ := h
  · omega
  · refine ⟨g, cap, hv, hb, fun j => cur[j]?.getD undef, ⟨cur, hg, by omega, fun i hi => ?_⟩, hc, fun j hj => ?_⟩
    · have hi' : i < cur.size := by omega
      show cur[i]? = some (cur[i]?.getD undef)
      rw [Array.getElem?_eq_getElem hi']; rfl
    · have e : (cur.toList.take (n * 1))[j]? = (wvals n f)[j]? := by rw [ht]
      rw [wvals_get n f j hj, List.getElem?_take, if_pos (by omega)] at e
      have e' : cur[j]? = some (.int .u32 (f j : Nat)) := by simpa using e
      show cur[j]?.getD undef = _
      rw [e']; rfl
theorem empty_own (w : World) (base : Nat) (hb : base ≤ w.heap.size) : (w.alloc (.cells #[] 103)).ownsRow base 103 1 (.slice (some ⟨w.heap.size, 0, none⟩) 0 0) 0 [] :=
  ⟨rfl, .inr ⟨w.heap.size, 0, #[], rfl, hb, blk_alloc_new _ _, Nat.le_refl _, by unfold maxLen; omega, rfl, rfl⟩⟩
theorem rowW_src {w : World} {g N n : Nat} {f : Nat → Nat} (h : RowW w g N n f) : ∀ j u, (wvals n f)[j]? = some u → w.cell? ((⟨g, 0, none⟩ : Addr).add j) = some u := by
  intro j u hj
  have hjl := (List.getElem?_eq_some_iff.1 hj).1
  rw [wvals_length] at hjl
  rw [show (⟨g, 0, none⟩ : Addr).add j = ⟨g, j, none⟩ by unfold Addr.add; split <;> simp_all, h.cell hjl, ← wvals_get n f j hjl, hj]
/-- The state behind k rounds. -/
def hrk (s : ByteArray) (k : Nat) (t : St) : St := rnds (fun i => kTab.getD i 0) (sB s) k t
/-- What the first loop knows. -/
def CmpR (s : ByteArray) (t : St) (gW gK : Nat) (w : World) (v i : Value) (wr : World) : Prop :=
  ∃ (k g cap N : Nat) (u : St), k ≤ 64 ∧ i = .int .i64 k ∧ u = hrk s k t ∧ v = .slice (some ⟨g, 0, none⟩) 8 cap ∧ RowW wr g N 8 (stF u) ∧ RowW wr gW 64 64 (sB s) ∧ RowW wr gK 64 64 (fun i => kTab.getD i 0) ∧ w.heap.size ≤ g ∧ Below w.heap.size w wr
theorem RowW.grown {w w' : World} {g N n : Nat} {f : Nat → Nat} {row : Option Nat} (h : RowW w g N n f) (hg : w.grownBy w' row) (hne : some g ≠ row) : RowW w' g N n f := by
  obtain ⟨F, h1, h2, h3⟩ := h
  exact ⟨F, h1.of_block (hg.block _ h1.lt hne), h2, h3⟩
theorem cmp_start {s : ByteArray} {t : St} {cap g : Nat} {w w1 w3 : World} (hgrow : ((w1.alloc (.cells kRow 103)).alloc (.cells #[] 103)).grownBy w3 (Value.slice (some ⟨w1.heap.size + 1, 0, none⟩) 0 0).ownBlock)
    (hK : RowW (w1.alloc (.cells kRow 103)) w1.heap.size 64 64 (fun i => kTab.getD i 0)) (hW : RowW (w1.alloc (.cells kRow 103)) w.heap.size 64 64 (sB s)) (hb : Below w.heap.size w (w1.alloc (.cells kRow 103)))
    (hr : RowW w3 g cap 8 (stF t)) (hg : w.heap.size ≤ g) (h1 : w.heap.size ≤ w1.heap.size) : CmpR s t w.heap.size w1.heap.size w (.slice (some ⟨g, 0, none⟩) 8 cap) (.int .i64 0) w3 := by
  have ha := (Below.refl (w1.alloc (.cells kRow 103)).heap.size (w1.alloc (.cells kRow 103))).alloc (Nat.le_refl _) (.cells #[] 103)
  refine ⟨0, g, cap, cap, t, by omega, rfl, rfl, rfl, hr, (hW.below ha).grown hgrow ?_, (hK.below ha).grown hgrow ?_, hg, ?_⟩
  · simp [Value.ownBlock]; omega
  · simp [Value.ownBlock]
  · exact (hb.trans (ha.mono (by simp; omega))).grown hgrow (by simp; omega) (fun z hz => by simp [Value.ownBlock] at hz; omega)
theorem mixF_other (u t : St) {i k : Nat} (h : i ≠ k) : mixF u t (k + 1) i = mixF u t k i := by
  unfold mixF
  by_cases e : i < k
  · rw [if_pos e, if_pos (by omega)]
  · rw [if_neg e, if_neg (by omega)]
theorem new_rowW (w : World) (t : St) : RowW (w.alloc (.cells (stC t) 103)) w.heap.size 8 8 (stF t) :=
  ⟨_, World.rowIs_alloc w (stC t) 103 (fun i => .int .u32 (stF t i : Nat)) (fun i hi => stC_get t i hi), by omega, fun j hj => rfl⟩
theorem cmp_step {s : ByteArray} {t u : St} {gW gK g N k q m kk ww : Nat} {w wr : World} (hk : k < 64) (hb : Below w.heap.size w wr) (hv : RowW wr g N 8 (stF u)) (hW : RowW wr gW 64 64 (sB s)) (hK : RowW wr gK 64 64 (fun i => kTab.getD i 0)) (hu : u = hrk s k t)
    (hkk : kk = kTab.getD k 0) (hww : ww = sB s k) (hg : w.heap.size ≤ g) :
    CmpR s t gW gK w (.slice (some ⟨(wr.drewN q).heap.size, 0, none⟩) 8 8) (.int .i64 ((k : Int) + 1)) (((wr.drewN q).drewN m).alloc (.cells (stC (rnd kk ww u)) 103)) := by
  have hb1 : Below wr.heap.size wr ((wr.drewN q).drewN m) := below_drewN (below_drewN (Below.refl _ _) q) m
  have hb2 : Below wr.heap.size wr (((wr.drewN q).drewN m).alloc (.cells (stC (rnd kk ww u)) 103)) := hb1.alloc hb1.size _
  refine ⟨k + 1, wr.heap.size, 8, 8, rnd kk ww u, by omega, by go_num, ?_, rfl, new_rowW ((wr.drewN q).drewN m) _, hW.below hb2, hK.below hb2, hb.size, bnext' hb hb2⟩
  rw [hu, hkk, hww]; rfl
theorem comp_stF {s : ByteArray} {t u : St} (h : u = hrk s 64 t) : comp t s.data.toList = addS u t := by rw [h]; rfl
theorem mix8 (u t : St) (j : Nat) (h : j < 8) : stF (addS u t) j = mixF u t 8 j := by
  unfold mixF
  rw [if_pos h]
  match j, h with
  | 0, _ => rfl
  | 1, _ => rfl
  | 2, _ => rfl
  | 3, _ => rfl
  | 4, _ => rfl
  | 5, _ => rfl
  | 6, _ => rfl
  | 7, _ => rfl
/-- What the second loop knows. -/
def CmpQ (r t : St) (g N : Nat) (w : World) (i : Value) (wr : World) : Prop :=
  ∃ k : Nat, k ≤ 8 ∧ i = .int .i64 k ∧ RowW wr g N 8 (mixF r t k) ∧ w.heap.size ≤ g ∧ Below w.heap.size w wr
/-- What compress gives. -/
def CmpP (s : ByteArray) (t : St) (w : World) (e : Ending) (w' : World) : Prop :=
  ∃ g cap N : Nat, e = .returned (.slice (some ⟨g, 0, none⟩) 8 cap) ∧ RowW w' g N 8 (stF (comp t s.data.toList)) ∧ w.heap.size ≤ g ∧ Below w.heap.size w w'

set_option maxHeartbeats 1000000 in
set_option maxRecDepth 100000 in
theorem rcompress_any (t : St) (g0 N0 cap0 : Nat) (s : ByteArray) (w : World) (hs : s.size = 64) (hrow : RowW w g0 N0 8 (stF t)) :
    Calls Tryz.prog 84 #[.slice (some ⟨g0, 0, none⟩) 8 cap0, .string s] w fun e w' => CmpP s t w e w' := by
  have HS := Lib.hid hs; clear hs
  have HR0 := Lib.hid hrow; clear hrow
  obtain ⟨i0, hi, hz0, hz1, hz2⟩ := info_parts Tryz.hinfo103
  go_enter Tryz.func84, Tryz.ntmps84
  go_wp2_with fail
  refine (rschedule_any s _ HS.out).mono ?_; rintro e w1 ⟨rfl, hW, b1⟩
  have HB1 := Lib.hid b1.size
  go_wp2_with fail
  refine (rconstants_any _).mono ?_; rintro e w2 ⟨rfl, rfl⟩
  have hK := kRow_rowW w1
  have b2 : Below w.heap.size w (w1.alloc (.cells kRow 103)) := b1.alloc b1.size _
  have hW2 : RowW (w1.alloc (.cells kRow 103)) w.heap.size 64 64 (sB s) := hW.below ((Below.refl _ _).alloc (Nat.le_refl _) _)
  have h02 : RowW (w1.alloc (.cells kRow 103)) g0 N0 8 (stF t) := HR0.out.below b2
  have hE := empty_own (w1.alloc (.cells kRow 103)) w.heap.size b2.size
  rw [show (w1.alloc (.cells kRow 103)).heap.size = w1.heap.size + 1 by simp] at hE
  have HE := Lib.hid hE
  clear hE
  have HC := Lib.hid (And.intro hK (And.intro b2 (And.intro hW2 h02)))
  clear hK b2 hW2 h02 hW b1
  go_wp2_with (at_builtin; refine wpList_append_own _ rfl _ _ 104 rfl w.heap.size 103 i0 (.int .u32 0) 1 4 Tryz.hund104 hi hz0 hz1 hz2 rfl (by decide) _ _ _ rfl HE.out ⟨g0, 0, none⟩ 8 cap0 (wvals 8 (stF t)) rfl rfl ?c1 ?c2 ?c3 ?c4 ?c5 ?_)
  case c1 => exact rowW_src (HC.out.2.2.2.below ((Below.refl _ _).alloc (Nat.le_refl _) _))
  case c2 => exact wvals_one _ _
  case c3 => unfold maxLen; omega
  case c4 => omega
  case c5 => have := HC.out.2.1.size; simp at this ⊢; omega
  intro v' w3 hown3 hgrow _
  obtain ⟨g, cap, rfl, hg, hrg⟩ := own_rowW hown3 (by omega)
  have hS := cmp_start (s := s) (t := t) (cap := cap) hgrow HC.out.1 HC.out.2.2.1 HC.out.2.1 hrg hg HB1.out
  have HS3 := Lib.hid hS
  clear hS hown3 hgrow hrg HE
  obtain ⟨gW, hgW⟩ : ∃ q, q = w.heap.size := ⟨_, rfl⟩
  obtain ⟨gK, hgK⟩ : ∃ q, q = w1.heap.size := ⟨_, rfl⟩
  rw [← hgW, ← hgK] at HS3
  rw [← hgW, ← hgK]
  clear hgK HC
  have HGW := Lib.hid hgW
  clear hgW
  go_wp2
  go_loopw [7, 8] (fun v i wr => CmpR s t gW gK w v i wr) (fun _ i _ => 64 - (intOf i).toNat)
  case atStart => exact HS3.out
  case round =>
    clear HS3
    obtain ⟨k, g, cap, N, u, hk, rfl, hu, rfl, hv, hW, hK, hg, hbel⟩ := hrel
    have HU := Lib.hid hu; clear hu
    by_cases hlt : k < 64
    · have c0 : wr.cell? ⟨g, 0, none⟩ = some (.int .u32 (u.a : Nat)) := hv.cell (by omega)
      have c1 : wr.cell? ⟨g, 1, none⟩ = some (.int .u32 (u.b : Nat)) := hv.cell (by omega)
      have c2 : wr.cell? ⟨g, 2, none⟩ = some (.int .u32 (u.c : Nat)) := hv.cell (by omega)
      have c3 : wr.cell? ⟨g, 3, none⟩ = some (.int .u32 (u.d : Nat)) := hv.cell (by omega)
      have c4 : wr.cell? ⟨g, 4, none⟩ = some (.int .u32 (u.e : Nat)) := hv.cell (by omega)
      have c5 : wr.cell? ⟨g, 5, none⟩ = some (.int .u32 (u.f : Nat)) := hv.cell (by omega)
      have c6 : wr.cell? ⟨g, 6, none⟩ = some (.int .u32 (u.g : Nat)) := hv.cell (by omega)
      have c7 : wr.cell? ⟨g, 7, none⟩ = some (.int .u32 (u.h : Nat)) := hv.cell (by omega)
      have ck := hK.cell (j := k) hlt
      have cw := hW.cell (j := k) hlt
      obtain ⟨kk, hkk⟩ : ∃ kk, kk = kTab.getD k 0 := ⟨_, rfl⟩
      obtain ⟨ww, hww⟩ : ∃ ww, ww = sB s k := ⟨_, rfl⟩
      rw [← hkk] at ck
      rw [← hww] at cw
      have HK := Lib.hid hkk
      have HW2 := Lib.hid hww
      have HV := Lib.hid hv
      have HWR := Lib.hid hW
      have HKR := Lib.hid hK
      clear hkk hww hv hW hK
      have hX := b_xor
      have hA := b_add
      have hN := b_and
      have hO := b_not2
      go_wp2
      go_quiet (fail)
      go_wp2
      refine gen_world (p := fun W => Code.wp _ _ _ _ W) (fun W => ∃ q, W = wr.drewN q) ⟨_, rfl⟩ ?_
      rintro w4 ⟨q4, h4⟩
      have d3 : w4.cell? ⟨g, 3, none⟩ = some (.int .u32 (u.d : Nat)) := by rw [h4]; exact c3
      have d7 : w4.cell? ⟨g, 7, none⟩ = some (.int .u32 (u.h : Nat)) := by rw [h4]; exact c7
      have dk : w4.cell? ⟨gK, k, none⟩ = some (.int .u32 (kk : Nat)) := by rw [h4]; exact ck
      have dw : w4.cell? ⟨gW, k, none⟩ = some (.int .u32 (ww : Nat)) := by rw [h4]; exact cw
      have H4 := Lib.hid h4
      clear h4 c0 c1 c2 c3 c4 c5 c6 c7 ck cw
      go_quiet ((go_at_call 93; exact q_some (rright_z _ _ _ (by omega) (by omega))))
      go_wp2_with fail
      refine (rright_z _ _ _ (by omega) (by omega)).mono ?_
      rintro e w' ⟨rfl, q1, rfl⟩
      go_wp2_with fail
      refine (rright_z _ _ _ (by omega) (by omega)).mono ?_
      rintro e w' ⟨rfl, q2, rfl⟩
      go_wp2_with fail
      refine (rright_z _ _ _ (by omega) (by omega)).mono ?_
      rintro e w' ⟨rfl, q3, rfl⟩
      go_wp2
      go_roundw
      case rel =>
        have e := cmp_step (q := q4) (m := nq + q1 + q2 + q3) hlt hbel HV.out HWR.out HKR.out HU.out HK.out HW2.out hg
        rw [← H4.out] at e
        have hs4 : w4.heap.size = wr.heap.size := by rw [H4.out]; rfl
        exact e
      case measure => simp [intOf]; omega
    · obtain rfl : k = 64 := by omega
      have h0 := HR0.out.below hbel
      have hlt0 := HR0.out.lt
      have hq0 : CmpQ u t g N w (.int .i64 0) wr := ⟨0, by omega, rfl, hv.congr (fun j hj => by unfold mixF; rw [if_neg (by omega)]), hg, hbel⟩
      have H00 := Lib.hid h0
      have HQ := Lib.hid hq0
      have hne : ¬ g0 = g := by omega
      have hne2 : ¬ g = g0 := by omega
      clear h0 hq0 hv hW hK hbel hlt hk
      go_wp2
      go_loopw [17] (fun i wr => CmpQ u t g N w i wr ∧ RowW wr g0 N0 8 (stF t)) (fun i _ => 8 - (intOf i).toNat)
      case atStart => exact ⟨HQ.out, H00.out⟩
      case round =>
        clear HQ H00
        obtain ⟨⟨k, hk, rfl, hrow, hg', hbel⟩, h0⟩ := hrel
        by_cases hlt : k < 8
        · have e1 := hrow.cell (j := k) hlt
          have e2 := h0.cell (j := k) hlt
          have e3 := hrow.frozen k
          rw [mixF_at] at e1
          obtain ⟨x, hx⟩ : ∃ x, x = stF u k := ⟨_, rfl⟩
          obtain ⟨y, hy⟩ : ∃ y, y = stF t k := ⟨_, rfl⟩
          rw [← hx] at e1
          rw [← hy] at e2
          have hst : RowW (wr.setCell ⟨g, k, none⟩ (.int .u32 ((pl x y : Nat) : Int))) g N 8 (mixF u t (k + 1)) :=
            hrow.set (by rw [hx, hy]; unfold mixF; rw [if_pos (by omega)]) (fun i hi hne => mixF_other u t hne)
          have h0' : RowW (wr.setCell ⟨g, k, none⟩ (.int .u32 ((pl x y : Nat) : Int))) g0 N0 8 (stF t) := by
            obtain ⟨F, f1, f2, f3⟩ := h0
            exact ⟨F, f1.setOther (by exact hne) _, f2, f3⟩
          have hA := b_add
          have HST := Lib.hid hst
          have H0' := Lib.hid h0'
          clear hst hrow h0 h0' hx hy
          go_wp2
          go_region
          go_wp2
          go_roundw
          case rel => exact ⟨⟨k + 1, by omega, by go_num, HST.out, hg', (hbel.setCell hg' _).drew⟩, H0'.out⟩
          case measure => simp [intOf]; omega
        · obtain rfl : k = 8 := by omega
          have hfin : RowW wr g N 8 (stF (comp t s.data.toList)) := hrow.congr (fun j hj => by rw [comp_stF HU.out]; exact mix8 u t j hj)
          have HF := Lib.hid hfin
          clear hfin hrow h0
          go_wp2
          go_ret
          exact ⟨g, cap, N, rfl, HF.out, hg', hbel⟩
end Go.Proofs.YtehbbghobagkjaaGreatDoor


/-
  Contracts of the reference of layer 5, the third part: padded.
-/
namespace Go.Proofs.YtehbbghobagkjaaGreatDoor
open Go.RowKit Go.Deep
set_option linter.unusedVariables false

theorem int_eq' {k : IntKind} {a b : Int} (h : a = b) : Value.int k a = Value.int k b := by rw [h]
def strSz : Value → Nat | .string b => b.size | _ => 0
theorem hmakeF8 (w : World) : (Instr.makeSlice 69 (.int .i64 8) (.int .i64 8)).run Tryz.prog w = .ok (.slice (some ⟨w.heap.size, 0, none⟩) 8 8) (w.alloc (.cells (madeCells #[.int .u8 0] 8) 5)) := hmakeF 8 (by omega) w
theorem len_string {w : World} {g t n : Nat} (h : w.rowIs g t 8 (fun j => .int .u8 (lenF n 8 j : Nat))) (cap : Nat) :
    (convert 69 9 (.slice (some ⟨g, 0, none⟩) 8 cap)).run Tryz.prog w = .ok (.string ⟨(be8 8 (8 * n)).toArray⟩) w := by
  have := run_convert_bytes_arg (P := Tryz.prog) w 69 5 Tryz.hund69 Tryz.hund5 g 0 8 cap ((be8 8 (8 * n)).map fun c => (c.toNat : Int)) (by simp [be8_length]) (fun i hi => by
    rw [Nat.zero_add, h.cell hi]
    have e := be8_val n i hi
    have hl : i < (be8 8 (8 * n)).length := by rw [be8_length]; exact hi
    rw [bvals_get _ _ hl] at e
    rw [← e]
    simp [List.getD, hl]) 9 Tryz.hund9
  rw [this, hstr_bytes]
/-- What the loops know. -/
def RPadR (s : ByteArray) (w : World) (v : Value) (wr : World) : Prop :=
  ∃ (q : Nat) (L : ByteArray), q ≤ padz s.size ∧ v = .string L ∧ L.data.toList = s.data.toList ++ [128] ++ List.replicate q 0 ∧ L.size = s.size + 1 + q ∧ w = wr
def RPadQ (n : Nat) (w : World) (vb vi : Value) (wr : World) : Prop :=
  ∃ k : Nat, k ≤ 8 ∧ vi = .int .i64 (7 - (k : Int)) ∧ vb = .int .u64 (8 * n / 256 ^ k : Nat) ∧ wr.rowIs w.heap.size 5 8 (fun j => .int .u8 (lenF n k j : Nat)) ∧ Below w.heap.size w wr

theorem rpadQ_start (n : Nat) (w : World) : RPadQ n w (.int .u64 ((n : Int) * 8)) (.int .i64 7) (w.alloc (.cells (madeCells #[.int .u8 0] 8) 5)) :=
  ⟨0, by omega, rfl, int_eq' (by simp; omega), (World.rowIs_made w (.int .u8 0) 8 5).congr (fun i hi => by show _ = Value.int .u8 ((lenF n 0 i : Nat) : Int); rw [lenF_zero n i hi]; rfl), (Below.refl _ _).alloc (Nat.le_refl _) _⟩
set_option maxHeartbeats 1000000 in
set_option maxRecDepth 100000 in
theorem rpadded_any (s : ByteArray) (w : World) (hn : s.size ≤ 1099511627776) :
    Calls Tryz.prog 83 #[.string s] w fun e w' => e = .returned (.string ⟨(pad s.data.toList).toArray⟩) ∧ Below w.heap.size w w' := by
  have hmk := hmakeF8
  have l0 : s.size + 1 ≤ 9223372036854775807 := by omega
  go_enter Tryz.func83, Tryz.ntmps83
  go_wp2
  go_loopw [0] (fun v wr => RPadR s w v wr) (fun v _ => s.size + 70 - strSz v)
  case atStart => exact ⟨0, s ++ ⟨#[128]⟩, by omega, rfl, by simp, by rw [ByteArray.size_append]; rfl, rfl⟩
  case round =>
    obtain ⟨q, L, hq, rfl, hL, hls, rfl⟩ := hrel
    have HL := Lib.hid hL
    have hz := padz_lt s.size
    have hpm := pad_mod s.size
    clear hL
    by_cases hlt : q < padz s.size
    · have e1 : ((L.size : Int) % 64 != 56) = true := by rw [bne_iff_ne]; unfold padz at hlt hpm; omega
      have l1 : L.size + 1 ≤ 9223372036854775807 := by omega
      have HLS := Lib.hid hls
      have HPM := Lib.hid hpm
      clear hls hpm
      go_wp2
      go_roundw
      case rel => exact ⟨q + 1, L ++ ⟨#[0]⟩, by omega, rfl, by simp [HL.out, List.replicate_succ', List.append_assoc], by rw [ByteArray.size_append, HLS.out]; rfl, rfl⟩
      case measure =>
        have h1 : (L ++ ⟨#[0]⟩ : ByteArray).size = L.size + 1 := by rw [ByteArray.size_append]; rfl
        have := HLS.out
        show s.size + 70 - (L ++ ⟨#[0]⟩ : ByteArray).size < s.size + 70 - L.size
        rw [h1]; omega
    · have hqe : q = padz s.size := by omega
      have e1 : ((L.size : Int) % 64 != 56) = false := by rw [bne_eq_false_iff_eq]; rw [hls, hqe]; omega
      have l1 : L.size + 8 ≤ 9223372036854775807 := by omega
      have hfin : L.data.toList ++ be8 8 (8 * s.size) = pad s.data.toList := by rw [HL.out, hqe]; simp [pad, padT]
      have HF := Lib.hid hfin
      clear hls hpm hfin hqe hlt hq
      go_wp2
      go_loopw [5, 6] (fun vb vi wr => RPadQ s.size w vb vi wr) (fun _ vi _ => (intOf vi + 1).toNat)
      case atStart => exact rpadQ_start s.size w
      case round =>
        clear hmk
        obtain ⟨k, hk, rfl, rfl, hrow, hbel⟩ := hrel
        by_cases hlt : k < 8
        · obtain ⟨j, hj⟩ : ∃ j, 7 - k = j := ⟨_, rfl⟩
          have hji : 7 - (k : Int) = (j : Int) := by omega
          have hcell := hrow.cell (i := j) (by omega)
          have hfr := hrow.frozen j
          have hj7 : j ≤ 7 := by omega
          have hml : 8 * s.size / 256 ^ k ≤ 8796093022208 := Nat.le_trans (Nat.div_le_self _ _) (by omega)
          have hnx : 8 * s.size / 256 ^ k / 256 = 8 * s.size / 256 ^ (k + 1) := by rw [Nat.div_div_eq_div_mul, Nat.pow_succ]
          have hdc : (((8 * s.size / 256 ^ k : Nat) : Int) % 256) = ((8 * s.size / 256 ^ k % 256 : Nat) : Int) := by simp
          obtain ⟨m, hm⟩ : ∃ m, m = 8 * s.size / 256 ^ k := ⟨_, rfl⟩
          rw [← hm] at hml hnx hdc ⊢
          rw [hji]
          have HNX := Lib.hid hnx
          have HDC := Lib.hid hdc
          have HR := Lib.hid hrow
          have HJ := Lib.hid hj
          have HM := Lib.hid hm
          have HJI := Lib.hid hji
          clear hnx hdc hrow hj hm hji
          go_wp2
          go_roundw
          case rel =>
            exact ⟨k + 1, by omega, int_eq' (by have := HJ.out; omega), int_eq' (by rw [← HNX.out]; simp), len_row HR.out hlt HJ.out (by rw [HDC.out, HM.out]), hbel.setCell (Nat.le_refl _) _⟩
          case measure => simp [intOf]
        · obtain rfl : k = 8 := by omega
          have hcv := len_string hrow 8
          clear hrow
          obtain ⟨B, hB⟩ : ∃ B : ByteArray, (⟨(be8 8 (8 * s.size)).toArray⟩ : ByteArray) = B := ⟨_, rfl⟩
          have hBs : B.size ≤ 8 := by rw [← hB, ← hsize_eq]; simp [be8_length]
          rw [hB] at hcv
          have HB := Lib.hid hB
          clear hB hk hlt
          go_wp2
          go_ret
          refine ⟨hret_str ?_, hbel⟩
          rw [← HF.out, ← HB.out]
          apply ByteArray.ext
          simp
end Go.Proofs.YtehbbghobagkjaaGreatDoor


/-
  Contracts of the reference of layer 5, the fourth part: Sum.
-/
namespace Go.Proofs.YtehbbghobagkjaaGreatDoor
open Go.RowKit Go.Deep
set_option linter.unusedVariables false

theorem rpadded_to (s B : ByteArray) (w : World) (hn : s.size ≤ 1099511627776) (h : (⟨(pad s.data.toList).toArray⟩ : ByteArray) = B) :
    Calls Tryz.prog 83 #[.string s] w fun e w' => e = .returned (.string B) ∧ Below w.heap.size w w' := by
  rw [← h]; exact rpadded_any s w hn
/-- What the loop over the blocks knows. -/
def RSumR (P : ByteArray) (m : Nat) (w : World) (v i : Value) (wr : World) : Prop :=
  ∃ k j g cap N : Nat, k ≤ m ∧ j = 64 * k ∧ i = .int .i64 j ∧ v = .slice (some ⟨g, 0, none⟩) 8 cap ∧ RowW wr g N 8 (stF (absb k st0 P.data.toList)) ∧ w.heap.size ≤ wr.heap.size ∧ Below w.heap.size w wr
theorem rsum_start (P : ByteArray) (m : Nat) (w w1 : World) (h : Below (w.alloc (.cells (stC st0) 103)).heap.size (w.alloc (.cells (stC st0) 103)) w1) : RSumR P m w (.slice (some ⟨w.heap.size, 0, none⟩) 8 8) (.int .i64 0) w1 := by
  have h0 : Below w.heap.size w (w.alloc (.cells (stC st0) 103)) := (Below.refl _ _).alloc (Nat.le_refl _) _
  exact ⟨0, 0, w.heap.size, 8, 8, by omega, rfl, rfl, rfl, (new_rowW w st0).below h, (bnext' h0 h).size, bnext' h0 h⟩
theorem rsum_step {P : ByteArray} {k i j : Nat} (hi : i = 64 * k) (hs : (P.extract i j).data.toList = (P.data.toList.drop i).take 64) : absb (k + 1) st0 P.data.toList = comp (absb k st0 P.data.toList) (P.extract i j).data.toList := by
  rw [absb, hs, hi]
/-- What the loop over the words knows. -/
def RSumQ (T : St) (g N base : Nat) (w : World) (v i : Value) (wr : World) : Prop :=
  ∃ k : Nat, k ≤ 8 ∧ i = .int .i64 k ∧ wr.ownsRow base 5 1 v (4 * k) (bvals (outK T k)) ∧ RowW wr g N 8 (stF T) ∧ base ≤ wr.heap.size ∧ Below w.heap.size w wr

set_option maxHeartbeats 1000000 in
set_option maxRecDepth 100000 in
theorem rsum_any (s : ByteArray) (w : World) (hn : s.size ≤ 1099511627776) :
    Calls Tryz.prog 73 #[.string s] w fun e w' => e = .returned (.string ⟨(shaL s.data.toList).toArray⟩) ∧ Below w.heap.size w w' := by
  obtain ⟨P, hP⟩ : ∃ P : ByteArray, (⟨(pad s.data.toList).toArray⟩ : ByteArray) = P := ⟨_, rfl⟩
  have hPl : P.data.toList = pad s.data.toList := by rw [← hP]
  have hPs : P.size = s.size + 9 + padz s.size := by rw [← hsize_eq, hPl, pad_length, hsize_eq]
  have hz := padz_lt s.size
  have hpm := pad_mod s.size
  obtain ⟨m, hm⟩ : ∃ m, P.size = 64 * m := ⟨P.size / 64, by omega⟩
  have hfin : outS (absb m st0 P.data.toList) = shaL s.data.toList := by
    rw [shaL, ← hPl, hsize_eq, hm, show 64 * m / 64 = m by omega]
  have l1 : P.size ≤ 1099511627900 := by omega
  have HP := Lib.hid hP
  have HM := Lib.hid hm
  have HF := Lib.hid hfin
  clear hP hPl hPs hz hpm hm hfin
  go_enter Tryz.func73, Tryz.ntmps73
  go_wp2_with fail
  refine (rpadded_to s P _ hn HP.out).mono ?_; rintro e w1 ⟨rfl, b1⟩
  have hs0 := rsum_start P m w w1 b1
  have HS0 := Lib.hid hs0
  clear hs0 b1
  go_wp2
  go_loopw [3, 5] (fun v i wr => RSumR P m w v i wr) (fun _ i _ => P.size - (intOf i).toNat)
  case atStart => exact HS0.out
  case round =>
    clear HS0
    obtain ⟨k, i, g, cap, N, hk, hi, rfl, rfl, hrow, hsz, hbel⟩ := hrel
    by_cases hlt : k < m
    · obtain ⟨j, hj⟩ : ∃ j, i + 64 = j := ⟨_, rfl⟩
      have hib0 : i + 64 ≤ P.size := by rw [HM.out]; omega
      have hslice := slice_of P i hib0
      have hsl := slice_size P i hib0
      rw [hj] at hslice hsl hib0
      have hib2 : i < P.size := by omega
      have hji : (i : Int) + 64 = (j : Int) := by omega
      have i1 : (i : Int) ≤ (j : Int) := by omega
      have i3 : (j : Int) ≤ (P.size : Int) := by omega
      have HSL := Lib.hid hslice
      have HSZ := Lib.hid hsl
      have HI := Lib.hid hi
      have HJ := Lib.hid hj
      have HR := Lib.hid hrow
      clear hslice hsl hi hj hrow
      go_wp2_with fail
      refine (rcompress_any (absb k st0 P.data.toList) g N cap (P.extract i j) _ HSZ.out HR.out).mono ?_
      rintro e w3 ⟨g3, cap3, N3, rfl, hr3, hg3, b3⟩
      have b4 := bnext' hbel b3
      have HR3 := Lib.hid hr3
      clear hr3 b3
      go_wp2
      go_roundw
      case rel =>
        exact ⟨k + 1, j, g3, cap3, N3, by omega, by rw [← HJ.out, HI.out]; omega, rfl, rfl, by rw [rsum_step HI.out HSL.out]; exact HR3.out, b4.size, b4⟩
      case measure => simp [intOf]; omega
    · obtain rfl : k = m := by omega
      have hib : P.size ≤ i := by rw [HM.out, hi]; exact Nat.le_refl _
      have hib2 : ¬ i < P.size := by omega
      obtain ⟨T, hT⟩ : ∃ T, T = absb k st0 P.data.toList := ⟨_, rfl⟩
      rw [← hT] at hrow
      obtain ⟨i0, hii, hz0, hz1, hz2⟩ := info_parts Tryz.hinfo5
      have hg := hrow.lt
      have hQ0 : RSumQ T g N wr.heap.size w (.slice none 0 0) (.int .i64 0) wr := ⟨0, by omega, rfl, World.ownsRow_nil _ _ _ _, hrow, Nat.le_refl _, hbel⟩
      have HQ := Lib.hid hQ0
      have HT := Lib.hid hT
      have HG := Lib.hid hg
      obtain ⟨B, hB⟩ : ∃ B, B = wr.heap.size := ⟨_, rfl⟩
      rw [← hB] at HQ HG
      have hBw : w.heap.size ≤ B := by rw [hB]; exact hsz
      clear hQ0 hT hg hrow hbel hB hsz hlt hk hi
      go_wp2
      go_loopw [6, 7] (fun v i wr => RSumQ T g N B w v i wr) (fun _ i _ => 8 - (intOf i).toNat)
      case atStart => exact HQ.out
      case round =>
        clear HQ
        obtain ⟨k, hk, rfl, hown, hrow, hbs, hbel⟩ := hrel
        by_cases hlt : k < 8
        · have hcell := hrow.cell (j := k) hlt
          obtain ⟨x, hx⟩ : ∃ x, x = stF T k := ⟨_, rfl⟩
          rw [← hx] at hcell
          have HX := Lib.hid hx
          have HR := Lib.hid hrow
          clear hx hrow
          go_wp2_with (at_builtin; refine wpList_append_own _ rfl _ _ 69 rfl B 5 i0 (.int .u8 0) 1 1 Tryz.hund69 hii hz0 hz1 hz2 rfl (by decide) _ _ _ rfl (hown.alloc _) ⟨wr.heap.size, 0, none⟩ 4 4 (bvals (w4 x)) rfl rfl ?c1 ?c2 ?c3 ?c4 ?c5 ?_)
          case c1 => rw [w4_vals]; exact new_cells _ _ _
          case c2 => exact bvals_one _
          case c3 => unfold maxLen; omega
          case c4 => omega
          case c5 => simp; omega
          intro v' w5 hown5 hgrow _
          have hb5 : Below w.heap.size w w5 := (hbel.alloc (Nat.le_trans hBw hbs) _).grown hgrow (by simp; omega) (fun z hz => Nat.le_trans hBw (hown_ge hown _ hz))
          have hr5 := (HR.out.below ((Below.refl wr.heap.size wr).alloc (Nat.le_refl _) (.cells #[Value.int IntKind.u8 ((x : Int) / 16777216 % 256), Value.int IntKind.u8 ((x : Int) / 65536 % 256), Value.int IntKind.u8 ((x : Int) / 256 % 256), Value.int IntKind.u8 ((x : Int) % 256)] 5))).grown hgrow (by
            intro e
            have := hown_ge hown g e.symm
            have := HG.out
            omega)
          rw [← bvals_append, HX.out, show outK T k ++ w4 (stF T k) = outK T (k + 1) from rfl, show 4 * k + 4 = 4 * (k + 1) by omega] at hown5
          have HO := Lib.hid hown5
          have HR5 := Lib.hid hr5
          have hs5 := Nat.le_trans hbs (Nat.le_trans (by simp : wr.heap.size ≤ _) hgrow.size)
          clear hown5 hgrow hown hcell hr5
          go_wp2
          go_roundw
          case rel => exact ⟨k + 1, by omega, by go_num, HO.out, HR5.out, hs5, hb5⟩
          case measure => simp [intOf]; omega
        · obtain rfl : k = 8 := by omega
          have hcv := own_string hown
          rw [outK_all] at hcv
          clear hown hrow
          go_wp2
          go_ret
          exact ⟨hret_str (by rw [HT.out, HF.out]), hbel⟩
end Go.Proofs.YtehbbghobagkjaaGreatDoor


/-
  Contracts of the reference of layer 5, the fifth part: xored, Mac, Hex.
-/
namespace Go.Proofs.YtehbbghobagkjaaGreatDoor
open Go.RowKit Go.Deep
set_option linter.unusedVariables false

/-- The first q bytes of the masked key, and zeros. -/
def xoF (l : List UInt8) (x : UInt8) (q j : Nat) : Nat := if j < q then (l.getD j 0 ^^^ x).toNat else 0
theorem xo_row {w : World} {g t q : Nat} {l : List UInt8} {x : UInt8} {v : Int} (h : w.rowIs g t 64 (fun j => .int .u8 (xoF l x q j : Nat))) (hv : v = ((l.getD q 0 ^^^ x).toNat : Nat)) :
    (w.setCell ⟨g, q, none⟩ (.int .u8 v)).rowIs g t 64 (fun j => .int .u8 (xoF l x (q + 1) j : Nat)) := by
  refine (h.set q _).congr fun i hi => ?_
  by_cases e : i = q
  · rw [if_pos e, hv, e]; unfold xoF; rw [if_pos (by omega)]
  · rw [if_neg e]; show Value.int .u8 ((xoF l x q i : Nat) : Int) = Value.int .u8 ((xoF l x (q + 1) i : Nat) : Int); unfold xoF
    by_cases e2 : i < q
    · rw [if_pos e2, if_pos (by omega)]
    · rw [if_neg e2, if_neg (by omega)]
theorem xo_row2 {w : World} {g t q : Nat} {l : List UInt8} {x : UInt8} {u v : Int} (h : w.rowIs g t 64 (fun j => .int .u8 (xoF l x q j : Nat))) (hv : v = ((l.getD q 0 ^^^ x).toNat : Nat)) :
    ((w.setCell ⟨g, q, none⟩ (.int .u8 u)).setCell ⟨g, q, none⟩ (.int .u8 v)).rowIs g t 64 (fun j => .int .u8 (xoF l x (q + 1) j : Nat)) := by
  refine ((h.set q (.int .u8 u)).set q _).congr fun i hi => ?_
  by_cases e : i = q
  · rw [if_pos e, hv, e]; unfold xoF; rw [if_pos (by omega)]
  · rw [if_neg e, if_neg e]; show Value.int .u8 ((xoF l x q i : Nat) : Int) = Value.int .u8 ((xoF l x (q + 1) i : Nat) : Int); unfold xoF
    by_cases e2 : i < q
    · rw [if_pos e2, if_pos (by omega)]
    · rw [if_neg e2, if_neg (by omega)]
theorem xo_string {w : World} {g t : Nat} {l : List UInt8} {x : UInt8} (h : w.rowIs g t 64 (fun j => .int .u8 (xoF l x 64 j : Nat))) (cap : Nat) :
    (convert 69 9 (.slice (some ⟨g, 0, none⟩) 64 cap)).run Tryz.prog w = .ok (.string ⟨(maskL l x).toArray⟩) w := by
  have := run_convert_bytes_arg (P := Tryz.prog) w 69 5 Tryz.hund69 Tryz.hund5 g 0 64 cap ((maskL l x).map fun c => (c.toNat : Int)) (by simp [maskL_length]) (fun i hi => by
    rw [Nat.zero_add, h.cell hi]
    unfold xoF
    rw [if_pos hi]
    simp [maskL, List.getD_eq_getElem?_getD, hi]) 9 Tryz.hund9
  rw [this, hstr_bytes]
theorem hmakeF64 (w : World) : (Instr.makeSlice 69 (.int .i64 64) (.int .i64 64)).run Tryz.prog w = .ok (.slice (some ⟨w.heap.size, 0, none⟩) 64 64) (w.alloc (.cells (madeCells #[.int .u8 0] 64) 5)) := hmakeF 64 (by omega) w
/-- What the loop of xored knows. -/
def XoR (k : ByteArray) (x : UInt8) (w : World) (v : Value) (wr : World) : Prop :=
  ∃ q : Nat, q ≤ 64 ∧ v = .int .i64 q ∧ wr.rowIs w.heap.size 5 64 (fun j => .int .u8 (xoF k.data.toList x q j : Nat)) ∧ Below w.heap.size w wr
theorem xo_start (k : ByteArray) (x : UInt8) (w : World) : XoR k x w (.int .i64 0) (w.alloc (.cells (madeCells #[.int .u8 0] 64) 5)) :=
  ⟨0, by omega, rfl, (World.rowIs_made w (.int .u8 0) 64 5).congr (fun i hi => by show _ = Value.int .u8 ((xoF k.data.toList x 0 i : Nat) : Int); unfold xoF; rw [if_neg (by omega)]; rfl), (Below.refl _ _).alloc (Nat.le_refl _) _⟩
theorem xo_short {k : ByteArray} {q : Nat} (h : ¬ q < k.size) (x : UInt8) : (k.data.toList.getD q 0 ^^^ x) = x := by
  rw [List.getD_eq_getElem?_getD, List.getElem?_eq_none (by rw [hsize_eq]; omega)]
  simp
theorem xo_long {k : ByteArray} {q : Nat} (h : q < k.size) : k.data.toList.getD q 0 = k[q] := by
  have h' : q < k.data.toList.length := by rw [hsize_eq]; exact h
  rw [List.getD_eq_getElem?_getD, List.getElem?_eq_getElem h', hget_eq k q h]; rfl

set_option maxHeartbeats 1000000 in
set_option maxRecDepth 100000 in
theorem rxored_any (k : ByteArray) (x : UInt8) (xi : Int) (w : World) (hk : k.size ≤ 64) (hx : xi = (x.toNat : Int)) :
    Calls Tryz.prog 74 #[.string k, .int .u8 xi] w fun e w' => e = .returned (.string ⟨(maskL k.data.toList x).toArray⟩) ∧ Below w.heap.size w w' := by
  have HX := Lib.hid hx
  clear hx
  have hmk := hmakeF64
  go_enter Tryz.func74, Tryz.ntmps74
  go_wp2
  go_loopw [6] (fun v wr => XoR k x w v wr) (fun v _ => 64 - (intOf v).toNat)
  case atStart => exact xo_start k x w
  case round =>
    clear hmk
    obtain ⟨q, hq, rfl, hrow, hbel⟩ := hrel
    by_cases hlt : q < 64
    · have hcell := hrow.cell (i := q) hlt
      have hfr := hrow.frozen q
      by_cases hl : q < k.size
      · have hxr := msk_xor (k[q]'hl) x
        rw [← HX.out] at hxr
        have hg := xo_long hl
        have HXR := Lib.hid hxr
        have HG := Lib.hid hg
        have HR := Lib.hid hrow
        clear hxr hrow hg
        go_wp2
        go_roundw
        case rel => exact ⟨q + 1, by omega, by go_num, xo_row2 HR.out (by rw [HG.out, ← HXR.out]), (hbel.setCell (Nat.le_refl _) _).setCell (Nat.le_refl _) _⟩
        case measure => simp [intOf]; omega
      · have hg := xo_short hl x
        have HG := Lib.hid hg
        have HR := Lib.hid hrow
        clear hrow hg
        go_wp2
        go_roundw
        case rel => exact ⟨q + 1, by omega, by go_num, xo_row HR.out (by rw [HG.out, HX.out]), hbel.setCell (Nat.le_refl _) _⟩
        case measure => simp [intOf]; omega
    · obtain rfl : q = 64 := by omega
      have hcv := xo_string hrow 64
      clear hrow
      go_wp2
      go_ret
      exact ⟨rfl, hbel⟩

set_option maxHeartbeats 1000000 in
theorem rmac_any (k s : ByteArray) (w : World) (hk : k.size ≤ 1099511627776) (hs : s.size ≤ 1099511627000) :
    Calls Tryz.prog 64 #[.string k, .string s] w fun e w' => e = .returned (.string ⟨(macL k.data.toList s.data.toList).toArray⟩) ∧ Below w.heap.size w w' := by
  by_cases hl : 64 < k.size
  · obtain ⟨K, hK⟩ : ∃ K : ByteArray, K = ⟨(shaL k.data.toList).toArray⟩ := ⟨_, rfl⟩
    have hKs : K.size = 32 := by rw [hK]; rfl
    obtain ⟨I, hI⟩ : ∃ I : ByteArray, (⟨(maskL K.data.toList 54).toArray⟩ : ByteArray) = I := ⟨_, rfl⟩
    obtain ⟨O, hO⟩ : ∃ O : ByteArray, (⟨(maskL K.data.toList 92).toArray⟩ : ByteArray) = O := ⟨_, rfl⟩
    have hIs : I.size = 64 := by rw [← hI, ← hsize_eq]; exact maskL_length _ _
    have hOs : O.size = 64 := by rw [← hO, ← hsize_eq]; exact maskL_length _ _
    obtain ⟨M, hM⟩ : ∃ M : ByteArray, (⟨(shaL (I ++ s).data.toList).toArray⟩ : ByteArray) = M := ⟨_, rfl⟩
    have hMs : M.size = 32 := by rw [← hM]; rfl
    have HF := Lib.hid (mac_final (k := k) hI hO hM (by unfold shortK; rw [hsize_eq, if_pos hl, hK]))
    have l1 : K.size ≤ 64 := by omega
    have l4 : I.size ≤ 64 := by omega
    have l5 : O.size ≤ 64 := by omega
    have l6 : M.size ≤ 32 := by omega
    have l7 : I.size + s.size ≤ 9223372036854775807 := by omega
    have l8 : O.size + M.size ≤ 9223372036854775807 := by omega
    have l2 : (I ++ s).size ≤ 1099511627776 := by simp; omega
    have l3 : (O ++ M).size ≤ 1099511627776 := by simp; omega
    have HK := Lib.hid hK
    have HI := Lib.hid hI
    have HO := Lib.hid hO
    have HM := Lib.hid hM
    clear hK hKs hI hO hM hIs hOs hMs
    go_enter Tryz.func64, Tryz.ntmps64
    go_wp2_with fail
    refine (rsum_any k _ hk).mono ?_; rintro e w1 ⟨rfl, b1⟩; rw [← HK.out]
    go_wp2_with fail
    refine (rxored_any K 92 92 _ l1 rfl).mono ?_
    rintro e w2 ⟨rfl, b2⟩; rw [HO.out]; have b2 := bnext' b1 b2; clear b1
    go_wp2_with fail
    refine (rxored_any K 54 54 _ l1 rfl).mono ?_
    rintro e w3 ⟨rfl, b3⟩; rw [HI.out]; have b3 := bnext' b2 b3; clear b2
    go_wp2_with fail
    refine (rsum_any (I ++ s) _ l2).mono ?_; rintro e w4 ⟨rfl, b4⟩; rw [HM.out]; have b4 := bnext' b3 b4; clear b3
    go_wp2_with fail
    refine (rsum_any (O ++ M) _ l3).mono ?_; rintro e w5 ⟨rfl, b5⟩; have b5 := bnext' b4 b5; clear b4
    go_wp2
    go_ret
    exact ⟨hret_str (by rw [HF.out]), b5⟩
  · obtain ⟨I, hI⟩ : ∃ I : ByteArray, (⟨(maskL k.data.toList 54).toArray⟩ : ByteArray) = I := ⟨_, rfl⟩
    obtain ⟨O, hO⟩ : ∃ O : ByteArray, (⟨(maskL k.data.toList 92).toArray⟩ : ByteArray) = O := ⟨_, rfl⟩
    have hIs : I.size = 64 := by rw [← hI, ← hsize_eq]; exact maskL_length _ _
    have hOs : O.size = 64 := by rw [← hO, ← hsize_eq]; exact maskL_length _ _
    obtain ⟨M, hM⟩ : ∃ M : ByteArray, (⟨(shaL (I ++ s).data.toList).toArray⟩ : ByteArray) = M := ⟨_, rfl⟩
    have hMs : M.size = 32 := by rw [← hM]; rfl
    have HF := Lib.hid (mac_final (k := k) hI hO hM (by unfold shortK; rw [hsize_eq, if_neg hl]))
    have l1 : k.size ≤ 64 := by omega
    have l4 : I.size ≤ 64 := by omega
    have l5 : O.size ≤ 64 := by omega
    have l6 : M.size ≤ 32 := by omega
    have l7 : I.size + s.size ≤ 9223372036854775807 := by omega
    have l8 : O.size + M.size ≤ 9223372036854775807 := by omega
    have l2 : (I ++ s).size ≤ 1099511627776 := by simp; omega
    have l3 : (O ++ M).size ≤ 1099511627776 := by simp; omega
    have HI := Lib.hid hI
    have HO := Lib.hid hO
    have HM := Lib.hid hM
    clear hI hO hM hIs hOs hMs
    go_enter Tryz.func64, Tryz.ntmps64
    have b1 := Below.refl w.heap.size w
    go_wp2_with fail
    refine (rxored_any k 92 92 _ l1 rfl).mono ?_
    rintro e w2 ⟨rfl, b2⟩; rw [HO.out]; have b2 := bnext' b1 b2; clear b1
    go_wp2_with fail
    refine (rxored_any k 54 54 _ l1 rfl).mono ?_
    rintro e w3 ⟨rfl, b3⟩; rw [HI.out]; have b3 := bnext' b2 b3; clear b2
    go_wp2_with fail
    refine (rsum_any (I ++ s) _ l2).mono ?_; rintro e w4 ⟨rfl, b4⟩; rw [HM.out]; have b4 := bnext' b3 b4; clear b3
    go_wp2_with fail
    refine (rsum_any (O ++ M) _ l3).mono ?_; rintro e w5 ⟨rfl, b5⟩; have b5 := bnext' b4 b5; clear b4
    go_wp2
    go_ret
    exact ⟨hret_str (by rw [HF.out]), b5⟩

theorem cat_fits' {a b : ByteArray} (h : a.size + b.size ≤ 9223372036854775807) : ¬ (9223372036854775807 < a.size + b.size) ∧ ¬ (IntKind.i64.max < ((a.size + b.size : Nat) : Int)) ∧ ¬ (IntKind.i64.max < (a.size : Int) + (b.size : Int)) ∧ decide ((9223372036854775807 : Int) < (a.size : Int) + (b.size : Int)) = false := by
  have e : IntKind.i64.max = 9223372036854775807 := by decide
  refine ⟨by omega, by rw [e]; omega, by rw [e]; omega, by simp; omega⟩
/-- What the loop of Hex knows. -/
def RHexR (s : ByteArray) (w : World) (v i : Value) (wr : World) : Prop :=
  ∃ (k : Nat) (L : ByteArray), k ≤ s.size ∧ i = .int .i64 k ∧ v = .string L ∧ L.data.toList = hexL (s.data.toList.take k) ∧ L.size = 2 * k ∧ Below w.heap.size w wr
theorem two_string (a b : UInt8) (w : World) : (convert 69 9 (.slice (some ⟨w.heap.size, 0, none⟩) 2 2)).run Tryz.prog (w.alloc (.cells #[.int .u8 (a.toNat : Int), .int .u8 (b.toNat : Int)] 5)) = .ok (.string ⟨#[a, b]⟩) (w.alloc (.cells #[.int .u8 (a.toNat : Int), .int .u8 (b.toNat : Int)] 5)) :=
  (new_lies [a, b] _ rfl w w.heap.size (Nat.le_refl _) 2 rfl).string
theorem two_string_d (a b : UInt8) (w : World) : (convert 69 9 (.slice (some ⟨w.heap.size, 0, none⟩) 2 2)).run Tryz.prog (w.alloc (.cells #[.int .u8 (a.toNat : Int), .int .u8 (b.toNat : Int)] 5)).drew = .ok (.string ⟨#[a, b]⟩) (w.alloc (.cells #[.int .u8 (a.toNat : Int), .int .u8 (b.toNat : Int)] 5)).drew :=
  ((new_lies [a, b] _ rfl w w.heap.size (Nat.le_refl _) 2 rfl).below ((Below.refl _ _).drew)).string

end Go.Proofs.YtehbbghobagkjaaGreatDoor

