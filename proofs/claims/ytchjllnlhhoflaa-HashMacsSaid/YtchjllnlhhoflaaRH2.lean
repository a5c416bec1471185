/-
  Contracts of the reference of layer 5, the second part: compress.
-/
import Derived.Test.YtchjllnlhhoflaaRH1
namespace Go.Proofs.Ytchjllnlhhoflaa
open Go.RowKit Go.Deep
set_option linter.unusedVariables false

/-- n words as values. -/
def wvals (n : Nat) (f : Nat → Nat) : List Value := (List.range n).map fun j => Value.int .u32 (f j : Nat)
theorem wvals_get (n : Nat) (f : Nat → Nat) (j : Nat) (h : j < n) : (wvals n f)[j]? = some (.int .u32 (f j : Nat)) := by simp [wvals, h]
theorem wvals_length (n : Nat) (f : Nat → Nat) : (wvals n f).length = n := by simp [wvals]
theorem wvals_one (n : Nat) (f : Nat → Nat) : ∀ u ∈ wvals n f, u.oneCell' = true := by
  intro u hu
  simp only [wvals, List.mem_map] at hu
  obtain ⟨c, _, rfl⟩ := hu
  rfl
theorem own_rowW {w : World} {base n : Nat} {v : Value} {f : Nat → Nat} (h : w.ownsRow base 32 1 v n (wvals n f)) (h0 : 0 < n) :
    ∃ g cap, v = .slice (some ⟨g, 0, none⟩) n cap ∧ base ≤ g ∧ RowW w g cap n f := by
  obtain ⟨hl, h | ⟨g, cap, cur, hv, hb, hg, hc, hm, hs, ht⟩⟩ := h
  · omega
  · refine ⟨g, cap, hv, hb, fun j => cur[j]?.getD undef, ⟨cur, hg, by omega, fun i hi => ?_⟩, hc, fun j hj => ?_⟩
    · have hi' : i < cur.size := by omega
      show cur[i]? = some (cur[i]?.getD undef)
      rw [Array.getElem?_eq_getElem hi']; rfl
    · have e : (cur.toList.take (n * 1))[j]? = (wvals n f)[j]? := by rw [ht]
      rw [wvals_get n f j hj, List.getElem?_take, if_pos (by omega)] at e
      have e' : cur[j]? = some (.int .u32 (f j : Nat)) := by simpa using e
      show cur[j]?.getD undef = _
      rw [e']; rfl
theorem empty_own (w : World) (base : Nat) (hb : base ≤ w.heap.size) : (w.alloc (.cells #[] 32)).ownsRow base 32 1 (.slice (some ⟨w.heap.size, 0, none⟩) 0 0) 0 [] :=
  ⟨rfl, .inr ⟨w.heap.size, 0, #[], rfl, hb, blk_alloc_new _ _, Nat.le_refl _, by unfold maxLen; omega, rfl, rfl⟩⟩
theorem rowW_src {w : World} {g N n : Nat} {f : Nat → Nat} (h : RowW w g N n f) : ∀ j u, (wvals n f)[j]? = some u → w.cell? ((⟨g, 0, none⟩ : Addr).add j) = some u := by
  intro j u hj
  have hjl := (List.getElem?_eq_some_iff.1 hj).1
  rw [wvals_length] at hjl
  rw [show (⟨g, 0, none⟩ : Addr).add j = ⟨g, j, none⟩ by unfold Addr.add; split <;> simp_all, h.cell hjl, ← wvals_get n f j hjl, hj]
/-- The state behind k rounds. -/
def rk (s : ByteArray) (k : Nat) (t : St) : St := rnds (fun i => kTab.getD i 0) (sB s) k t
/-- What the first loop knows. -/
def CmpR (s : ByteArray) (t : St) (gW gK : Nat) (w : World) (v i : Value) (wr : World) : Prop :=
  ∃ (k g cap N : Nat) (u : St), k ≤ 64 ∧ i = .int .i64 k ∧ u = rk s k t ∧ v = .slice (some ⟨g, 0, none⟩) 8 cap ∧ RowW wr g N 8 (stF u) ∧ RowW wr gW 64 64 (sB s) ∧ RowW wr gK 64 64 (fun i => kTab.getD i 0) ∧ w.heap.size ≤ g ∧ Below w.heap.size w wr
theorem RowW.grown {w w' : World} {g N n : Nat} {f : Nat → Nat} {row : Option Nat} (h : RowW w g N n f) (hg : w.grownBy w' row) (hne : some g ≠ row) : RowW w' g N n f := by
  obtain ⟨F, h1, h2, h3⟩ := h
  exact ⟨F, h1.of_block (hg.block _ h1.lt hne), h2, h3⟩
theorem cmp_start {s : ByteArray} {t : St} {cap g : Nat} {w w1 w3 : World} (hgrow : ((w1.alloc (.cells kRow 32)).alloc (.cells #[] 32)).grownBy w3 (Value.slice (some ⟨w1.heap.size + 1, 0, none⟩) 0 0).ownBlock)
    (hK : RowW (w1.alloc (.cells kRow 32)) w1.heap.size 64 64 (fun i => kTab.getD i 0)) (hW : RowW (w1.alloc (.cells kRow 32)) w.heap.size 64 64 (sB s)) (hb : Below w.heap.size w (w1.alloc (.cells kRow 32)))
    (hr : RowW w3 g cap 8 (stF t)) (hg : w.heap.size ≤ g) (h1 : w.heap.size ≤ w1.heap.size) : CmpR s t w.heap.size w1.heap.size w (.slice (some ⟨g, 0, none⟩) 8 cap) (.int .i64 0) w3 := by
  have ha := (Below.refl (w1.alloc (.cells kRow 32)).heap.size (w1.alloc (.cells kRow 32))).alloc (Nat.le_refl _) (.cells #[] 32)
  refine ⟨0, g, cap, cap, t, by omega, rfl, rfl, rfl, hr, (hW.below ha).grown hgrow ?_, (hK.below ha).grown hgrow ?_, hg, ?_⟩
  · simp [Value.ownBlock]; omega
  · simp [Value.ownBlock]
  · exact (hb.trans (ha.mono (by simp; omega))).grown hgrow (by simp; omega) (fun z hz => by simp [Value.ownBlock] at hz; omega)
theorem mixF_other (u t : St) {i k : Nat} (h : i ≠ k) : mixF u t (k + 1) i = mixF u t k i := by
  unfold mixF
  by_cases e : i < k
  · rw [if_pos e, if_pos (by omega)]
  · rw [if_neg e, if_neg (by omega)]
theorem new_rowW (w : World) (t : St) : RowW (w.alloc (.cells (stC t) 32)) w.heap.size 8 8 (stF t) :=
  ⟨_, World.rowIs_alloc w (stC t) 32 (fun i => .int .u32 (stF t i : Nat)) (fun i hi => stC_get t i hi), by omega, fun j hj => rfl⟩
theorem cmp_step {s : ByteArray} {t u : St} {gW gK g N k q m kk ww : Nat} {w wr : World} (hk : k < 64) (hb : Below w.heap.size w wr) (hv : RowW wr g N 8 (stF u)) (hW : RowW wr gW 64 64 (sB s)) (hK : RowW wr gK 64 64 (fun i => kTab.getD i 0)) (hu : u = rk s k t)
    (hkk : kk = kTab.getD k 0) (hww : ww = sB s k) (hg : w.heap.size ≤ g) :
    CmpR s t gW gK w (.slice (some ⟨(wr.drewN q).heap.size, 0, none⟩) 8 8) (.int .i64 ((k : Int) + 1)) (((wr.drewN q).drewN m).alloc (.cells (stC (rnd kk ww u)) 32)) := by
  have hb1 : Below wr.heap.size wr ((wr.drewN q).drewN m) := below_drewN (below_drewN (Below.refl _ _) q) m
  have hb2 : Below wr.heap.size wr (((wr.drewN q).drewN m).alloc (.cells (stC (rnd kk ww u)) 32)) := hb1.alloc hb1.size _
  refine ⟨k + 1, wr.heap.size, 8, 8, rnd kk ww u, by omega, by go_num, ?_, rfl, new_rowW ((wr.drewN q).drewN m) _, hW.below hb2, hK.below hb2, hb.size, bnext' hb hb2⟩
  rw [hu, hkk, hww]; rfl
theorem comp_stF {s : ByteArray} {t u : St} (h : u = rk s 64 t) : comp t s.data.toList = addS u t := by rw [h]; rfl
theorem mix8 (u t : St) (j : Nat) (h : j < 8) : stF (addS u t) j = mixF u t 8 j := by
  unfold mixF
  rw [if_pos h]
  match j, h with
  | 0, _ => rfl
  | 1, _ => rfl
  | 2, _ => rfl
  | 3, _ => rfl
  | 4, _ => rfl
  | 5, _ => rfl
  | 6, _ => rfl
  | 7, _ => rfl
/-- What the second loop knows. -/
def CmpQ (r t : St) (g N : Nat) (w : World) (i : Value) (wr : World) : Prop :=
  ∃ k : Nat, k ≤ 8 ∧ i = .int .i64 k ∧ RowW wr g N 8 (mixF r t k) ∧ w.heap.size ≤ g ∧ Below w.heap.size w wr
/-- What compress gives. -/
def CmpP (s : ByteArray) (t : St) (w : World) (e : Ending) (w' : World) : Prop :=
  ∃ g cap N : Nat, e = .returned (.slice (some ⟨g, 0, none⟩) 8 cap) ∧ RowW w' g N 8 (stF (comp t s.data.toList)) ∧ w.heap.size ≤ g ∧ Below w.heap.size w w'

set_option maxHeartbeats 1000000 in
set_option maxRecDepth 100000 in
theorem rcompress_any (t : St) (g0 N0 cap0 : Nat) (s : ByteArray) (w : World) (hs : s.size = 64) (hrow : RowW w g0 N0 8 (stF t)) :
    Calls Try.prog 22 #[.slice (some ⟨g0, 0, none⟩) 8 cap0, .string s] w fun e w' => CmpP s t w e w' := by
  have HS := Lib.hid hs; clear hs
  have HR0 := Lib.hid hrow; clear hrow
  obtain ⟨i0, hi, hz0, hz1, hz2⟩ := info_parts Try.hinfo32
  go_enter Try.func22, Try.ntmps22
  go_wp2_with fail
  refine (rschedule_any s _ HS.out).mono ?_; rintro e w1 ⟨rfl, hW, b1⟩
  have HB1 := Lib.hid b1.size
  go_wp2_with fail
  refine (rconstants_any _).mono ?_; rintro e w2 ⟨rfl, rfl⟩
  have hK := kRow_rowW w1
  have b2 : Below w.heap.size w (w1.alloc (.cells kRow 32)) := b1.alloc b1.size _
  have hW2 : RowW (w1.alloc (.cells kRow 32)) w.heap.size 64 64 (sB s) := hW.below ((Below.refl _ _).alloc (Nat.le_refl _) _)
  have h02 : RowW (w1.alloc (.cells kRow 32)) g0 N0 8 (stF t) := HR0.out.below b2
  have hE := empty_own (w1.alloc (.cells kRow 32)) w.heap.size b2.size
  rw [show (w1.alloc (.cells kRow 32)).heap.size = w1.heap.size + 1 by simp] at hE
  have HE := Lib.hid hE
  clear hE
  have HC := Lib.hid (And.intro hK (And.intro b2 (And.intro hW2 h02)))
  clear hK b2 hW2 h02 hW b1
  go_wp2_with (at_builtin; refine wpList_append_own _ rfl _ _ 36 rfl w.heap.size 32 i0 (.int .u32 0) 1 4 Try.hund36 hi hz0 hz1 hz2 rfl (by decide) _ _ _ rfl HE.out ⟨g0, 0, none⟩ 8 cap0 (wvals 8 (stF t)) rfl rfl ?c1 ?c2 ?c3 ?c4 ?c5 ?_)
  case c1 => exact rowW_src (HC.out.2.2.2.below ((Below.refl _ _).alloc (Nat.le_refl _) _))
  case c2 => exact wvals_one _ _
  case c3 => unfold maxLen; omega
  case c4 => omega
  case c5 => have := HC.out.2.1.size; simp at this ⊢; omega
  intro v' w3 hown3 hgrow _
  obtain ⟨g, cap, rfl, hg, hrg⟩ := own_rowW hown3 (by omega)
  have hS := cmp_start (s := s) (t := t) (cap := cap) hgrow HC.out.1 HC.out.2.2.1 HC.out.2.1 hrg hg HB1.out
  have HS3 := Lib.hid hS
  clear hS hown3 hgrow hrg HE
  obtain ⟨gW, hgW⟩ : ∃ q, q = w.heap.size := ⟨_, rfl⟩
  obtain ⟨gK, hgK⟩ : ∃ q, q = w1.heap.size := ⟨_, rfl⟩
  rw [← hgW, ← hgK] at HS3
  rw [← hgW, ← hgK]
  clear hgK HC
  have HGW := Lib.hid hgW
  clear hgW
  go_wp2
  go_loopw [7, 8] (fun v i wr => CmpR s t gW gK w v i wr) (fun _ i _ => 64 - (intOf i).toNat)
  case atStart => exact HS3.out
  case round =>
    clear HS3
    obtain ⟨k, g, cap, N, u, hk, rfl, hu, rfl, hv, hW, hK, hg, hbel⟩ := hrel
    have HU := Lib.hid hu; clear hu
    by_cases hlt : k < 64
    · have c0 : wr.cell? ⟨g, 0, none⟩ = some (.int .u32 (u.a : Nat)) := hv.cell (by omega)
      have c1 : wr.cell? ⟨g, 1, none⟩ = some (.int .u32 (u.b : Nat)) := hv.cell (by omega)
      have c2 : wr.cell? ⟨g, 2, none⟩ = some (.int .u32 (u.c : Nat)) := hv.cell (by omega)
      have c3 : wr.cell? ⟨g, 3, none⟩ = some (.int .u32 (u.d : Nat)) := hv.cell (by omega)
      have c4 : wr.cell? ⟨g, 4, none⟩ = some (.int .u32 (u.e : Nat)) := hv.cell (by omega)
      have c5 : wr.cell? ⟨g, 5, none⟩ = some (.int .u32 (u.f : Nat)) := hv.cell (by omega)
      have c6 : wr.cell? ⟨g, 6, none⟩ = some (.int .u32 (u.g : Nat)) := hv.cell (by omega)
      have c7 : wr.cell? ⟨g, 7, none⟩ = some (.int .u32 (u.h : Nat)) := hv.cell (by omega)
      have ck := hK.cell (j := k) hlt
      have cw := hW.cell (j := k) hlt
      obtain ⟨kk, hkk⟩ : ∃ kk, kk = kTab.getD k 0 := ⟨_, rfl⟩
      obtain ⟨ww, hww⟩ : ∃ ww, ww = sB s k := ⟨_, rfl⟩
      rw [← hkk] at ck
      rw [← hww] at cw
      have HK := Lib.hid hkk
      have HW2 := Lib.hid hww
      have HV := Lib.hid hv
      have HWR := Lib.hid hW
      have HKR := Lib.hid hK
      clear hkk hww hv hW hK
      have hX := b_xor
      have hA := b_add
      have hN := b_and
      have hO := b_not2
      go_wp2
      go_quiet (fail)
      go_wp2
      refine gen_world (p := fun W => Code.wp _ _ _ _ W) (fun W => ∃ q, W = wr.drewN q) ⟨_, rfl⟩ ?_
      rintro w4 ⟨q4, h4⟩
      have d3 : w4.cell? ⟨g, 3, none⟩ = some (.int .u32 (u.d : Nat)) := by rw [h4]; exact c3
      have d7 : w4.cell? ⟨g, 7, none⟩ = some (.int .u32 (u.h : Nat)) := by rw [h4]; exact c7
      have dk : w4.cell? ⟨gK, k, none⟩ = some (.int .u32 (kk : Nat)) := by rw [h4]; exact ck
      have dw : w4.cell? ⟨gW, k, none⟩ = some (.int .u32 (ww : Nat)) := by rw [h4]; exact cw
      have H4 := Lib.hid h4
      clear h4 c0 c1 c2 c3 c4 c5 c6 c7 ck cw
      go_quiet ((go_at_call 29; exact q_some (rright_z _ _ _ (by omega) (by omega))))
      go_wp2_with fail
      refine (rright_z _ _ _ (by omega) (by omega)).mono ?_
      rintro e w' ⟨rfl, q1, rfl⟩
      go_wp2_with fail
      refine (rright_z _ _ _ (by omega) (by omega)).mono ?_
      rintro e w' ⟨rfl, q2, rfl⟩
      go_wp2_with fail
      refine (rright_z _ _ _ (by omega) (by omega)).mono ?_
      rintro e w' ⟨rfl, q3, rfl⟩
      go_wp2
      go_roundw
      case rel =>
        have e := cmp_step (q := q4) (m := nq + q1 + q2 + q3) hlt hbel HV.out HWR.out HKR.out HU.out HK.out HW2.out hg
        rw [← H4.out] at e
        have hs4 : w4.heap.size = wr.heap.size := by rw [H4.out]; rfl
        exact e
      case measure => simp [intOf]; omega
    · obtain rfl : k = 64 := by omega
      have h0 := HR0.out.below hbel
      have hlt0 := HR0.out.lt
      have hq0 : CmpQ u t g N w (.int .i64 0) wr := ⟨0, by omega, rfl, hv.congr (fun j hj => by unfold mixF; rw [if_neg (by omega)]), hg, hbel⟩
      have H00 := Lib.hid h0
      have HQ := Lib.hid hq0
      have hne : ¬ g0 = g := by omega
      have hne2 : ¬ g = g0 := by omega
      clear h0 hq0 hv hW hK hbel hlt hk
      go_wp2
      go_loopw [17] (fun i wr => CmpQ u t g N w i wr ∧ RowW wr g0 N0 8 (stF t)) (fun i _ => 8 - (intOf i).toNat)
      case atStart => exact ⟨HQ.out, H00.out⟩
      case round =>
        clear HQ H00
        obtain ⟨⟨k, hk, rfl, hrow, hg', hbel⟩, h0⟩ := hrel
        by_cases hlt : k < 8
        · have e1 := hrow.cell (j := k) hlt
          have e2 := h0.cell (j := k) hlt
          have e3 := hrow.frozen k
          rw [mixF_at] at e1
          obtain ⟨x, hx⟩ : ∃ x, x = stF u k := ⟨_, rfl⟩
          obtain ⟨y, hy⟩ : ∃ y, y = stF t k := ⟨_, rfl⟩
          rw [← hx] at e1
          rw [← hy] at e2
          have hst : RowW (wr.setCell ⟨g, k, none⟩ (.int .u32 ((pl x y : Nat) : Int))) g N 8 (mixF u t (k + 1)) :=
            hrow.set (by rw [hx, hy]; unfold mixF; rw [if_pos (by omega)]) (fun i hi hne => mixF_other u t hne)
          have h0' : RowW (wr.setCell ⟨g, k, none⟩ (.int .u32 ((pl x y : Nat) : Int))) g0 N0 8 (stF t) := by
            obtain ⟨F, f1, f2, f3⟩ := h0
            exact ⟨F, f1.setOther (by exact hne) _, f2, f3⟩
          have hA := b_add
          have HST := Lib.hid hst
          have H0' := Lib.hid h0'
          clear hst hrow h0 h0' hx hy
          go_wp2
          go_region
          go_wp2
          go_roundw
          case rel => exact ⟨⟨k + 1, by omega, by go_num, HST.out, hg', (hbel.setCell hg' _).drew⟩, H0'.out⟩
          case measure => simp [intOf]; omega
        · obtain rfl : k = 8 := by omega
          have hfin : RowW wr g N 8 (stF (comp t s.data.toList)) := hrow.congr (fun j hj => by rw [comp_stF HU.out]; exact mix8 u t j hj)
          have HF := Lib.hid hfin
          clear hfin hrow h0
          go_wp2
          go_ret
          exact ⟨g, cap, N, rfl, HF.out, hg', hbel⟩
end Go.Proofs.Ytchjllnlhhoflaa
