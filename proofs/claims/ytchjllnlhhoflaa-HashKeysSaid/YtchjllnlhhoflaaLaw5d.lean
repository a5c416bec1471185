/-
  The walk of HashKeys.
-/
import Derived.Test.YtchjllnlhhoflaaLaw5a
import Derived.RegionTactic
import Derived.Deep.RegionHeld3
namespace Go.Proofs.Ytchjllnlhhoflaa
open Go.RowKit Go.Deep
set_option linter.unusedVariables false

theorem mskK_start {w : World} {g : Nat} {t : TypeId} {k : ByteArray} {x : UInt8} {cur : Array Value} (hg : w.heap[g]? = some (.cells cur t (0, 0))) (hc : cur.toList = List.replicate 64 (Value.int .u8 0)) (hk : k.size ≤ 64) :
    (w.setRow g (Lib.byteCells k.data.toList ++ cur.toList.drop k.size).toArray).rowIs g t 64 (fun j => .int .u8 (mskF k.data.toList x 0 j : Nat)) := by
  rw [hc, ← zeros64b_list]
  have e : cur = zeros64b := by cases cur; simp at hc; subst hc; rfl
  subst e
  exact msk_start hg hk
/-- The two rows. -/
def KeysK (k : ByteArray) (q gi go : Nat) (w wr : World) : Prop :=
  wr.rowIs gi 5 64 (fun j => .int .u8 (mskF k.data.toList 54 q j : Nat)) ∧ wr.rowIs go 5 64 (fun j => .int .u8 (mskF k.data.toList 92 q j : Nat)) ∧ gi ≠ go ∧ w.heap.size ≤ gi ∧ w.heap.size ≤ go ∧ Below w.heap.size w wr
theorem KeysK.below {k : ByteArray} {q gi go : Nat} {w wr w' : World} (h : KeysK k q gi go w wr) (b : Below wr.heap.size wr w') : KeysK k q gi go w w' := by
  obtain ⟨h1, h2, h3, h4, h5, h6⟩ := h
  exact ⟨h1.of_block (b.block _ h1.lt), h2.of_block (b.block _ h2.lt), h3, h4, h5, bnext' h6 b⟩
/-- What the loop knows. -/
def KeysR (k : ByteArray) (gi go : Nat) (w : World) (v : Value) (wr : World) : Prop :=
  ∃ q : Nat, q ≤ 64 ∧ v = .int .i64 q ∧ KeysK k q gi go w wr
def cM : Array Value := madeCells #[.int .u8 0] 64
theorem cM_list : cM.toList = List.replicate 64 (Value.int .u8 0) := by unfold cM; rw [madeCells_list]
theorem cM_size : cM.size = 64 := by unfold cM; rw [size_madeCells]
theorem cM_fit {k : ByteArray} (h : k.size ≤ 64) : k.size ≤ cM.size := by rw [cM_size]; exact h
/-- The two new rows. -/
def KeysM (G : Nat) (w wr : World) : Prop :=
  wr.heap[G]? = some (.cells cM 5 (0, 0)) ∧ wr.heap[G + 1]? = some (.cells cM 5 (0, 0)) ∧ w.heap.size ≤ G ∧ Below w.heap.size w wr
theorem keysM_start {w wr : World} (hb : Below w.heap.size w wr) : KeysM wr.heap.size w ((wr.alloc (.cells (madeCells #[.int .u8 0] 64) 5)).alloc (.cells (madeCells #[.int .u8 0] 64) 5)).drew := by
  refine ⟨?_, ?_, hb.size, ((hb.alloc hb.size _).alloc (by have := hb.size; simp; omega) _).drew⟩
  · show ((wr.alloc (.cells (madeCells #[.int .u8 0] 64) 5)).alloc (.cells (madeCells #[.int .u8 0] 64) 5)).heap[wr.heap.size]? = _
    rw [blk_alloc_lt _ _ _ (by simp), blk_alloc_new]; rfl
  · show ((wr.alloc (.cells (madeCells #[.int .u8 0] 64) 5)).alloc (.cells (madeCells #[.int .u8 0] 64) 5)).heap[wr.heap.size + 1]? = _
    rw [show wr.heap.size + 1 = (wr.alloc (.cells (madeCells #[.int .u8 0] 64) 5)).heap.size by simp]; exact blk_alloc_new _ _
theorem keys_start {k : ByteArray} {gi go : Nat} {w wr : World} (h1 : wr.heap[gi]? = some (.cells cM 5 (0, 0))) (h2 : wr.heap[go]? = some (.cells cM 5 (0, 0))) (hne : gi ≠ go) (b1 : w.heap.size ≤ gi) (b2 : w.heap.size ≤ go) (hb : Below w.heap.size w wr) (hk : k.size ≤ 64) :
    KeysR k gi go w (.int .i64 0) ((wr.setRow gi (Lib.byteCells k.data.toList ++ cM.toList.drop k.size).toArray).setRow go (Lib.byteCells k.data.toList ++ cM.toList.drop k.size).toArray) := by
  refine ⟨0, by omega, rfl, ?_, ?_, hne, b1, b2, below_setRow (below_setRow hb b1 _) b2 _⟩
  · exact (mskK_start h1 cM_list hk).of_block (setRow_other _ _ _ _ hne)
  · exact mskK_start ((setRow_other _ _ _ _ (fun e => hne e.symm)).trans h2) cM_list hk
theorem KeysK.below2 {k : ByteArray} {q gi go : Nat} {w wr w' : World} (b : Below wr.heap.size wr w') (h : KeysK k q gi go w wr) : KeysK k q gi go w w' := h.below b
theorem KeysK.drew {k : ByteArray} {q gi go : Nat} {w wr : World} (h : KeysK k q gi go w wr) : KeysK k q gi go w wr.drew := ⟨h.1, h.2.1, h.2.2.1, h.2.2.2.1, h.2.2.2.2.1, h.2.2.2.2.2.drew⟩
theorem keys_all {k I O : ByteArray} {gi go : Nat} {w wr : World} (hI : (⟨(maskL k.data.toList 54).toArray⟩ : ByteArray) = I) (hO : (⟨(maskL k.data.toList 92).toArray⟩ : ByteArray) = O) (h : KeysK k 64 gi go w wr) :
    KeysK k 64 gi go w wr ∧ (convert 27 9 (.slice (some ⟨gi, 0, none⟩) 64 64)).run Try.prog wr = .ok (.string I) wr ∧ (convert 27 9 (.slice (some ⟨go, 0, none⟩) 64 64)).run Try.prog wr = .ok (.string O) wr := by
  refine ⟨h, ?_, ?_⟩
  · rw [← hI]; exact msk_string h.1 64
  · rw [← hO]; exact msk_string h.2.1 64
theorem keys_of {k I O : ByteArray} {gi go : Nat} {w wr : World} (h : KeysK k 64 gi go w wr ∧ (convert 27 9 (.slice (some ⟨gi, 0, none⟩) 64 64)).run Try.prog wr = .ok (.string I) wr ∧ (convert 27 9 (.slice (some ⟨go, 0, none⟩) 64 64)).run Try.prog wr = .ok (.string O) wr) : KeysK k 64 gi go w wr := h.1
theorem hnext {w a b : World} (h : Hid (Below w.heap.size w a)) (k : Below a.heap.size a b) : Hid (Below w.heap.size w b) := Lib.hid (bnext' h.out k)
theorem cat_fits {a b : ByteArray} (h : a.size + b.size ≤ 9223372036854775807) : ¬ (9223372036854775807 < a.size + b.size) ∧ ¬ (IntKind.i64.max < ((a.size + b.size : Nat) : Int)) ∧ ¬ (IntKind.i64.max < (a.size : Int) + (b.size : Int)) ∧ decide ((9223372036854775807 : Int) < (a.size : Int) + (b.size : Int)) = false := by
  have e : IntKind.i64.max = 9223372036854775807 := by decide
  refine ⟨by omega, by rw [e]; omega, by rw [e]; omega, by simp; omega⟩
theorem hmake64 (w : World) : (Instr.makeSlice 27 (.int .i64 64) (.int .i64 64)).run Try.prog w = .ok (.slice (some ⟨w.heap.size, 0, none⟩) 64 64) (w.alloc (.cells (madeCells #[.int .u8 0] 64) 5)) := hmakeF 64 (by omega) w
set_option maxHeartbeats 1000000 in
set_option maxRecDepth 100000 in
theorem law_HashKeys (key s : ByteArray) (hk : key.size ≤ maxLen) (hs : s.size ≤ maxLen) (w : World) :
    Calls Try.prog 6 #[.string key, .string s] w fun e w' => e = .returned (.bool true) ∧ Below w.heap.size w w' := by
  unfold maxLen at hs hk
  by_cases hbig : 300 < key.size ∨ 600 < s.size
  · by_cases h1 : 300 < key.size
    · go_enter Try.func6, Try.ntmps6
      go_wp2_with fail
      refine (awake5 _).mono ?_; rintro e w1 ⟨rfl, b1⟩
      go_wp2
      go_ret
      exact ⟨rfl, b1⟩
    · have h2 : 600 < s.size := by omega
      clear hbig
      go_enter Try.func6, Try.ntmps6
      go_wp2_with fail
      refine (awake5 _).mono ?_; rintro e w1 ⟨rfl, b1⟩
      go_wp2
      go_ret
      exact ⟨rfl, b1⟩
  · have h1 : ¬ 300 < key.size := by omega
    have h2 : ¬ 600 < s.size := by omega
    clear hbig
    have hmk := hmake64
    by_cases hl : 64 < key.size
    · obtain ⟨K, hK⟩ : ∃ K : ByteArray, (⟨(shaL key.data.toList).toArray⟩ : ByteArray) = K := ⟨_, rfl⟩
      have hKs : K.size = 32 := by rw [← hsize_eq, ← hK, ba_list, shaL_length]
      have l0 : K.size ≤ 64 := by omega
      have hKS : shortK key.data.toList = K.data.toList := by unfold shortK; rw [hsize_eq, if_pos hl, ← hK]
      have HK := Lib.hid hK
      clear hK hKs
      obtain ⟨I, hI⟩ : ∃ I : ByteArray, (⟨(maskL K.data.toList 54).toArray⟩ : ByteArray) = I := ⟨_, rfl⟩
      obtain ⟨O, hO⟩ : ∃ O : ByteArray, (⟨(maskL K.data.toList 92).toArray⟩ : ByteArray) = O := ⟨_, rfl⟩
      have hIs : I.size = 64 := by rw [← hI, ← hsize_eq]; exact maskL_length _ _
      have hOs : O.size = 64 := by rw [← hO, ← hsize_eq]; exact maskL_length _ _
      obtain ⟨J, hJ⟩ : ∃ J : ByteArray, (⟨(shaL (I ++ s).data.toList).toArray⟩ : ByteArray) = J := ⟨_, rfl⟩
      have hJs : J.size = 32 := by rw [← hsize_eq, ← hJ, ba_list, shaL_length]
      obtain ⟨M, hM⟩ : ∃ M : ByteArray, (⟨(macL key.data.toList s.data.toList).toArray⟩ : ByteArray) = M := ⟨_, rfl⟩
      have hf := mac_final (k := key) hI hO hJ hKS
      have hM2 : (⟨(shaL (O ++ J).data.toList).toArray⟩ : ByteArray) = M := by rw [ByteArray.data_append, Array.toList_append, hf, hM]
      have hMK : (⟨(macL K.data.toList s.data.toList).toArray⟩ : ByteArray) = M := by rw [← hM, ← mac_final (k := K) hI hO hJ (by unfold shortK; rw [hsize_eq, if_neg (by omega)]), hf]
      have l2 : (I ++ s).size ≤ 1099511627776 := by simp; omega
      have l3 : (O ++ J).size ≤ 1099511627776 := by simp; omega
      have l4 : I.size ≤ 64 := by omega
      have l5 : O.size ≤ 64 := by omega
      have l6 : J.size ≤ 32 := by omega
      have l7 : I.size + s.size ≤ 9223372036854775807 := by omega
      have l8 : O.size + J.size ≤ 9223372036854775807 := by omega
      have l9 : key.size ≤ 1099511627776 := by omega
      have l9b : K.size ≤ 1099511627776 := by omega
      have l10 : s.size ≤ 1099511627000 := by omega
      have HI := Lib.hid hI
      have HO := Lib.hid hO
      have HJ := Lib.hid hJ
      have HM := Lib.hid hM
      have HM2 := Lib.hid hM2
      have HMK := Lib.hid hMK
      clear hI hO hIs hOs hJ hJs hM hf hM2 hMK hKS
      go_enter Try.func6, Try.ntmps6
      go_wp2_with fail
      refine (sum_to key K _ (by omega) HK.out).mono ?_; rintro e w1 ⟨rfl, b1⟩
      go_wp2
      go_region
      · refine gen_world (p := fun W => Exit.then _ _ _ _ W) (KeysM w1.heap.size w) (keysM_start b1) ?_
        obtain ⟨G, hG⟩ : ∃ G, G = w1.heap.size := ⟨_, rfl⟩
        rw [← hG]
        clear hG
        intro wx hM
        obtain ⟨hm1, hm2, hm3, hm4⟩ := hM
        go_wp2_with (first
          | (refine hcopy_str rfl _ _ rfl (G) 64 64 K rfl rfl cM 5 hm1 l0 (cM_fit l0) ?_)
          | (refine hcopy_str rfl _ _ rfl (G + 1) 64 64 K rfl rfl cM 5 ((setRow_other _ _ _ _ (by omega)).trans hm2) l0 (cM_fit l0) ?_))
        have h0 := keys_start (w := w) (gi := G) (go := G + 1) (k := K) hm1 hm2 (by omega) (by omega) (by omega) hm4 l0
        have H0 := Lib.hid h0
        clear h0 hm1 hm2 hm4 hmk
        go_loopw [8] (fun v wr => KeysR K (G) (G + 1) w v wr) (fun v _ => 64 - (intOf v).toNat)
        case atStart => exact H0.out
        case round =>
          clear H0
          obtain ⟨q, hq, rfl, hr1, hr2, hne, hg1, hg2, hbel⟩ := hrel
          by_cases hlt : q < 64
          · have c1 := hr1.cell (i := q) hlt
            have f1 := hr1.frozen q
            have c2 := hr2.cell (i := q) hlt
            have f2 := hr2.frozen q
            rw [mskF_at] at c1 c2
            have x1 := msk_xor (K.data.toList.getD q 0) 54
            have x2 := msk_xor (K.data.toList.getD q 0) 92
            obtain ⟨a, ha⟩ : ∃ a, a = (K.data.toList.getD q 0).toNat := ⟨_, rfl⟩
            rw [← ha] at x1 x2 c1 c2
            have y1 : bits .xor .u8 (a : Int) 54 = (((K.data.toList.getD q 0) ^^^ 54).toNat : Int) := x1
            have y2 : bits .xor .u8 (a : Int) 92 = (((K.data.toList.getD q 0) ^^^ 92).toNat : Int) := x2
            obtain ⟨v1, hv1⟩ : ∃ v1, v1 = (((K.data.toList.getD q 0) ^^^ 54).toNat) := ⟨_, rfl⟩
            obtain ⟨v2, hv2⟩ : ∃ v2, v2 = (((K.data.toList.getD q 0) ^^^ 92).toNat) := ⟨_, rfl⟩
            rw [← hv1] at y1
            rw [← hv2] at y2
            have HR1 := Lib.hid hr1
            have HR2 := Lib.hid hr2
            have HV1 := Lib.hid hv1
            have HV2 := Lib.hid hv2
            clear hr1 hr2 x1 x2 ha hv1 hv2
            go_wp2
            go_roundw
            case rel =>
              have k1 := msk_row (v := (v1 : Int)) HR1.out (by rw [HV1.out])
              have k2 := msk_row (v := (v2 : Int)) HR2.out (by rw [HV2.out])
              exact ⟨q + 1, by omega, by go_num, k1.setOther (by simp) _, (HR2.out.setOther (a := ⟨G, q, none⟩) (by simp) _ |> fun h => msk_row (v := (v2 : Int)) h (by rw [HV2.out])), hne, hg1, hg2, (hbel.setCell (by simp; omega) _).setCell (by simp; omega) _⟩
            case measure => simp [intOf]; omega
          · obtain rfl : q = 64 := by omega
            have hKK : KeysK K 64 (G) (G + 1) w wr := ⟨hr1, hr2, hne, hg1, hg2, hbel⟩
            clear hr1 hr2
            go_wp2
            have hbd := Lib.hid (hbel.drew)
            obtain ⟨f1, f2, f3, f4⟩ := cat_fits l7
            obtain ⟨g1, g2, g3, g4⟩ := cat_fits l8
            have l7j : ¬ (9223372036854775807 : Int) < (I.size : Int) + (s.size : Int) := by omega
            have l8j : ¬ (9223372036854775807 : Int) < (O.size : Int) + (J.size : Int) := by omega
            go_region_held3 (fun w' => KeysK K 64 (G) (G + 1) w w' ∧ (convert 27 9 (.slice (some ⟨G, 0, none⟩) 64 64)).run Try.prog w' = .ok (.string I) w' ∧ (convert 27 9 (.slice (some ⟨G + 1, 0, none⟩) 64 64)).run Try.prog w' = .ok (.string O) w')
              (first | assumption | (refine keys_all HI.out HO.out ?_; assumption) | (refine keys_all HI.out HO.out (KeysK.drew ?_); assumption) | (apply keys_all HI.out HO.out; apply KeysK.below2; (assumption); (first | assumption | (refine KeysK.drew ?_; assumption) | (apply keys_of (I := I) (O := O); assumption)))) (first
              | (go_at_call 10; (with_reducible refine (sum_to (I ++ s) J _ l2 HJ.out).mono ?_); rintro e w5 ⟨rfl, b5⟩; have c5 := hnext (w := w) (by assumption) b5; have b5 := b5)
              | (go_at_call 10; (with_reducible refine (sum_to (O ++ J) M _ l3 HM2.out).mono ?_); rintro e w6 ⟨rfl, b6⟩; have c6 := hnext (w := w) (by assumption) b6; have b6 := b6)
              | (go_at_call 14; (with_reducible refine (mac_to key s M _ l9 l10 HM.out).mono ?_); rintro e w7 ⟨rfl, b7⟩; have c7 := hnext (w := w) (by assumption) b7; have b7 := b7)
              | (go_at_call 14; (with_reducible refine (mac_to K s M _ l9b l10 HMK.out).mono ?_); rintro e w8 ⟨rfl, b8⟩; have c8 := hnext (w := w) (by assumption) b8; have b8 := b8)
              | (go_at_call 9; refine (awake5 _).mono ?_; rintro e w9 ⟨rfl, b9⟩; have c9 := hnext (w := w) (by assumption) b9; have b9 := b9))
            all_goals
              have BF : Hid (Below w.heap.size w w9) := by assumption
              clear l7j l8j l7 l8 f1 f2 f3 f4 g1 g2 g3 g4
              go_wp2
              go_ret
              exact ⟨rfl, BF.out⟩
      · refine gen_world (p := fun W => Exit.then _ _ _ _ W) (KeysM w1.heap.size w) (keysM_start b1) ?_
        obtain ⟨G, hG⟩ : ∃ G, G = w1.heap.size := ⟨_, rfl⟩
        rw [← hG]
        clear hG
        intro wx hM
        obtain ⟨hm1, hm2, hm3, hm4⟩ := hM
        go_wp2_with (first
          | (refine hcopy_str rfl _ _ rfl (G + 1) 64 64 K rfl rfl cM 5 hm2 l0 (cM_fit l0) ?_)
          | (refine hcopy_str rfl _ _ rfl (G) 64 64 K rfl rfl cM 5 ((setRow_other _ _ _ _ (by omega)).trans hm1) l0 (cM_fit l0) ?_))
        have h0 := keys_start (w := w) (gi := G + 1) (go := G) (k := K) hm2 hm1 (by omega) (by omega) (by omega) hm4 l0
        have H0 := Lib.hid h0
        clear h0 hm1 hm2 hm4 hmk
        go_loopw [8] (fun v wr => KeysR K (G + 1) (G) w v wr) (fun v _ => 64 - (intOf v).toNat)
        case atStart => exact H0.out
        case round =>
          clear H0
          obtain ⟨q, hq, rfl, hr1, hr2, hne, hg1, hg2, hbel⟩ := hrel
          by_cases hlt : q < 64
          · have c1 := hr1.cell (i := q) hlt
            have f1 := hr1.frozen q
            have c2 := hr2.cell (i := q) hlt
            have f2 := hr2.frozen q
            rw [mskF_at] at c1 c2
            have x1 := msk_xor (K.data.toList.getD q 0) 54
            have x2 := msk_xor (K.data.toList.getD q 0) 92
            obtain ⟨a, ha⟩ : ∃ a, a = (K.data.toList.getD q 0).toNat := ⟨_, rfl⟩
            rw [← ha] at x1 x2 c1 c2
            have y1 : bits .xor .u8 (a : Int) 54 = (((K.data.toList.getD q 0) ^^^ 54).toNat : Int) := x1
            have y2 : bits .xor .u8 (a : Int) 92 = (((K.data.toList.getD q 0) ^^^ 92).toNat : Int) := x2
            obtain ⟨v1, hv1⟩ : ∃ v1, v1 = (((K.data.toList.getD q 0) ^^^ 54).toNat) := ⟨_, rfl⟩
            obtain ⟨v2, hv2⟩ : ∃ v2, v2 = (((K.data.toList.getD q 0) ^^^ 92).toNat) := ⟨_, rfl⟩
            rw [← hv1] at y1
            rw [← hv2] at y2
            have HR1 := Lib.hid hr1
            have HR2 := Lib.hid hr2
            have HV1 := Lib.hid hv1
            have HV2 := Lib.hid hv2
            clear hr1 hr2 x1 x2 ha hv1 hv2
            go_wp2
            go_roundw
            case rel =>
              have k1 := msk_row (v := (v1 : Int)) HR1.out (by rw [HV1.out])
              have k2 := msk_row (v := (v2 : Int)) HR2.out (by rw [HV2.out])
              exact ⟨q + 1, by omega, by go_num, k1.setOther (by simp) _, (HR2.out.setOther (a := ⟨G + 1, q, none⟩) (by simp) _ |> fun h => msk_row (v := (v2 : Int)) h (by rw [HV2.out])), hne, hg1, hg2, (hbel.setCell (by simp; omega) _).setCell (by simp; omega) _⟩
            case measure => simp [intOf]; omega
          · obtain rfl : q = 64 := by omega
            have hKK : KeysK K 64 (G + 1) (G) w wr := ⟨hr1, hr2, hne, hg1, hg2, hbel⟩
            clear hr1 hr2
            go_wp2
            have hbd := Lib.hid (hbel.drew)
            obtain ⟨f1, f2, f3, f4⟩ := cat_fits l7
            obtain ⟨g1, g2, g3, g4⟩ := cat_fits l8
            have l7j : ¬ (9223372036854775807 : Int) < (I.size : Int) + (s.size : Int) := by omega
            have l8j : ¬ (9223372036854775807 : Int) < (O.size : Int) + (J.size : Int) := by omega
            go_region_held3 (fun w' => KeysK K 64 (G + 1) (G) w w' ∧ (convert 27 9 (.slice (some ⟨G + 1, 0, none⟩) 64 64)).run Try.prog w' = .ok (.string I) w' ∧ (convert 27 9 (.slice (some ⟨G, 0, none⟩) 64 64)).run Try.prog w' = .ok (.string O) w')
              (first | assumption | (refine keys_all HI.out HO.out ?_; assumption) | (refine keys_all HI.out HO.out (KeysK.drew ?_); assumption) | (apply keys_all HI.out HO.out; apply KeysK.below2; (assumption); (first | assumption | (refine KeysK.drew ?_; assumption) | (apply keys_of (I := I) (O := O); assumption)))) (first
              | (go_at_call 10; (with_reducible refine (sum_to (I ++ s) J _ l2 HJ.out).mono ?_); rintro e w5 ⟨rfl, b5⟩; have c5 := hnext (w := w) (by assumption) b5; have b5 := b5)
              | (go_at_call 10; (with_reducible refine (sum_to (O ++ J) M _ l3 HM2.out).mono ?_); rintro e w6 ⟨rfl, b6⟩; have c6 := hnext (w := w) (by assumption) b6; have b6 := b6)
              | (go_at_call 14; (with_reducible refine (mac_to key s M _ l9 l10 HM.out).mono ?_); rintro e w7 ⟨rfl, b7⟩; have c7 := hnext (w := w) (by assumption) b7; have b7 := b7)
              | (go_at_call 14; (with_reducible refine (mac_to K s M _ l9b l10 HMK.out).mono ?_); rintro e w8 ⟨rfl, b8⟩; have c8 := hnext (w := w) (by assumption) b8; have b8 := b8)
              | (go_at_call 9; refine (awake5 _).mono ?_; rintro e w9 ⟨rfl, b9⟩; have c9 := hnext (w := w) (by assumption) b9; have b9 := b9))
            all_goals
              have BF : Hid (Below w.heap.size w w9) := by assumption
              clear l7j l8j l7 l8 f1 f2 f3 f4 g1 g2 g3 g4
              go_wp2
              go_ret
              exact ⟨rfl, BF.out⟩
    · obtain ⟨K, hK⟩ : ∃ K : ByteArray, key = K := ⟨_, rfl⟩
      subst hK
      have l0 : key.size ≤ 64 := by omega
      have hKS : shortK key.data.toList = key.data.toList := by unfold shortK; rw [hsize_eq, if_neg hl]
      obtain ⟨I, hI⟩ : ∃ I : ByteArray, (⟨(maskL key.data.toList 54).toArray⟩ : ByteArray) = I := ⟨_, rfl⟩
      obtain ⟨O, hO⟩ : ∃ O : ByteArray, (⟨(maskL key.data.toList 92).toArray⟩ : ByteArray) = O := ⟨_, rfl⟩
      have hIs : I.size = 64 := by rw [← hI, ← hsize_eq]; exact maskL_length _ _
      have hOs : O.size = 64 := by rw [← hO, ← hsize_eq]; exact maskL_length _ _
      obtain ⟨J, hJ⟩ : ∃ J : ByteArray, (⟨(shaL (I ++ s).data.toList).toArray⟩ : ByteArray) = J := ⟨_, rfl⟩
      have hJs : J.size = 32 := by rw [← hsize_eq, ← hJ, ba_list, shaL_length]
      obtain ⟨M, hM⟩ : ∃ M : ByteArray, (⟨(macL key.data.toList s.data.toList).toArray⟩ : ByteArray) = M := ⟨_, rfl⟩
      have hf := mac_final (k := key) hI hO hJ hKS
      have hM2 : (⟨(shaL (O ++ J).data.toList).toArray⟩ : ByteArray) = M := by rw [ByteArray.data_append, Array.toList_append, hf, hM]
      have hMK : (⟨(macL key.data.toList s.data.toList).toArray⟩ : ByteArray) = M := by rw [← hM, ← mac_final (k := key) hI hO hJ (by unfold shortK; rw [hsize_eq, if_neg (by omega)]), hf]
      have l2 : (I ++ s).size ≤ 1099511627776 := by simp; omega
      have l3 : (O ++ J).size ≤ 1099511627776 := by simp; omega
      have l4 : I.size ≤ 64 := by omega
      have l5 : O.size ≤ 64 := by omega
      have l6 : J.size ≤ 32 := by omega
      have l7 : I.size + s.size ≤ 9223372036854775807 := by omega
      have l8 : O.size + J.size ≤ 9223372036854775807 := by omega
      have l9 : key.size ≤ 1099511627776 := by omega
      have l9b : key.size ≤ 1099511627776 := by omega
      have l10 : s.size ≤ 1099511627000 := by omega
      have HI := Lib.hid hI
      have HO := Lib.hid hO
      have HJ := Lib.hid hJ
      have HM := Lib.hid hM
      have HM2 := Lib.hid hM2
      have HMK := Lib.hid hMK
      clear hI hO hIs hOs hJ hJs hM hf hM2 hMK hKS
      go_enter Try.func6, Try.ntmps6
      go_wp2
      go_region
      · refine gen_world (p := fun W => Exit.then _ _ _ _ W) (KeysM w.heap.size w) (keysM_start (Below.refl _ _)) ?_
        obtain ⟨G, hG⟩ : ∃ G, G = w.heap.size := ⟨_, rfl⟩
        rw [← hG]
        clear hG
        intro wx hM
        obtain ⟨hm1, hm2, hm3, hm4⟩ := hM
        go_wp2_with (first
          | (refine hcopy_str rfl _ _ rfl (G) 64 64 key rfl rfl cM 5 hm1 l0 (cM_fit l0) ?_)
          | (refine hcopy_str rfl _ _ rfl (G + 1) 64 64 key rfl rfl cM 5 ((setRow_other _ _ _ _ (by omega)).trans hm2) l0 (cM_fit l0) ?_))
        have h0 := keys_start (w := w) (gi := G) (go := G + 1) (k := key) hm1 hm2 (by omega) (by omega) (by omega) hm4 l0
        have H0 := Lib.hid h0
        clear h0 hm1 hm2 hm4 hmk
        go_loopw [8] (fun v wr => KeysR key (G) (G + 1) w v wr) (fun v _ => 64 - (intOf v).toNat)
        case atStart => exact H0.out
        case round =>
          clear H0
          obtain ⟨q, hq, rfl, hr1, hr2, hne, hg1, hg2, hbel⟩ := hrel
          by_cases hlt : q < 64
          · have c1 := hr1.cell (i := q) hlt
            have f1 := hr1.frozen q
            have c2 := hr2.cell (i := q) hlt
            have f2 := hr2.frozen q
            rw [mskF_at] at c1 c2
            have x1 := msk_xor (key.data.toList.getD q 0) 54
            have x2 := msk_xor (key.data.toList.getD q 0) 92
            obtain ⟨a, ha⟩ : ∃ a, a = (key.data.toList.getD q 0).toNat := ⟨_, rfl⟩
            rw [← ha] at x1 x2 c1 c2
            have y1 : bits .xor .u8 (a : Int) 54 = (((key.data.toList.getD q 0) ^^^ 54).toNat : Int) := x1
            have y2 : bits .xor .u8 (a : Int) 92 = (((key.data.toList.getD q 0) ^^^ 92).toNat : Int) := x2
            obtain ⟨v1, hv1⟩ : ∃ v1, v1 = (((key.data.toList.getD q 0) ^^^ 54).toNat) := ⟨_, rfl⟩
            obtain ⟨v2, hv2⟩ : ∃ v2, v2 = (((key.data.toList.getD q 0) ^^^ 92).toNat) := ⟨_, rfl⟩
            rw [← hv1] at y1
            rw [← hv2] at y2
            have HR1 := Lib.hid hr1
            have HR2 := Lib.hid hr2
            have HV1 := Lib.hid hv1
            have HV2 := Lib.hid hv2
            clear hr1 hr2 x1 x2 ha hv1 hv2
            go_wp2
            go_roundw
            case rel =>
              have k1 := msk_row (v := (v1 : Int)) HR1.out (by rw [HV1.out])
              have k2 := msk_row (v := (v2 : Int)) HR2.out (by rw [HV2.out])
              exact ⟨q + 1, by omega, by go_num, k1.setOther (by simp) _, (HR2.out.setOther (a := ⟨G, q, none⟩) (by simp) _ |> fun h => msk_row (v := (v2 : Int)) h (by rw [HV2.out])), hne, hg1, hg2, (hbel.setCell (by simp; omega) _).setCell (by simp; omega) _⟩
            case measure => simp [intOf]; omega
          · obtain rfl : q = 64 := by omega
            have hKK : KeysK key 64 (G) (G + 1) w wr := ⟨hr1, hr2, hne, hg1, hg2, hbel⟩
            clear hr1 hr2
            go_wp2
            have hbd := Lib.hid (hbel.drew)
            obtain ⟨f1, f2, f3, f4⟩ := cat_fits l7
            obtain ⟨g1, g2, g3, g4⟩ := cat_fits l8
            have l7j : ¬ (9223372036854775807 : Int) < (I.size : Int) + (s.size : Int) := by omega
            have l8j : ¬ (9223372036854775807 : Int) < (O.size : Int) + (J.size : Int) := by omega
            go_region_held3 (fun w' => KeysK key 64 (G) (G + 1) w w' ∧ (convert 27 9 (.slice (some ⟨G, 0, none⟩) 64 64)).run Try.prog w' = .ok (.string I) w' ∧ (convert 27 9 (.slice (some ⟨G + 1, 0, none⟩) 64 64)).run Try.prog w' = .ok (.string O) w')
              (first | assumption | (refine keys_all HI.out HO.out ?_; assumption) | (refine keys_all HI.out HO.out (KeysK.drew ?_); assumption) | (apply keys_all HI.out HO.out; apply KeysK.below2; (assumption); (first | assumption | (refine KeysK.drew ?_; assumption) | (apply keys_of (I := I) (O := O); assumption)))) (first
              | (go_at_call 10; (with_reducible refine (sum_to (I ++ s) J _ l2 HJ.out).mono ?_); rintro e w5 ⟨rfl, b5⟩; have c5 := hnext (w := w) (by assumption) b5; have b5 := b5)
              | (go_at_call 10; (with_reducible refine (sum_to (O ++ J) M _ l3 HM2.out).mono ?_); rintro e w6 ⟨rfl, b6⟩; have c6 := hnext (w := w) (by assumption) b6; have b6 := b6)
              | (go_at_call 14; (with_reducible refine (mac_to key s M _ l9 l10 HM.out).mono ?_); rintro e w7 ⟨rfl, b7⟩; have c7 := hnext (w := w) (by assumption) b7; have b7 := b7)
              | (go_at_call 14; (with_reducible refine (mac_to key s M _ l9b l10 HMK.out).mono ?_); rintro e w8 ⟨rfl, b8⟩; have c8 := hnext (w := w) (by assumption) b8; have b8 := b8)
              | (go_at_call 9; refine (awake5 _).mono ?_; rintro e w9 ⟨rfl, b9⟩; have c9 := hnext (w := w) (by assumption) b9; have b9 := b9))
            all_goals
              have BF : Hid (Below w.heap.size w w9) := by assumption
              clear l7j l8j l7 l8 f1 f2 f3 f4 g1 g2 g3 g4
              go_wp2
              go_ret
              exact ⟨rfl, BF.out⟩
      · refine gen_world (p := fun W => Exit.then _ _ _ _ W) (KeysM w.heap.size w) (keysM_start (Below.refl _ _)) ?_
        obtain ⟨G, hG⟩ : ∃ G, G = w.heap.size := ⟨_, rfl⟩
        rw [← hG]
        clear hG
        intro wx hM
        obtain ⟨hm1, hm2, hm3, hm4⟩ := hM
        go_wp2_with (first
          | (refine hcopy_str rfl _ _ rfl (G + 1) 64 64 key rfl rfl cM 5 hm2 l0 (cM_fit l0) ?_)
          | (refine hcopy_str rfl _ _ rfl (G) 64 64 key rfl rfl cM 5 ((setRow_other _ _ _ _ (by omega)).trans hm1) l0 (cM_fit l0) ?_))
        have h0 := keys_start (w := w) (gi := G + 1) (go := G) (k := key) hm2 hm1 (by omega) (by omega) (by omega) hm4 l0
        have H0 := Lib.hid h0
        clear h0 hm1 hm2 hm4 hmk
        go_loopw [8] (fun v wr => KeysR key (G + 1) (G) w v wr) (fun v _ => 64 - (intOf v).toNat)
        case atStart => exact H0.out
        case round =>
          clear H0
          obtain ⟨q, hq, rfl, hr1, hr2, hne, hg1, hg2, hbel⟩ := hrel
          by_cases hlt : q < 64
          · have c1 := hr1.cell (i := q) hlt
            have f1 := hr1.frozen q
            have c2 := hr2.cell (i := q) hlt
            have f2 := hr2.frozen q
            rw [mskF_at] at c1 c2
            have x1 := msk_xor (key.data.toList.getD q 0) 54
            have x2 := msk_xor (key.data.toList.getD q 0) 92
            obtain ⟨a, ha⟩ : ∃ a, a = (key.data.toList.getD q 0).toNat := ⟨_, rfl⟩
            rw [← ha] at x1 x2 c1 c2
            have y1 : bits .xor .u8 (a : Int) 54 = (((key.data.toList.getD q 0) ^^^ 54).toNat : Int) := x1
            have y2 : bits .xor .u8 (a : Int) 92 = (((key.data.toList.getD q 0) ^^^ 92).toNat : Int) := x2
            obtain ⟨v1, hv1⟩ : ∃ v1, v1 = (((key.data.toList.getD q 0) ^^^ 54).toNat) := ⟨_, rfl⟩
            obtain ⟨v2, hv2⟩ : ∃ v2, v2 = (((key.data.toList.getD q 0) ^^^ 92).toNat) := ⟨_, rfl⟩
            rw [← hv1] at y1
            rw [← hv2] at y2
            have HR1 := Lib.hid hr1
            have HR2 := Lib.hid hr2
            have HV1 := Lib.hid hv1
            have HV2 := Lib.hid hv2
            clear hr1 hr2 x1 x2 ha hv1 hv2
            go_wp2
            go_roundw
            case rel =>
              have k1 := msk_row (v := (v1 : Int)) HR1.out (by rw [HV1.out])
              have k2 := msk_row (v := (v2 : Int)) HR2.out (by rw [HV2.out])
              exact ⟨q + 1, by omega, by go_num, k1.setOther (by simp) _, (HR2.out.setOther (a := ⟨G + 1, q, none⟩) (by simp) _ |> fun h => msk_row (v := (v2 : Int)) h (by rw [HV2.out])), hne, hg1, hg2, (hbel.setCell (by simp; omega) _).setCell (by simp; omega) _⟩
            case measure => simp [intOf]; omega
          · obtain rfl : q = 64 := by omega
            have hKK : KeysK key 64 (G + 1) (G) w wr := ⟨hr1, hr2, hne, hg1, hg2, hbel⟩
            clear hr1 hr2
            go_wp2
            have hbd := Lib.hid (hbel.drew)
            obtain ⟨f1, f2, f3, f4⟩ := cat_fits l7
            obtain ⟨g1, g2, g3, g4⟩ := cat_fits l8
            have l7j : ¬ (9223372036854775807 : Int) < (I.size : Int) + (s.size : Int) := by omega
            have l8j : ¬ (9223372036854775807 : Int) < (O.size : Int) + (J.size : Int) := by omega
            go_region_held3 (fun w' => KeysK key 64 (G + 1) (G) w w' ∧ (convert 27 9 (.slice (some ⟨G + 1, 0, none⟩) 64 64)).run Try.prog w' = .ok (.string I) w' ∧ (convert 27 9 (.slice (some ⟨G, 0, none⟩) 64 64)).run Try.prog w' = .ok (.string O) w')
              (first | assumption | (refine keys_all HI.out HO.out ?_; assumption) | (refine keys_all HI.out HO.out (KeysK.drew ?_); assumption) | (apply keys_all HI.out HO.out; apply KeysK.below2; (assumption); (first | assumption | (refine KeysK.drew ?_; assumption) | (apply keys_of (I := I) (O := O); assumption)))) (first
              | (go_at_call 10; (with_reducible refine (sum_to (I ++ s) J _ l2 HJ.out).mono ?_); rintro e w5 ⟨rfl, b5⟩; have c5 := hnext (w := w) (by assumption) b5; have b5 := b5)
              | (go_at_call 10; (with_reducible refine (sum_to (O ++ J) M _ l3 HM2.out).mono ?_); rintro e w6 ⟨rfl, b6⟩; have c6 := hnext (w := w) (by assumption) b6; have b6 := b6)
              | (go_at_call 14; (with_reducible refine (mac_to key s M _ l9 l10 HM.out).mono ?_); rintro e w7 ⟨rfl, b7⟩; have c7 := hnext (w := w) (by assumption) b7; have b7 := b7)
              | (go_at_call 14; (with_reducible refine (mac_to key s M _ l9b l10 HMK.out).mono ?_); rintro e w8 ⟨rfl, b8⟩; have c8 := hnext (w := w) (by assumption) b8; have b8 := b8)
              | (go_at_call 9; refine (awake5 _).mono ?_; rintro e w9 ⟨rfl, b9⟩; have c9 := hnext (w := w) (by assumption) b9; have b9 := b9))
            all_goals
              have BF : Hid (Below w.heap.size w w9) := by assumption
              clear l7j l8j l7 l8 f1 f2 f3 f4 g1 g2 g3 g4
              go_wp2
              go_ret
              exact ⟨rfl, BF.out⟩
end Go.Proofs.Ytchjllnlhhoflaa
