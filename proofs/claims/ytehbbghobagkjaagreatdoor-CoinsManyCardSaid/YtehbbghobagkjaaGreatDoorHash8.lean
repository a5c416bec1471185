/-
  Contracts of package hash, the eighth part: masked, Mac.
-/
import Derived.Test.YtehbbghobagkjaaGreatDoorHash7
import Derived.Lib.BufferWrite
namespace Go.Proofs.YtehbbghobagkjaaGreatDoor
open Go.RowKit Go.Deep
set_option linter.unusedVariables false

theorem hcopy_str {ops : Array Oper} {rest : List Oper} {o : Oper} {a : Act} {w : World} {Q : Exit → Act → World → Prop} (hgd : o.guard = none) (d s : Operand)
    (ho : o.op = .call { callee := .builtin .copy, args := #[d, s], argTypes := #[69, 9] }) (g dLen dCap : Nat) (k : ByteArray) (hd : a.eval d = .slice (some ⟨g, 0, none⟩) dLen dCap) (hs : a.eval s = .string k)
    (cur : Array Value) (t : TypeId) (hg : w.heap[g]? = some (.cells cur t (0, 0))) (hle : k.size ≤ dLen) (hfit : k.size ≤ cur.size)
    (h : wpList Tryz.prog ops Q rest (a.put o.dst (goInt k.size)) (w.setRow g (Lib.byteCells k.data.toList ++ cur.toList.drop k.size).toArray)) : wpList Tryz.prog ops Q (o :: rest) a w := by
  refine wpList_plain hgd fun K hK => ?_
  have hrun := Lib.run_copy_row_string (P := Tryz.prog) w 69 9 o.type 5 g 0 dLen dCap k cur t Tryz.hund69 (by kernel_rfl) hg hle (by omega)
  unfold Oper.wp
  simp [execOp, ho, resolve, invoke, builtin, hd, hs, hrun, Result.andThen]
  exact hK _ _ (by simpa using h)
/-- A key with its first q bytes masked. -/
def mskF (l : List UInt8) (x : UInt8) (q j : Nat) : Nat := if j < q then (l.getD j 0 ^^^ x).toNat else (l.getD j 0).toNat
theorem msk_row {w : World} {g t q : Nat} {l : List UInt8} {x : UInt8} {v : Int} (h : w.rowIs g t 64 (fun j => .int .u8 (mskF l x q j : Nat))) (hv : v = ((l.getD q 0 ^^^ x).toNat : Nat)) :
    (w.setCell ⟨g, q, none⟩ (.int .u8 v)).rowIs g t 64 (fun j => .int .u8 (mskF l x (q + 1) j : Nat)) := by
  refine (h.set q _).congr fun i hi => ?_
  by_cases e : i = q
  · rw [if_pos e, hv, e]; unfold mskF; rw [if_pos (by omega)]
  · rw [if_neg e]; show Value.int .u8 ((mskF l x q i : Nat) : Int) = Value.int .u8 ((mskF l x (q + 1) i : Nat) : Int); unfold mskF
    by_cases e2 : i < q
    · rw [if_pos e2, if_pos (by omega)]
    · rw [if_neg e2, if_neg (by omega)]
def zeros64b : Array Value := #[.int .u8 0, .int .u8 0, .int .u8 0, .int .u8 0, .int .u8 0, .int .u8 0, .int .u8 0, .int .u8 0, .int .u8 0, .int .u8 0, .int .u8 0, .int .u8 0, .int .u8 0, .int .u8 0, .int .u8 0, .int .u8 0, .int .u8 0, .int .u8 0, .int .u8 0, .int .u8 0, .int .u8 0, .int .u8 0, .int .u8 0, .int .u8 0, .int .u8 0, .int .u8 0, .int .u8 0, .int .u8 0, .int .u8 0, .int .u8 0, .int .u8 0, .int .u8 0, .int .u8 0, .int .u8 0, .int .u8 0, .int .u8 0, .int .u8 0, .int .u8 0, .int .u8 0, .int .u8 0, .int .u8 0, .int .u8 0, .int .u8 0, .int .u8 0, .int .u8 0, .int .u8 0, .int .u8 0, .int .u8 0, .int .u8 0, .int .u8 0, .int .u8 0, .int .u8 0, .int .u8 0, .int .u8 0, .int .u8 0, .int .u8 0, .int .u8 0, .int .u8 0, .int .u8 0, .int .u8 0, .int .u8 0, .int .u8 0, .int .u8 0, .int .u8 0]
theorem zeros64b_list : zeros64b.toList = List.replicate 64 (Value.int .u8 0) := rfl
theorem msk_start {w : World} {g : Nat} {t : TypeId} {k : ByteArray} {x : UInt8} (hg : w.heap[g]? = some (.cells zeros64b t (0, 0))) (hk : k.size ≤ 64) :
    (w.setRow g (Lib.byteCells k.data.toList ++ zeros64b.toList.drop k.size).toArray).rowIs g t 64 (fun j => .int .u8 (mskF k.data.toList x 0 j : Nat)) := by
  have hl : (Lib.byteCells k.data.toList).length = k.size := by rw [Lib.byteCells_length, hsize_eq]
  refine ⟨_, heap_setRow_self hg, ?_, fun i hi => ?_⟩
  · rw [zeros64b_list]; simp [hl]; omega
  · rw [zeros64b_list, List.getElem?_toArray, List.getElem?_append, hl]
    have e : mskF k.data.toList x 0 i = (k.data.toList.getD i 0).toNat := by unfold mskF; rw [if_neg (by omega)]
    show _ = some (Value.int .u8 ((mskF k.data.toList x 0 i : Nat) : Int))
    rw [e]
    by_cases h : i < k.size
    · have h' : i < k.data.toList.length := by rw [hsize_eq]; exact h
      rw [if_pos h]
      simp only [Lib.byteCells, List.getElem?_map, List.getElem?_eq_getElem h', List.getD_eq_getElem?_getD, Option.map_some, Option.getD_some]
    · have h' : k.data.toList.length ≤ i := by rw [hsize_eq]; omega
      rw [if_neg h, List.drop_replicate, List.getElem?_replicate, if_pos (by omega), List.getD_eq_getElem?_getD, List.getElem?_eq_none h']
      rfl
theorem mskF_at (l : List UInt8) (x : UInt8) (q : Nat) : mskF l x q q = (l.getD q 0).toNat := by unfold mskF; rw [if_neg (by omega)]
theorem msk_xor (a x : UInt8) : bits .xor .u8 (a.toNat : Int) (x.toNat : Int) = ((a ^^^ x).toNat : Int) := by
  rw [u8_xor_nat _ _ a.toNat_lt x.toNat_lt, UInt8.toNat_xor]
theorem msk_string {w : World} {g t : Nat} {l : List UInt8} {x : UInt8} (h : w.rowIs g t 64 (fun j => .int .u8 (mskF l x 64 j : Nat))) (cap : Nat) :
    (convert 69 9 (.slice (some ⟨g, 0, none⟩) 64 cap)).run Tryz.prog w = .ok (.string ⟨(maskL l x).toArray⟩) w := by
  have := run_convert_bytes_arg (P := Tryz.prog) w 69 5 Tryz.hund69 Tryz.hund5 g 0 64 cap ((maskL l x).map fun c => (c.toNat : Int)) (by simp [maskL_length]) (fun i hi => by
    rw [Nat.zero_add, h.cell hi]
    unfold mskF
    rw [if_pos hi]
    simp [maskL, List.getD_eq_getElem?_getD, hi]) 9 Tryz.hund9
  rw [this, hstr_bytes]
theorem mac_final {k s K I O M : ByteArray} (hI : (⟨(maskL K.data.toList 54).toArray⟩ : ByteArray) = I) (hO : (⟨(maskL K.data.toList 92).toArray⟩ : ByteArray) = O) (hM : (⟨(shaL (I ++ s).data.toList).toArray⟩ : ByteArray) = M) (hk : shortK k.data.toList = K.data.toList) :
    shaL (O.data.toList ++ M.data.toList) = macL k.data.toList s.data.toList := by
  unfold macL
  rw [hk, ← hM, ← hO, ← hI]
  simp
/-- What the loop of masked knows. -/
def MskR (k : ByteArray) (x : UInt8) (w : World) (v : Value) (wr : World) : Prop :=
  ∃ q : Nat, q ≤ 64 ∧ v = .int .i64 q ∧ wr.rowIs w.heap.size 118 64 (fun j => .int .u8 (mskF k.data.toList x q j : Nat)) ∧ Below w.heap.size w wr

set_option maxHeartbeats 1000000 in
set_option maxRecDepth 100000 in
theorem masked_any (k : ByteArray) (x : UInt8) (xi : Int) (w : World) (hk : k.size ≤ 64) (hx : xi = (x.toNat : Int)) :
    Calls Tryz.prog 86 #[.string k, .int .u8 xi] w fun e w' => e = .returned (.string ⟨(maskL k.data.toList x).toArray⟩) ∧ Below w.heap.size w w' := by
  have HX := Lib.hid hx
  clear hx
  go_enter Tryz.func86, Tryz.ntmps86
  go_wp2_with (refine hcopy_str rfl _ _ rfl w.heap.size 64 64 k rfl rfl zeros64b 118 (heap_alloc_last w _) hk hk ?_)
  have h0 : MskR k x w (.int .i64 0) ((w.alloc (.cells zeros64b 118)).setRow w.heap.size (Lib.byteCells k.data.toList ++ zeros64b.toList.drop k.size).toArray) :=
    ⟨0, by omega, rfl, msk_start (heap_alloc_last w _) hk, below_setRow ((Below.refl _ _).alloc (Nat.le_refl _) _) (Nat.le_refl _) _⟩
  have H0 := Lib.hid h0
  clear h0
  go_loopw [10] (fun v wr => MskR k x w v wr) (fun v _ => 64 - (intOf v).toNat)
  case atStart => exact H0.out
  case round =>
    clear H0
    obtain ⟨q, hq, rfl, hrow, hbel⟩ := hrel
    by_cases hlt : q < 64
    · have hcell := hrow.cell (i := q) hlt
      have hfr := hrow.frozen q
      rw [mskF_at] at hcell
      have hxr := msk_xor (k.data.toList.getD q 0) x
      rw [← HX.out] at hxr
      obtain ⟨a, ha⟩ : ∃ a, a = (k.data.toList.getD q 0).toNat := ⟨_, rfl⟩
      rw [← ha] at hxr hcell
      have HXR := Lib.hid hxr
      have HR := Lib.hid hrow
      clear hxr hrow ha
      go_wp2
      go_roundw
      case rel => exact ⟨q + 1, by omega, by go_num, msk_row HR.out HXR.out, hbel.setCell (Nat.le_refl _) _⟩
      case measure => simp [intOf]; omega
    · obtain rfl : q = 64 := by omega
      have hcv := msk_string hrow 64
      clear hrow
      go_wp2
      go_ret
      exact ⟨rfl, hbel⟩

set_option maxHeartbeats 1000000 in
theorem mac_any (k s : ByteArray) (w : World) (hk : k.size ≤ 1099511627776) (hs : s.size ≤ 1099511627000) :
    Calls Tryz.prog 77 #[.string k, .string s] w fun e w' => e = .returned (.string ⟨(macL k.data.toList s.data.toList).toArray⟩) ∧ Below w.heap.size w w' := by
  by_cases hl : 64 < k.size
  · obtain ⟨K, hK⟩ : ∃ K : ByteArray, K = ⟨(shaL k.data.toList).toArray⟩ := ⟨_, rfl⟩
    have hKs : K.size = 32 := by rw [hK]; rfl
    obtain ⟨I, hI⟩ : ∃ I : ByteArray, (⟨(maskL K.data.toList 54).toArray⟩ : ByteArray) = I := ⟨_, rfl⟩
    obtain ⟨O, hO⟩ : ∃ O : ByteArray, (⟨(maskL K.data.toList 92).toArray⟩ : ByteArray) = O := ⟨_, rfl⟩
    have hIs : I.size = 64 := by rw [← hI, ← hsize_eq]; exact maskL_length _ _
    have hOs : O.size = 64 := by rw [← hO, ← hsize_eq]; exact maskL_length _ _
    obtain ⟨M, hM⟩ : ∃ M : ByteArray, (⟨(shaL (I ++ s).data.toList).toArray⟩ : ByteArray) = M := ⟨_, rfl⟩
    have hMs : M.size = 32 := by rw [← hM]; rfl
    have HF := Lib.hid (mac_final (k := k) hI hO hM (by unfold shortK; rw [hsize_eq, if_pos hl, hK]))
    have l1 : K.size ≤ 64 := by omega
    have l4 : I.size ≤ 64 := by omega
    have l5 : O.size ≤ 64 := by omega
    have l6 : M.size ≤ 32 := by omega
    have l7 : I.size + s.size ≤ 9223372036854775807 := by omega
    have l8 : O.size + M.size ≤ 9223372036854775807 := by omega
    have l2 : (I ++ s).size ≤ 1099511627776 := by simp; omega
    have l3 : (O ++ M).size ≤ 1099511627776 := by simp; omega
    have HK := Lib.hid hK
    have HI := Lib.hid hI
    have HO := Lib.hid hO
    have HM := Lib.hid hM
    clear hK hKs hI hO hM hIs hOs hMs
    go_enter Tryz.func77, Tryz.ntmps77
    go_wp2_with fail
    refine (sum_any k _ hk).mono ?_; rintro e w1 ⟨rfl, b1⟩; rw [← HK.out]
    go_wp2_with fail
    refine (masked_any K 92 92 _ l1 rfl).mono ?_
    rintro e w2 ⟨rfl, b2⟩; rw [HO.out]; have b2 := bnext' b1 b2; clear b1
    go_wp2_with fail
    refine (masked_any K 54 54 _ l1 rfl).mono ?_
    rintro e w3 ⟨rfl, b3⟩; rw [HI.out]; have b3 := bnext' b2 b3; clear b2
    go_wp2_with fail
    refine (sum_any (I ++ s) _ l2).mono ?_; rintro e w4 ⟨rfl, b4⟩; rw [HM.out]; have b4 := bnext' b3 b4; clear b3
    go_wp2_with fail
    refine (sum_any (O ++ M) _ l3).mono ?_; rintro e w5 ⟨rfl, b5⟩; have b5 := bnext' b4 b5; clear b4
    go_wp2
    go_ret
    exact ⟨hret_str (by rw [HF.out]), b5⟩
  · obtain ⟨I, hI⟩ : ∃ I : ByteArray, (⟨(maskL k.data.toList 54).toArray⟩ : ByteArray) = I := ⟨_, rfl⟩
    obtain ⟨O, hO⟩ : ∃ O : ByteArray, (⟨(maskL k.data.toList 92).toArray⟩ : ByteArray) = O := ⟨_, rfl⟩
    have hIs : I.size = 64 := by rw [← hI, ← hsize_eq]; exact maskL_length _ _
    have hOs : O.size = 64 := by rw [← hO, ← hsize_eq]; exact maskL_length _ _
    obtain ⟨M, hM⟩ : ∃ M : ByteArray, (⟨(shaL (I ++ s).data.toList).toArray⟩ : ByteArray) = M := ⟨_, rfl⟩
    have hMs : M.size = 32 := by rw [← hM]; rfl
    have HF := Lib.hid (mac_final (k := k) hI hO hM (by unfold shortK; rw [hsize_eq, if_neg hl]))
    have l1 : k.size ≤ 64 := by omega
    have l4 : I.size ≤ 64 := by omega
    have l5 : O.size ≤ 64 := by omega
    have l6 : M.size ≤ 32 := by omega
    have l7 : I.size + s.size ≤ 9223372036854775807 := by omega
    have l8 : O.size + M.size ≤ 9223372036854775807 := by omega
    have l2 : (I ++ s).size ≤ 1099511627776 := by simp; omega
    have l3 : (O ++ M).size ≤ 1099511627776 := by simp; omega
    have HI := Lib.hid hI
    have HO := Lib.hid hO
    have HM := Lib.hid hM
    clear hI hO hM hIs hOs hMs
    go_enter Tryz.func77, Tryz.ntmps77
    have b1 := Below.refl w.heap.size w
    go_wp2_with fail
    refine (masked_any k 92 92 _ l1 rfl).mono ?_
    rintro e w2 ⟨rfl, b2⟩; rw [HO.out]; have b2 := bnext' b1 b2; clear b1
    go_wp2_with fail
    refine (masked_any k 54 54 _ l1 rfl).mono ?_
    rintro e w3 ⟨rfl, b3⟩; rw [HI.out]; have b3 := bnext' b2 b3; clear b2
    go_wp2_with fail
    refine (sum_any (I ++ s) _ l2).mono ?_; rintro e w4 ⟨rfl, b4⟩; rw [HM.out]; have b4 := bnext' b3 b4; clear b3
    go_wp2_with fail
    refine (sum_any (O ++ M) _ l3).mono ?_; rintro e w5 ⟨rfl, b5⟩; have b5 := bnext' b4 b5; clear b4
    go_wp2
    go_ret
    exact ⟨hret_str (by rw [HF.out]), b5⟩
end Go.Proofs.YtehbbghobagkjaaGreatDoor
