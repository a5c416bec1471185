/-
  Contracts of the reference of layer 5, the fifth part: xored, Mac, Hex.
-/
import Derived.Test.YtchjllnlhhoflaaRH4
namespace Go.Proofs.Ytchjllnlhhoflaa
open Go.RowKit Go.Deep
set_option linter.unusedVariables false

/-- The first q bytes of the masked key, and zeros. -/
def xoF (l : List UInt8) (x : UInt8) (q j : Nat) : Nat := if j < q then (l.getD j 0 ^^^ x).toNat else 0
theorem xo_row {w : World} {g t q : Nat} {l : List UInt8} {x : UInt8} {v : Int} (h : w.rowIs g t 64 (fun j => .int .u8 (xoF l x q j : Nat))) (hv : v = ((l.getD q 0 ^^^ x).toNat : Nat)) :
    (w.setCell ⟨g, q, none⟩ (.int .u8 v)).rowIs g t 64 (fun j => .int .u8 (xoF l x (q + 1) j : Nat)) := by
  refine (h.set q _).congr fun i hi => ?_
  by_cases e : i = q
  · rw [if_pos e, hv, e]; unfold xoF; rw [if_pos (by omega)]
  · rw [if_neg e]; show Value.int .u8 ((xoF l x q i : Nat) : Int) = Value.int .u8 ((xoF l x (q + 1) i : Nat) : Int); unfold xoF
    by_cases e2 : i < q
    · rw [if_pos e2, if_pos (by omega)]
    · rw [if_neg e2, if_neg (by omega)]
theorem xo_row2 {w : World} {g t q : Nat} {l : List UInt8} {x : UInt8} {u v : Int} (h : w.rowIs g t 64 (fun j => .int .u8 (xoF l x q j : Nat))) (hv : v = ((l.getD q 0 ^^^ x).toNat : Nat)) :
    ((w.setCell ⟨g, q, none⟩ (.int .u8 u)).setCell ⟨g, q, none⟩ (.int .u8 v)).rowIs g t 64 (fun j => .int .u8 (xoF l x (q + 1) j : Nat)) := by
  refine ((h.set q (.int .u8 u)).set q _).congr fun i hi => ?_
  by_cases e : i = q
  · rw [if_pos e, hv, e]; unfold xoF; rw [if_pos (by omega)]
  · rw [if_neg e, if_neg e]; show Value.int .u8 ((xoF l x q i : Nat) : Int) = Value.int .u8 ((xoF l x (q + 1) i : Nat) : Int); unfold xoF
    by_cases e2 : i < q
    · rw [if_pos e2, if_pos (by omega)]
    · rw [if_neg e2, if_neg (by omega)]
theorem xo_string {w : World} {g t : Nat} {l : List UInt8} {x : UInt8} (h : w.rowIs g t 64 (fun j => .int .u8 (xoF l x 64 j : Nat))) (cap : Nat) :
    (convert 27 9 (.slice (some ⟨g, 0, none⟩) 64 cap)).run Try.prog w = .ok (.string ⟨(maskL l x).toArray⟩) w := by
  have := run_convert_bytes_arg (P := Try.prog) w 27 5 Try.hund27 Try.hund5 g 0 64 cap ((maskL l x).map fun c => (c.toNat : Int)) (by simp [maskL_length]) (fun i hi => by
    rw [Nat.zero_add, h.cell hi]
    unfold xoF
    rw [if_pos hi]
    simp [maskL, List.getD_eq_getElem?_getD, hi]) 9 Try.hund9
  rw [this, hstr_bytes]
theorem hmakeF64 (w : World) : (Instr.makeSlice 27 (.int .i64 64) (.int .i64 64)).run Try.prog w = .ok (.slice (some ⟨w.heap.size, 0, none⟩) 64 64) (w.alloc (.cells (madeCells #[.int .u8 0] 64) 5)) := hmakeF 64 (by omega) w
/-- What the loop of xored knows. -/
def XoR (k : ByteArray) (x : UInt8) (w : World) (v : Value) (wr : World) : Prop :=
  ∃ q : Nat, q ≤ 64 ∧ v = .int .i64 q ∧ wr.rowIs w.heap.size 5 64 (fun j => .int .u8 (xoF k.data.toList x q j : Nat)) ∧ Below w.heap.size w wr
theorem xo_start (k : ByteArray) (x : UInt8) (w : World) : XoR k x w (.int .i64 0) (w.alloc (.cells (madeCells #[.int .u8 0] 64) 5)) :=
  ⟨0, by omega, rfl, (World.rowIs_made w (.int .u8 0) 64 5).congr (fun i hi => by show _ = Value.int .u8 ((xoF k.data.toList x 0 i : Nat) : Int); unfold xoF; rw [if_neg (by omega)]; rfl), (Below.refl _ _).alloc (Nat.le_refl _) _⟩
theorem xo_short {k : ByteArray} {q : Nat} (h : ¬ q < k.size) (x : UInt8) : (k.data.toList.getD q 0 ^^^ x) = x := by
  rw [List.getD_eq_getElem?_getD, List.getElem?_eq_none (by rw [hsize_eq]; omega)]
  simp
theorem xo_long {k : ByteArray} {q : Nat} (h : q < k.size) : k.data.toList.getD q 0 = k[q] := by
  have h' : q < k.data.toList.length := by rw [hsize_eq]; exact h
  rw [List.getD_eq_getElem?_getD, List.getElem?_eq_getElem h', hget_eq k q h]; rfl

set_option maxHeartbeats 1000000 in
set_option maxRecDepth 100000 in
theorem rxored_any (k : ByteArray) (x : UInt8) (xi : Int) (w : World) (hk : k.size ≤ 64) (hx : xi = (x.toNat : Int)) :
    Calls Try.prog 24 #[.string k, .int .u8 xi] w fun e w' => e = .returned (.string ⟨(maskL k.data.toList x).toArray⟩) ∧ Below w.heap.size w w' := by
  have HX := Lib.hid hx
  clear hx
  have hmk := hmakeF64
  go_enter Try.func24, Try.ntmps24
  go_wp2
  go_loopw [6] (fun v wr => XoR k x w v wr) (fun v _ => 64 - (intOf v).toNat)
  case atStart => exact xo_start k x w
  case round =>
    clear hmk
    obtain ⟨q, hq, rfl, hrow, hbel⟩ := hrel
    by_cases hlt : q < 64
    · have hcell := hrow.cell (i := q) hlt
      have hfr := hrow.frozen q
      by_cases hl : q < k.size
      · have hxr := msk_xor (k[q]'hl) x
        rw [← HX.out] at hxr
        have hg := xo_long hl
        have HXR := Lib.hid hxr
        have HG := Lib.hid hg
        have HR := Lib.hid hrow
        clear hxr hrow hg
        go_wp2
        go_roundw
        case rel => exact ⟨q + 1, by omega, by go_num, xo_row2 HR.out (by rw [HG.out, ← HXR.out]), (hbel.setCell (Nat.le_refl _) _).setCell (Nat.le_refl _) _⟩
        case measure => simp [intOf]; omega
      · have hg := xo_short hl x
        have HG := Lib.hid hg
        have HR := Lib.hid hrow
        clear hrow hg
        go_wp2
        go_roundw
        case rel => exact ⟨q + 1, by omega, by go_num, xo_row HR.out (by rw [HG.out, HX.out]), hbel.setCell (Nat.le_refl _) _⟩
        case measure => simp [intOf]; omega
    · obtain rfl : q = 64 := by omega
      have hcv := xo_string hrow 64
      clear hrow
      go_wp2
      go_ret
      exact ⟨rfl, hbel⟩

set_option maxHeartbeats 1000000 in
theorem rmac_any (k s : ByteArray) (w : World) (hk : k.size ≤ 1099511627776) (hs : s.size ≤ 1099511627000) :
    Calls Try.prog 15 #[.string k, .string s] w fun e w' => e = .returned (.string ⟨(macL k.data.toList s.data.toList).toArray⟩) ∧ Below w.heap.size w w' := by
  by_cases hl : 64 < k.size
  · obtain ⟨K, hK⟩ : ∃ K : ByteArray, K = ⟨(shaL k.data.toList).toArray⟩ := ⟨_, rfl⟩
    have hKs : K.size = 32 := by rw [hK]; rfl
    obtain ⟨I, hI⟩ : ∃ I : ByteArray, (⟨(maskL K.data.toList 54).toArray⟩ : ByteArray) = I := ⟨_, rfl⟩
    obtain ⟨O, hO⟩ : ∃ O : ByteArray, (⟨(maskL K.data.toList 92).toArray⟩ : ByteArray) = O := ⟨_, rfl⟩
    have hIs : I.size = 64 := by rw [← hI, ← hsize_eq]; exact maskL_length _ _
    have hOs : O.size = 64 := by rw [← hO, ← hsize_eq]; exact maskL_length _ _
    obtain ⟨M, hM⟩ : ∃ M : ByteArray, (⟨(shaL (I ++ s).data.toList).toArray⟩ : ByteArray) = M := ⟨_, rfl⟩
    have hMs : M.size = 32 := by rw [← hM]; rfl
    have HF := Lib.hid (mac_final (k := k) hI hO hM (by unfold shortK; rw [hsize_eq, if_pos hl, hK]))
    have l1 : K.size ≤ 64 := by omega
    have l4 : I.size ≤ 64 := by omega
    have l5 : O.size ≤ 64 := by omega
    have l6 : M.size ≤ 32 := by omega
    have l7 : I.size + s.size ≤ 9223372036854775807 := by omega
    have l8 : O.size + M.size ≤ 9223372036854775807 := by omega
    have l2 : (I ++ s).size ≤ 1099511627776 := by simp; omega
    have l3 : (O ++ M).size ≤ 1099511627776 := by simp; omega
    have HK := Lib.hid hK
    have HI := Lib.hid hI
    have HO := Lib.hid hO
    have HM := Lib.hid hM
    clear hK hKs hI hO hM hIs hOs hMs
    go_enter Try.func15, Try.ntmps15
    go_wp2_with fail
    refine (rsum_any k _ hk).mono ?_; rintro e w1 ⟨rfl, b1⟩; rw [← HK.out]
    go_wp2_with fail
    refine (rxored_any K 92 92 _ l1 rfl).mono ?_
    rintro e w2 ⟨rfl, b2⟩; rw [HO.out]; have b2 := bnext' b1 b2; clear b1
    go_wp2_with fail
    refine (rxored_any K 54 54 _ l1 rfl).mono ?_
    rintro e w3 ⟨rfl, b3⟩; rw [HI.out]; have b3 := bnext' b2 b3; clear b2
    go_wp2_with fail
    refine (rsum_any (I ++ s) _ l2).mono ?_; rintro e w4 ⟨rfl, b4⟩; rw [HM.out]; have b4 := bnext' b3 b4; clear b3
    go_wp2_with fail
    refine (rsum_any (O ++ M) _ l3).mono ?_; rintro e w5 ⟨rfl, b5⟩; have b5 := bnext' b4 b5; clear b4
    go_wp2
    go_ret
    exact ⟨hret_str (by rw [HF.out]), b5⟩
  · obtain ⟨I, hI⟩ : ∃ I : ByteArray, (⟨(maskL k.data.toList 54).toArray⟩ : ByteArray) = I := ⟨_, rfl⟩
    obtain ⟨O, hO⟩ : ∃ O : ByteArray, (⟨(maskL k.data.toList 92).toArray⟩ : ByteArray) = O := ⟨_, rfl⟩
    have hIs : I.size = 64 := by rw [← hI, ← hsize_eq]; exact maskL_length _ _
    have hOs : O.size = 64 := by rw [← hO, ← hsize_eq]; exact maskL_length _ _
    obtain ⟨M, hM⟩ : ∃ M : ByteArray, (⟨(shaL (I ++ s).data.toList).toArray⟩ : ByteArray) = M := ⟨_, rfl⟩
    have hMs : M.size = 32 := by rw [← hM]; rfl
    have HF := Lib.hid (mac_final (k := k) hI hO hM (by unfold shortK; rw [hsize_eq, if_neg hl]))
    have l1 : k.size ≤ 64 := by omega
    have l4 : I.size ≤ 64 := by omega
    have l5 : O.size ≤ 64 := by omega
    have l6 : M.size ≤ 32 := by omega
    have l7 : I.size + s.size ≤ 9223372036854775807 := by omega
    have l8 : O.size + M.size ≤ 9223372036854775807 := by omega
    have l2 : (I ++ s).size ≤ 1099511627776 := by simp; omega
    have l3 : (O ++ M).size ≤ 1099511627776 := by simp; omega
    have HI := Lib.hid hI
    have HO := Lib.hid hO
    have HM := Lib.hid hM
    clear hI hO hM hIs hOs hMs
    go_enter Try.func15, Try.ntmps15
    have b1 := Below.refl w.heap.size w
    go_wp2_with fail
    refine (rxored_any k 92 92 _ l1 rfl).mono ?_
    rintro e w2 ⟨rfl, b2⟩; rw [HO.out]; have b2 := bnext' b1 b2; clear b1
    go_wp2_with fail
    refine (rxored_any k 54 54 _ l1 rfl).mono ?_
    rintro e w3 ⟨rfl, b3⟩; rw [HI.out]; have b3 := bnext' b2 b3; clear b2
    go_wp2_with fail
    refine (rsum_any (I ++ s) _ l2).mono ?_; rintro e w4 ⟨rfl, b4⟩; rw [HM.out]; have b4 := bnext' b3 b4; clear b3
    go_wp2_with fail
    refine (rsum_any (O ++ M) _ l3).mono ?_; rintro e w5 ⟨rfl, b5⟩; have b5 := bnext' b4 b5; clear b4
    go_wp2
    go_ret
    exact ⟨hret_str (by rw [HF.out]), b5⟩

theorem cat_fits' {a b : ByteArray} (h : a.size + b.size ≤ 9223372036854775807) : ¬ (9223372036854775807 < a.size + b.size) ∧ ¬ (IntKind.i64.max < ((a.size + b.size : Nat) : Int)) ∧ ¬ (IntKind.i64.max < (a.size : Int) + (b.size : Int)) ∧ decide ((9223372036854775807 : Int) < (a.size : Int) + (b.size : Int)) = false := by
  have e : IntKind.i64.max = 9223372036854775807 := by decide
  refine ⟨by omega, by rw [e]; omega, by rw [e]; omega, by simp; omega⟩
/-- What the loop of Hex knows. -/
def RHexR (s : ByteArray) (w : World) (v i : Value) (wr : World) : Prop :=
  ∃ (k : Nat) (L : ByteArray), k ≤ s.size ∧ i = .int .i64 k ∧ v = .string L ∧ L.data.toList = hexL (s.data.toList.take k) ∧ L.size = 2 * k ∧ Below w.heap.size w wr
theorem two_string (a b : UInt8) (w : World) : (convert 27 9 (.slice (some ⟨w.heap.size, 0, none⟩) 2 2)).run Try.prog (w.alloc (.cells #[.int .u8 (a.toNat : Int), .int .u8 (b.toNat : Int)] 5)) = .ok (.string ⟨#[a, b]⟩) (w.alloc (.cells #[.int .u8 (a.toNat : Int), .int .u8 (b.toNat : Int)] 5)) :=
  (new_lies [a, b] _ rfl w w.heap.size (Nat.le_refl _) 2 rfl).string
theorem two_string_d (a b : UInt8) (w : World) : (convert 27 9 (.slice (some ⟨w.heap.size, 0, none⟩) 2 2)).run Try.prog (w.alloc (.cells #[.int .u8 (a.toNat : Int), .int .u8 (b.toNat : Int)] 5)).drew = .ok (.string ⟨#[a, b]⟩) (w.alloc (.cells #[.int .u8 (a.toNat : Int), .int .u8 (b.toNat : Int)] 5)).drew :=
  ((new_lies [a, b] _ rfl w w.heap.size (Nat.le_refl _) 2 rfl).below ((Below.refl _ _).drew)).string

set_option maxHeartbeats 1000000 in
set_option maxRecDepth 100000 in
theorem rhex_any (s : ByteArray) (w : World) (hn : s.size ≤ 1099511627776) :
    Calls Try.prog 13 #[.string s] w fun e w' => e = .returned (.string ⟨(hexL s.data.toList).toArray⟩) ∧ Below w.heap.size w w' := by
  go_enter Try.func13, Try.ntmps13
  go_wp2
  go_loopw [4, 5] (fun v i wr => RHexR s w v i wr) (fun _ i _ => s.size - (intOf i).toNat)
  case atStart => exact ⟨0, ⟨#[]⟩, by omega, rfl, rfl, rfl, rfl, Below.refl _ _⟩
  case round =>
    obtain ⟨k, L, hk, rfl, rfl, hL, hls, hbel⟩ := hrel
    have HL := Lib.hid hL
    clear hL
    by_cases hlt : k < s.size
    · have hc := (s[k]'hlt).toNat_lt
      have hg := hget_eq s k hlt
      have hsn : hexL (s.data.toList.take (k + 1)) = hexL (s.data.toList.take k) ++ [hd ((s[k]'hlt).toNat / 16), hd ((s[k]'hlt).toNat % 16)] := by
        rw [List.take_succ_eq_append_getElem (by rw [hsize_eq]; exact hlt), hexL_snoc, ← hg]
      obtain ⟨c, hce⟩ : ∃ c, c = (s[k]'hlt).toNat := ⟨_, rfl⟩
      obtain ⟨a, ha⟩ : ∃ a, a = c / 16 := ⟨_, rfl⟩
      obtain ⟨b, hb⟩ : ∃ b, b = c % 16 := ⟨_, rfl⟩
      rw [← hce, ← ha, ← hb] at hsn
      rw [← hce] at hc
      have x1 : ((s[k]'hlt).toNat : Int) / 16 = (a : Int) := by rw [ha, hce]; simp
      have x2 : ((s[k]'hlt).toNat : Int) % 16 = (b : Int) := by rw [hb, hce]; simp
      have y1 : IntKind.u8.wrap (a : Int) = (a : Int) := by rw [IntKind.wrap_u8']; omega
      have y2 : IntKind.u8.wrap (b : Int) = (b : Int) := by rw [IntKind.wrap_u8']; omega
      have y3 : (a : Int) % 256 = (a : Int) := by omega
      have y4 : (b : Int) % 256 = (b : Int) := by omega
      have x3 := hex_index a (by omega)
      have x4 := hex_index b (by omega)
      have x5 := two_string (hd a) (hd b)
      have x6 := two_string_d (hd a) (hd b)
      have l1 : L.size + 2 ≤ 9223372036854775807 := by omega
      have l2 : L.size + (⟨#[hd a, hd b]⟩ : ByteArray).size ≤ 9223372036854775807 := l1
      obtain ⟨f1, f2, f3, f4⟩ := cat_fits' l2
      have HSN := Lib.hid hsn
      have HLS := Lib.hid hls
      clear hsn hce ha hb hg hls
      go_wp2
      go_region
      all_goals
        clear f1 f2 f3 f4 x1 x2 x3 x4 x5 x6 y1 y2 y3 y4 l2
        go_wp2
        go_roundw
        case rel =>
          refine ⟨k + 1, L ++ ⟨#[hd a, hd b]⟩, by omega, by go_num, rfl, ?_, ?_, ?_⟩
          · rw [HSN.out, ← HL.out]; simp
          · rw [ByteArray.size_append, HLS.out]; show 2 * k + 2 = 2 * (k + 1); omega
          · exact (hbel.alloc hbel.size _).drew
        case measure => simp [intOf]; omega
    · obtain rfl : k = s.size := by omega
      have hfin : L = ⟨(hexL s.data.toList).toArray⟩ := by
        apply ByteArray.ext
        apply Array.toList_inj.1
        rw [HL.out, List.take_of_length_le (by rw [hsize_eq]; exact Nat.le_refl _)]
      have HF := Lib.hid hfin
      clear hfin
      go_wp2
      go_ret
      exact ⟨hret_str HF.out, hbel⟩
end Go.Proofs.Ytchjllnlhhoflaa
