/-
  Contracts of package coins, the second part: the blocks of an attempt, yielded for ever.
-/
import Derived.Test.YtehbbghobagkjaaGreatDoorCoi1
import Derived.Sort.LoopGhostIn
import Derived.RangeFuncBox
namespace Go.Proofs.YtehbbghobagkjaaGreatDoor
open Go.RowKit Go.Deep Go.Shelf
set_option linter.unusedVariables false
attribute [local go_sem] Oper.semAt_some

/-- A block of 32 bytes. -/
abbrev Blk := { x : ByteArray // x.size = 32 }
theorem blkB_size (S : List UInt8) (t a b : Nat) : (⟨(blkL S t a b).toArray⟩ : ByteArray).size = 32 := blkL_len S t a b
def blkB (S : List UInt8) (t a b : Nat) : Blk := ⟨⟨(blkL S t a b).toArray⟩, blkB_size S t a b⟩
/-- The first k blocks. -/
def blkK (S : List UInt8) (t a : Nat) : Nat → List Blk
  | 0 => []
  | k + 1 => blkK S t a k ++ [blkB S t a k]
theorem blkK_len (S : List UInt8) (t a : Nat) : ∀ k, (blkK S t a k).length = k := by
  intro k
  induction k with
  | zero => rfl
  | succ k ih => show (blkK S t a k ++ [blkB S t a k]).length = k + 1; rw [List.length_append, ih]; rfl
/-- The bytes of some blocks. -/
def cat (l : List Blk) : List UInt8 := l.flatMap fun x => x.1.data.toList
theorem cat_len : ∀ l : List Blk, (cat l).length = 32 * l.length := by
  intro l
  induction l with
  | nil => rfl
  | cons x l ih =>
    show (x.1.data.toList ++ cat l).length = 32 * (l.length + 1)
    have hx : x.1.data.toList.length = 32 := x.2
    rw [List.length_append, ih, hx]; omega
theorem cat_snoc (l : List Blk) (x : Blk) : cat (l ++ [x]) = cat l ++ x.1.data.toList := by simp [cat]
theorem cat_blkK (S : List UInt8) (t a : Nat) : ∀ k, cat (blkK S t a k) = strmL S t a k := by
  intro k
  induction k with
  | zero => rfl
  | succ k ih => show cat (blkK S t a k ++ [blkB S t a k]) = strmL S t a k ++ blkL S t a k; rw [cat_snoc, ih]; simp [blkB]
/-- What the body keeps: the stream in its box, the size, the three boxes of the iterator, the table. -/
def CanI (w : World) (B9 B10 Bs Bt Ba : Nat) (S : ByteArray) (t a size : Nat) (pre : List Blk) (W : World) : Prop :=
  (((∃ v, Boxed W B10 69 v ∧ W.ownsRow w.heap.size 5 1 v (32 * pre.length) (bvals (cat pre)) ∧ True) ∧ Boxed W B9 3 (.int .i64 size) ∧
    Boxed W Bs 9 (.string S) ∧ Boxed W Bt 3 (.int .i64 t) ∧ Boxed W Ba 3 (.int .i64 a)) ∧ Below w.heap.size w W) ∧ (pre.length = 0 ∨ 32 * pre.length < size)
theorem CanI.tab {w W : World} {B9 B10 Bs Bt Ba : Nat} {S : ByteArray} {t a size : Nat} {pre : List Blk} (h : CanI w B9 B10 Bs Bt Ba S t a size pre W) (ht : TabW w) : TabW W := ht.below h.1.2
theorem grown_of_below {W W' : World} (b : Below W.heap.size W W') : W.grownBy W' none := ⟨b.os, b.tape, b.output, b.size, fun k hk _ => b.block k hk⟩

theorem yield_cases {e : Ending} {P Q : Prop} (h : (e = .returned (.bool true) ∧ P) ∨ (e = .returned (.bool false) ∧ Q)) : ∃ b : Bool, e = .returned (.bool b) ∧ (b = true → P) ∧ (b = false → Q) := by
  rcases h with ⟨rfl, h⟩ | ⟨rfl, h⟩
  · exact ⟨true, rfl, fun _ => h, (fun q => by cases q)⟩
  · exact ⟨false, rfl, (fun q => by cases q), fun _ => h⟩
theorem mac_blk (S L : ByteArray) (t a k : Nat) (w : World) (hS : S.size ≤ 1099511627776) (hL : L = ⟨(labL t a k).toArray⟩) (h : L.size ≤ 1099511627000) :
    Calls Tryz.prog 77 #[.string S, .string L] w fun e w' => e = .returned (.string (blkB S.data.toList t a k).1) ∧ Below w.heap.size w w' := by
  have := mac_any S L w hS h
  rw [hL] at this
  rw [hL]
  exact this
set_option maxRecDepth 100000 in
set_option maxHeartbeats 4000000 in
theorem blocks1_in (m : Nat) (hm : 1 ≤ m) (l : Nat) (w : World) (B9 B10 Bs Bt Ba : Nat) (S : ByteArray) (t a size : Nat) (hS : S.size ≤ 1099511627776) (ht : t ≤ 4294967295) (ha : a ≤ 4294967295) (hsz : size ≤ 128) (htab : TabW w)
    (J Jx : List Blk → World → Prop) (W : World) (hJa : AbidesFrom W.heap.size J) (hJI : ∀ pre V, J pre V → CanI w B9 B10 Bs Bt Ba S t a size pre V)
    (hY : ∀ pre (x : Blk) V, J pre V → YieldAt Fence.wide (m - 1) Tryz.prog l #[.string x.1] V fun e V' => (e = .returned (.bool true) ∧ J (pre ++ [x]) V' ∧ True) ∨ (e = .returned (.bool false) ∧ Jx (pre ++ [x]) V'))
    (hJ0 : J [] W) :
    CallsIn Fence.wide m Tryz.prog 76 #[.func (.yield l) #[] #[], .pointer (some ⟨Bs, 0, none⟩), .pointer (some ⟨Bt, 0, none⟩), .pointer (some ⟨Ba, 0, none⟩)] W fun e V =>
      (∃ v, e = .returned v) ∧ ∃ pre, (∃ k, pre = blkK S.data.toList t a k) ∧ Jx pre V := by
  have HT := Lib.hid htab; clear htab
  have HS := Lib.hid hS; clear hS
  have Ht := Lib.hid ht; clear ht
  have Ha := Lib.hid ha; clear ha
  have HZ := Lib.hid hsz; clear hsz
  refine callsIn_of_wp Tryz.func76 rfl trivial ?_ rfl
  simp only [Tryz.ntmps76, List.size_toArray, List.length_cons, List.length_nil, Nat.reduceAdd, Nat.reduceSub, Array.replicate_succ, Array.replicate_zero, List.push_toArray, List.append_toArray, List.nil_append, List.cons_append]
  gi_wp2
  gi_loopg [5] 5 (fun y vb wr => ∃ k : Nat, k + y = 5 ∧ vb = .int .i64 k ∧ Hid (J (blkK S.data.toList t a k) wr))
  case atStart => exact ⟨0, rfl, rfl, hJ0⟩
  case round =>
    obtain ⟨k, hk, rfl, HJ⟩ := hrel
    have hI := hJI _ _ HJ.out
    have hk4 : k ≤ 4 := by
      have h := hI.2
      rw [blkK_len] at h
      have := HZ.out
      omega
    have hcs := hI.1.1.2.2.1.cell
    have hct := hI.1.1.2.2.2.1.cell
    have hca := hI.1.1.2.2.2.2.cell
    have hls := hI.1.1.2.2.1.lt
    have hlt := hI.1.1.2.2.2.1.lt
    have hla := hI.1.1.2.2.2.2.lt
    have HTR := Lib.hid (hI.tab HT.out)
    clear hI
    gi_wp2
    obtain ⟨L, hL⟩ : ∃ L : ByteArray, L = ⟨(labL t a k).toArray⟩ := ⟨_, rfl⟩
    have hLs : L.size ≤ 35 := by rw [hL]; exact lab_size (by have := Ht.out; omega) (by have := Ha.out; omega) (by omega)
    have c1 := fun V h => label_any t a k V (by have := Ht.out; omega) (by have := Ha.out; omega) (by omega) h
    have c2 := fun V => mac_blk S L t a k V HS.out hL (by omega)
    rw [← hL] at c1
    obtain ⟨X, hX⟩ : ∃ X : Blk, X = blkB S.data.toList t a k := ⟨_, rfl⟩
    rw [← hX] at c2
    have HJN := Lib.hid (show blkK S.data.toList t a (k + 1) = blkK S.data.toList t a k ++ [X] by rw [hX]; rfl)
    have C1 := Lib.hid c1
    have C2 := Lib.hid c2
    obtain ⟨x, hx⟩ : ∃ x, x = X.1 := ⟨_, rfl⟩
    rw [← hx] at c2
    have C2 := Lib.hid c2
    have HYX := fun V h => hY (blkK S.data.toList t a k) X V h
    rw [← hx] at HYX
    have HYX := Lib.hid HYX
    clear c1 c2 hL hLs hX hx hY
    gi_region_with (first
      | (refine ⟨trivial, ?_⟩; gi_at_call 78; refine (callsIn_wide.2 (C1.out _ HTR.out.drew)).mono ?_; rintro e w1 ⟨rfl, b1⟩; have hcs1 := (b1.cell (p := ⟨Bs, 0, none⟩) hls).trans hcs)
      | (refine ⟨trivial, ?_⟩; gi_at_call 77; refine (callsIn_wide.2 (C2.out _)).mono ?_; rintro e w2 ⟨rfl, b2⟩; have HJ2 := Lib.hid (hJa _ wr w2 none HJ.out (grown_of_below (bnext (Below.trans (Below.refl _ wr).drew b1) b2)) (fun r e => by cases e)); obtain ⟨fn, tmps, assign, body, hy, hR⟩ := HYX.out w2 HJ2.out)
      | (refine hR.mono ?_; intro e W3 hp; obtain ⟨b, rfl, hb⟩ := yield_cases hp; have HB := Lib.hid hb; clear hb hp hy hR))
    all_goals
      rcases b with _ | _
      · gi_wp2
        go_end0
        exact ⟨⟨_, rfl⟩, _, ⟨k + 1, by rw [HJN.out]⟩, HB.out.2 (by simp)⟩
      · gi_wp2
        go_roundg (gk - 1)
        case measure => omega
        case rel => exact ⟨k + 1, by omega, by go_num, by rw [HJN.out]; exact (HB.out.1 (by simp)).1⟩
end Go.Proofs.YtehbbghobagkjaaGreatDoor
