/-
  Contracts of package coins, the first part: the table of powers of ten; label, blocks.
-/
import Derived.Test.YtehbbghobagkjaaGreatDoorHash9
import Derived.Test.YtehbbghobagkjaaGreatDoorCN
import Derived.Test.YtehbbghobagkjaaGreatDoorRF
import Derived.Test.YtehbbghobagkjaaGreatDoorTap
import Derived.Lib.AppendIntMem
namespace Go.Proofs.YtehbbghobagkjaaGreatDoor
open Go.RowKit Go.Deep Go.Shelf
set_option linter.unusedVariables false
attribute [local go_sem] Oper.semAt_some

/-- The library's table of powers of ten lies where it was laid. -/
def TabW (w : World) : Prop := Lib.TabIs Tryz.prog w "internal/strconv.uint64pow10" .u64 Lib.pow10Tab
theorem TabW.below {w w' : World} (h : TabW w) (b : Below w.heap.size w w') : TabW w' := Lib.tabBelow_of_tabIs h w' b
theorem TabW.alloc {w : World} (h : TabW w) (o : Obj) : TabW (w.alloc o) := h.below ((Below.refl _ _).alloc (Nat.le_refl _) _)
theorem TabW.drew {w : World} (h : TabW w) : TabW w.drew := h
theorem grow_below (w : World) (k : Nat) (os : Array Obj) : Below w.heap.size w (Sort.grow (w.drewN k) os) := by
  refine ⟨rfl, rfl, rfl, ?_, fun j hj => ?_⟩
  · show w.heap.size ≤ (w.heap ++ os).size
    rw [Array.size_append]; omega
  · show (w.heap ++ os)[j]? = w.heap[j]?
    rw [Array.getElem?_append_left hj]
theorem itoa_any (n : Nat) (w : World) (hn : n ≤ 4294967296) (ht : TabW w) :
    Calls Tryz.prog 87 #[.int .i64 n] w fun e w' => e = .returned (.string ⟨(Lib.decDigits n).toArray⟩) ∧ Below w.heap.size w w' := by
  refine (Tryz.strconv_Itoa (n : Int) (by omega) (by omega) w ht).mono ?_
  rintro e w' ⟨rfl, k, os, rfl⟩
  refine ⟨?_, grow_below w k os⟩
  unfold Lib.itoa
  rw [if_neg (by omega), Int.toNat_natCast]
theorem dec_size {n : Nat} (h : n ≤ 4294967296) : (Lib.decDigits n).length ≤ 11 := by
  rw [Lib.decDigits_length]
  rcases Nat.lt_or_ge 11 (Lib.nDigits n) with q | q
  · exfalso
    have h1 : ∀ u, 10 ^ (Lib.nDigits u - 1) ≤ u ∨ u = 0 := by
      intro u
      induction u using Nat.strongRecOn with
      | _ u ih =>
        by_cases hu : u < 10
        · rw [Lib.nDigits_small hu]
          rcases Nat.eq_zero_or_pos u with z | z
          · exact .inr z
          · exact .inl z
        · rw [Lib.nDigits_big hu]
          rcases ih (u / 10) (by omega) with z | z
          · left
            have hp := Lib.nDigits_pos (u / 10)
            rw [show Lib.nDigits (u / 10) + 1 - 1 = (Lib.nDigits (u / 10) - 1) + 1 by omega, Nat.pow_succ]
            omega
          · omega
    rcases h1 n with z | z
    · have h2 : 10 ^ 11 ≤ 10 ^ (Lib.nDigits n - 1) := Nat.pow_le_pow_right (by omega) (by omega)
      have h3 : (10 : Nat) ^ 11 = 100000000000 := by decide
      omega
    · rw [z] at q
      rw [Lib.nDigits_small (by omega)] at q
      omega
  · exact q
theorem lab_size {t a b : Nat} (h1 : t ≤ 4294967296) (h2 : a ≤ 4294967296) (h3 : b ≤ 4294967296) : (labL t a b).length ≤ 35 := by
  have := dec_size h1; have := dec_size h2; have := dec_size h3
  unfold labL
  simp only [List.length_append, List.length_cons]
  omega
theorem lab_text {t a b : Nat} {x y z : ByteArray} (hx : x = ⟨(Lib.decDigits t).toArray⟩) (hy : y = ⟨(Lib.decDigits a).toArray⟩) (hz : z = ⟨(Lib.decDigits b).toArray⟩) :
    x ++ (⟨#[46]⟩ : ByteArray) ++ y ++ (⟨#[46]⟩ : ByteArray) ++ z = ⟨(labL t a b).toArray⟩ := by
  apply ByteArray.ext
  apply Array.ext'
  subst hx hy hz
  unfold labL
  simp
set_option maxHeartbeats 1000000 in
set_option maxRecDepth 20000 in
theorem label_any (t a b : Nat) (w : World) (h1 : t ≤ 4294967296) (h2 : a ≤ 4294967296) (h3 : b ≤ 4294967296) (ht : TabW w) :
    Calls Tryz.prog 78 #[.int .i64 t, .int .i64 a, .int .i64 b] w fun e w' => e = .returned (.string ⟨(labL t a b).toArray⟩) ∧ Below w.heap.size w w' := by
  have HT := Lib.hid ht; clear ht
  have H1 := Lib.hid h1
  have H2 := Lib.hid h2
  have H3 := Lib.hid h3
  obtain ⟨x, hx⟩ : ∃ x : ByteArray, x = ⟨(Lib.decDigits t).toArray⟩ := ⟨_, rfl⟩
  obtain ⟨y, hy⟩ : ∃ y : ByteArray, y = ⟨(Lib.decDigits a).toArray⟩ := ⟨_, rfl⟩
  obtain ⟨z, hz⟩ : ∃ z : ByteArray, z = ⟨(Lib.decDigits b).toArray⟩ := ⟨_, rfl⟩
  have sx : x.size ≤ 11 := by rw [hx]; exact dec_size h1
  have sy : y.size ≤ 11 := by rw [hy]; exact dec_size h2
  have sz : z.size ≤ 11 := by rw [hz]; exact dec_size h3
  have c1 := fun w h => itoa_any t w h1 h
  have c2 := fun w h => itoa_any a w h2 h
  have c3 := fun w h => itoa_any b w h3 h
  rw [← hx] at c1
  rw [← hy] at c2
  rw [← hz] at c3
  have HL := Lib.hid (lab_text hx hy hz)
  have C1 := Lib.hid c1
  have C2 := Lib.hid c2
  have C3 := Lib.hid c3
  clear hx hy hz c1 c2 c3 h1 h2 h3
  go_enter Tryz.func78, Tryz.ntmps78
  go_wp2_with fail
  refine (C1.out _ HT.out).mono ?_; rintro e w1 ⟨rfl, b1⟩
  have T1 := Lib.hid (HT.out.below b1)
  have B1 := Lib.hid b1; clear b1
  go_wp2_with fail
  refine (C2.out _ T1.out).mono ?_; rintro e w2 ⟨rfl, b2⟩
  have T2 := Lib.hid (T1.out.below b2)
  have B2 := Lib.hid (bnext B1.out b2); clear b2
  go_wp2_with fail
  refine (C3.out _ T2.out).mono ?_; rintro e w3 ⟨rfl, b3⟩
  have B3 := Lib.hid (bnext B2.out b3); clear b3
  go_wp2
  go_ret
  exact ⟨by rw [← HL.out]; rfl, B3.out⟩

/-! ### blocks -/
theorem blocks_any (S : ByteArray) (t a : Int) (w : World) :
    Calls Tryz.prog 71 #[.string S, .int .i64 t, .int .i64 a] w fun e w' =>
      e = .returned (.func (.func 76) #[] #[.pointer (some ⟨w.heap.size, 0, none⟩), .pointer (some ⟨w.heap.size + 1, 0, none⟩), .pointer (some ⟨w.heap.size + 1 + 1, 0, none⟩)]) ∧
      w' = ((w.alloc (.cells #[.string S] 9)).alloc (.cells #[.int .i64 t] 3)).alloc (.cells #[.int .i64 a] 3) := by
  go_enter Tryz.func71, Tryz.ntmps71
  go_wp2
  go_ret
  exact ⟨rfl, rfl⟩
end Go.Proofs.YtehbbghobagkjaaGreatDoor
