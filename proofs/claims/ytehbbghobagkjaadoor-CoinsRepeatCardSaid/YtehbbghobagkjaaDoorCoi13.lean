/-
  Contracts of package coins, the thirteenth part: the refusals of Many; what a coin is.
-/
import Derived.Test.YtehbbghobagkjaaDoorCoi12
namespace Go.Proofs.YtehbbghobagkjaaDoor
open Go.RowKit Go.Deep
set_option linter.unusedVariables false

/-- A refusal of Many. -/
def NoMany (c : Int) (w : World) (e : Ending) (w' : World) : Prop :=
  e = .returned (.tuple #[.slice none 0 0, .agg #[.slice none 0 0, .string ⟨#[]⟩, .int .i64 0], .int .i64 c]) ∧ Below w.heap.size w w'
set_option maxHeartbeats 1000000 in
set_option maxRecDepth 100000 in
theorem many_bad (v : Value) (k : Nat) (f : Nat → ByteArray) (S : ByteArray) (t : Int) (n : ByteArray) (count : Int) (w : World) (hv : SV w v k f) (hk : k ≤ 9223372036854775807) {c : Int} (h : ChkT k f t n c) (hc : c ≠ 0) :
    Calls Tryd.prog 21 #[.agg #[v, .string S, .int .i64 t], .string n, .int .i64 count] w fun e w' => NoMany c w e w' := by
  have b1 := box2_below w (.cells #[v, .string S, .int .i64 t] 24) (.cells #[.slice none 0 0, .string ⟨#[]⟩, .int .i64 0] 24)
  obtain ⟨c', h', hcall⟩ := chk_any v k f S t n _ (hv.below b1) hk
  obtain rfl : c' = c := chkT_uniq h' h
  have CC := Lib.hid hcall
  have HB := Lib.hid b1
  have HT1 := Lib.hid (box2_second w (.slice none 0 0) (.string ⟨#[]⟩) (.int .i64 0) 24 (.cells #[v, .string S, .int .i64 t] 24))
  have hT0 := box2_first w v (.string S) (.int .i64 t) 24 (.cells #[.slice none 0 0, .string ⟨#[]⟩, .int .i64 0] 24)
  obtain ⟨p, cap, rfl, -⟩ := hv
  obtain ⟨q0, q1, q2, q3, q4, q5, q6⟩ := hT0
  clear hcall b1 h h'
  have hcn : (c' == 0) = false := beq_eq_false_iff_ne.2 hc
  go_enter Tryd.func21, Tryd.ntmps21
  go_wp2_with fail
  refine CC.out.mono ?_; rintro e w1 ⟨rfl, b1⟩
  obtain ⟨s0, s1, s2, s3, s4, s5, s6⟩ := HT1.out.below b1 rfl
  have HE := Lib.hid (And.intro (Below.set3 (b := w.heap.size + 1) (bel_of HB.out b1) (Nat.le_succ _) (.slice none 0 0) (.string ⟨#[]⟩) (.int .i64 0)) (Three.set3 (HT1.out.below b1 rfl) (.slice none 0 0) (.string ⟨#[]⟩) (.int .i64 0)))
  clear HB HT1 CC b1
  go_wp2
  have he := HE.out
  clear HE
  generalize World.setCell _ _ _ = W3 at he ⊢
  obtain ⟨h2, m0, m1, m2, m3, m4, m5, m6⟩ := he
  exact bodyPost_ret (v := .tuple #[.slice none 0 0, .agg #[.slice none 0 0, .string ⟨#[]⟩, .int .i64 0], .int .i64 c']) (by simp [results, Tryd.results21, go_sem, m0, m1, m2]) rfl ⟨rfl, h2⟩
set_option maxHeartbeats 1000000 in
set_option maxRecDepth 100000 in
theorem many_long (v : Value) (k : Nat) (f : Nat → ByteArray) (S : ByteArray) (t : Int) (n : ByteArray) (count : Int) (w : World) (hv : SV w v k f) (hk : k ≤ 9223372036854775807) (h : ChkT k f t n 0) (hc : count < 0 ∨ 4096 < count) :
    Calls Tryd.prog 21 #[.agg #[v, .string S, .int .i64 t], .string n, .int .i64 count] w fun e w' => NoMany 6 w e w' := by
  have b1 := box2_below w (.cells #[v, .string S, .int .i64 t] 24) (.cells #[.slice none 0 0, .string ⟨#[]⟩, .int .i64 0] 24)
  obtain ⟨c', h', hcall⟩ := chk_any v k f S t n _ (hv.below b1) hk
  obtain rfl : c' = 0 := chkT_uniq h' h
  have CC := Lib.hid hcall
  have HB := Lib.hid b1
  have HT1 := Lib.hid (box2_second w (.slice none 0 0) (.string ⟨#[]⟩) (.int .i64 0) 24 (.cells #[v, .string S, .int .i64 t] 24))
  have hT0 := box2_first w v (.string S) (.int .i64 t) 24 (.cells #[.slice none 0 0, .string ⟨#[]⟩, .int .i64 0] 24)
  obtain ⟨p, cap, rfl, -⟩ := hv
  obtain ⟨q0, q1, q2, q3, q4, q5, q6⟩ := hT0
  clear hcall b1 h h'
  by_cases h0 : count < 0
  · have hd := decide_eq_true h0
    clear hc
    go_enter Tryd.func21, Tryd.ntmps21
    go_wp2_with fail
    refine CC.out.mono ?_; rintro e w1 ⟨rfl, b1⟩
    obtain ⟨s0, s1, s2, s3, s4, s5, s6⟩ := HT1.out.below b1 rfl
    have HE := Lib.hid (And.intro (Below.set3 (b := w.heap.size + 1) (bel_of HB.out b1) (Nat.le_succ _) (.slice none 0 0) (.string ⟨#[]⟩) (.int .i64 0)) (Three.set3 (HT1.out.below b1 rfl) (.slice none 0 0) (.string ⟨#[]⟩) (.int .i64 0)))
    clear HB HT1 CC b1
    go_wp2
    have he := HE.out
    clear HE
    generalize World.setCell _ _ _ = W3 at he ⊢
    obtain ⟨h2, m0, m1, m2, m3, m4, m5, m6⟩ := he
    exact bodyPost_ret (v := .tuple #[.slice none 0 0, .agg #[.slice none 0 0, .string ⟨#[]⟩, .int .i64 0], .int .i64 6]) (by simp [results, Tryd.results21, go_sem, m0, m1, m2]) rfl ⟨rfl, h2⟩
  · have hd := decide_eq_false h0
    have h1 : (4096 : Int) < count := by omega
    have hd1 := decide_eq_true h1
    clear hc
    go_enter Tryd.func21, Tryd.ntmps21
    go_wp2_with fail
    refine CC.out.mono ?_; rintro e w1 ⟨rfl, b1⟩
    obtain ⟨s0, s1, s2, s3, s4, s5, s6⟩ := HT1.out.below b1 rfl
    have HE := Lib.hid (And.intro (Below.set3 (b := w.heap.size + 1) (bel_of HB.out b1) (Nat.le_succ _) (.slice none 0 0) (.string ⟨#[]⟩) (.int .i64 0)) (Three.set3 (HT1.out.below b1 rfl) (.slice none 0 0) (.string ⟨#[]⟩) (.int .i64 0)))
    clear HB HT1 CC b1
    go_wp2
    have he := HE.out
    clear HE
    generalize World.setCell _ _ _ = W3 at he ⊢
    obtain ⟨h2, m0, m1, m2, m3, m4, m5, m6⟩ := he
    exact bodyPost_ret (v := .tuple #[.slice none 0 0, .agg #[.slice none 0 0, .string ⟨#[]⟩, .int .i64 0], .int .i64 6]) (by simp [results, Tryd.results21, go_sem, m0, m1, m2]) rfl ⟨rfl, h2⟩
/-- A coin is below the bound, and canonical. -/
theorem firstN_below {S : List UInt8} {t n x : Nat} : ∀ (k a : Nat), firstN S t n a k = some x → x < n
  | 0, a, h => by cases h
  | k + 1, a, h => by
    unfold firstN at h
    split at h
    · rename_i hl; obtain rfl := Option.some.inj h; exact hl
    · exact firstN_below k (a + 1) h
theorem nextV_coin {k : Nat} {f : Nat → ByteArray} {S n x : ByteArray} {t : Nat} (hw : ∀ j, j < k → Can (f j)) (hn : Can n) (h : nextV k f S t n = .tuple #[.string x, .int .i64 0]) : Can x ∧ V x < V n := by
  unfold nextV at h
  by_cases h1 : t < k
  · rw [if_pos h1] at h
    by_cases h2 : V (f t) < V n
    · rw [if_pos h2] at h
      by_cases h3 : t = 2147483647
      · rw [if_pos h3] at h; simp at h
      · rw [if_neg h3] at h
        simp at h
        subst h
        exact ⟨hw t h1, h2⟩
    · rw [if_neg h2] at h; simp at h
  · rw [if_neg h1] at h
    by_cases h3 : t = 2147483647 ∨ S.size = 0
    · rw [if_pos h3] at h; simp at h
    · rw [if_neg h3] at h
      cases hx : firstN S.data.toList t (V n) 0 256 with
      | none => rw [hx] at h; simp [FBv] at h
      | some y =>
        rw [hx] at h
        have hy := firstN_below 256 0 hx
        simp [FBv] at h
        subst h
        exact ⟨can_E' (by have := V_lim hn; omega), by rw [V_E]; exact hy⟩
theorem many_uniq {c k : Nat} {f X : Nat → ByteArray} {S : ByteArray} {t : Int} {E : Nat → Int} {w1 w1' w2 w2' : World} {e e' : Ending} (h : ManyNo c E w1 e w1') (h' : ManyP c k f X S t E w2 e' w2') : e' = e ∧ Below w2.heap.size w2 w2' := by
  obtain ⟨i, hi, h0, hne, rfl, -⟩ := h
  rcases h' with ⟨j, hj, g0, gne, rfl, b⟩ | ⟨g0, -⟩
  · obtain rfl : i = j := by
      rcases Nat.lt_trichotomy i j with q | q | q
      · exact absurd (g0 i q) hne
      · exact q
      · exact absurd (h0 j q) gne
    exact ⟨rfl, b⟩
  · exact absurd (g0 i hi) hne
theorem many_okc {c k : Nat} {f X : Nat → ByteArray} {S : ByteArray} {t : Int} {E : Nat → Int} {w2 w2' : World} {e' : Ending} (h : ∀ j, j < c → E j = 0) (h' : ManyP c k f X S t E w2 e' w2') : ManyOk c k f X S t E w2 e' w2' := by
  rcases h' with ⟨j, hj, g0, gne, -⟩ | h'
  · exact absurd (h j hj) gne
  · exact h'
end Go.Proofs.YtehbbghobagkjaaDoor
