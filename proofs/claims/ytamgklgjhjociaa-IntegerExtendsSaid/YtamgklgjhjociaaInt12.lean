/-
  Contracts of package integer and of its reference: Text, Parse.
-/
import Derived.Test.YtamgklgjhjociaaInt10
import Derived.Test.YtamgklgjhjociaaLaw1h
namespace Go.Proofs.Ytamgklgjhjociaa
open Go.RowKit
set_option linter.unusedVariables false

/-- A minus sign ahead of a text. -/
def mns (g : Bool) (r : ByteArray) : ByteArray := if g = true then ⟨#[45]⟩ ++ r else r
theorem same_w {P : Program} {k : Nat} {args : Array Value} {w : World} {v : Value} (h : Calls P k args w fun e w' => e = .returned v ∧ w' = w) : Calls P k args w fun e w' => e = .returned v ∧ w = w' :=
  h.mono fun _ _ q => ⟨q.1, q.2.symm⟩

set_option maxHeartbeats 800000 in
theorem itext_t (s : ByteArray) (w : World) (h : IVal true s) :
    Calls Try.prog 40 #[.agg #[.bool true, .string s]] w fun e w' => e = .returned (.tuple #[.string (mns true (T (V s))), .int .i64 0]) ∧ Below w.heap.size w w' := by
  have HI := Lib.hid h
  have HT := Lib.hid (fun w => text_yes s w h.1)
  have hts := T_small (V_lim h.1)
  clear h
  obtain ⟨t, ht⟩ : ∃ t, t = T (V s) := ⟨_, rfl⟩
  rw [← ht] at HT hts ⊢
  clear ht
  go_enter Try.func40, Try.ntmps40
  go_wp2_with fail
  refine (ivalid_t true s _ HI.out).mono ?_; rintro e w1 ⟨rfl, b1⟩
  obtain ⟨T1, k1⟩ := after1 b1
  obtain ⟨q1, q2⟩ := T1.out
  go_wp2_with fail
  refine (HT.out _).mono ?_; rintro e w2 ⟨rfl, b2⟩
  have k2 := bnextW k1 b2 k1.size
  have T1 := T1.below b2 rfl
  clear q1 q2
  obtain ⟨q1, q2⟩ := T1.out
  go_wp2
  go_ret2
  exact ⟨rfl, k2⟩

set_option maxHeartbeats 800000 in
theorem itext_f (s : ByteArray) (w : World) (h : IVal false s) :
    Calls Try.prog 40 #[.agg #[.bool false, .string s]] w fun e w' => e = .returned (.tuple #[.string (mns false (T (V s))), .int .i64 0]) ∧ Below w.heap.size w w' := by
  have HI := Lib.hid h
  have HT := Lib.hid (fun w => text_yes s w h.1)
  have hts := T_small (V_lim h.1)
  clear h
  obtain ⟨t, ht⟩ : ∃ t, t = T (V s) := ⟨_, rfl⟩
  rw [← ht] at HT hts ⊢
  clear ht
  go_enter Try.func40, Try.ntmps40
  go_wp2_with fail
  refine (ivalid_t false s _ HI.out).mono ?_; rintro e w1 ⟨rfl, b1⟩
  obtain ⟨T1, k1⟩ := after1 b1
  obtain ⟨q1, q2⟩ := T1.out
  go_wp2_with fail
  refine (HT.out _).mono ?_; rintro e w2 ⟨rfl, b2⟩
  have k2 := bnextW k1 b2 k1.size
  have T1 := T1.below b2 rfl
  clear q1 q2
  obtain ⟨q1, q2⟩ := T1.out
  go_wp2
  go_ret2
  exact ⟨rfl, k2⟩

theorem itext_yes (g : Bool) (s : ByteArray) (w : World) (h : IVal g s) :
    Calls Try.prog 40 #[.agg #[.bool g, .string s]] w fun e w' => e = .returned (.tuple #[.string (mns g (T (V s))), .int .i64 0]) ∧ Below w.heap.size w w' := by
  cases g
  · exact itext_f s w h
  · exact itext_t s w h
set_option maxHeartbeats 800000 in
theorem itext_no (g : Bool) (s : ByteArray) (w : World) (h : ¬ IVal g s) :
    Calls Try.prog 40 #[.agg #[.bool g, .string s]] w fun e w' => e = .returned (.tuple #[.string ⟨#[]⟩, .int .i64 3]) ∧ Below w.heap.size w w' := by
  have HI := Lib.hid h; clear h
  go_enter Try.func40, Try.ntmps40
  go_wp2_with fail
  refine (ivalid_f g s _ HI.out).mono ?_; rintro e w1 ⟨rfl, b1⟩
  obtain ⟨T1, k1⟩ := after1 b1
  go_wp2
  go_ret2
  exact ⟨rfl, k1⟩

set_option maxHeartbeats 800000 in
theorem ritext_t (s : ByteArray) (w : World) (h : IVal true s) :
    Calls Try.prog 41 #[.agg #[.bool true, .string s]] w fun e w' => e = .returned (.tuple #[.string (mns true (T (V s))), .int .i64 0]) ∧ Below w.heap.size w w' := by
  have HI := Lib.hid h
  have HT := Lib.hid (fun w => rtext_yes s w h.1)
  have hts := T_small (V_lim h.1)
  clear h
  obtain ⟨t, ht⟩ : ∃ t, t = T (V s) := ⟨_, rfl⟩
  rw [← ht] at HT hts ⊢
  clear ht
  go_enter Try.func41, Try.ntmps41
  go_wp2_with fail
  refine (rivalid_t true s _ HI.out).mono ?_; rintro e w1 ⟨rfl, b1⟩
  obtain ⟨T1, k1⟩ := after1 b1
  obtain ⟨q1, q2⟩ := T1.out
  go_wp2_with fail
  refine (HT.out _).mono ?_; rintro e w2 ⟨rfl, b2⟩
  have k2 := bnextW k1 b2 k1.size
  have T1 := T1.below b2 rfl
  clear q1 q2
  obtain ⟨q1, q2⟩ := T1.out
  go_wp2
  go_ret2
  exact ⟨rfl, k2⟩

set_option maxHeartbeats 800000 in
theorem ritext_f (s : ByteArray) (w : World) (h : IVal false s) :
    Calls Try.prog 41 #[.agg #[.bool false, .string s]] w fun e w' => e = .returned (.tuple #[.string (mns false (T (V s))), .int .i64 0]) ∧ Below w.heap.size w w' := by
  have HI := Lib.hid h
  have HT := Lib.hid (fun w => rtext_yes s w h.1)
  have hts := T_small (V_lim h.1)
  clear h
  obtain ⟨t, ht⟩ : ∃ t, t = T (V s) := ⟨_, rfl⟩
  rw [← ht] at HT hts ⊢
  clear ht
  go_enter Try.func41, Try.ntmps41
  go_wp2_with fail
  refine (rivalid_t false s _ HI.out).mono ?_; rintro e w1 ⟨rfl, b1⟩
  obtain ⟨T1, k1⟩ := after1 b1
  obtain ⟨q1, q2⟩ := T1.out
  go_wp2_with fail
  refine (HT.out _).mono ?_; rintro e w2 ⟨rfl, b2⟩
  have k2 := bnextW k1 b2 k1.size
  have T1 := T1.below b2 rfl
  clear q1 q2
  obtain ⟨q1, q2⟩ := T1.out
  go_wp2
  go_ret2
  exact ⟨rfl, k2⟩

theorem ritext_yes (g : Bool) (s : ByteArray) (w : World) (h : IVal g s) :
    Calls Try.prog 41 #[.agg #[.bool g, .string s]] w fun e w' => e = .returned (.tuple #[.string (mns g (T (V s))), .int .i64 0]) ∧ Below w.heap.size w w' := by
  cases g
  · exact ritext_f s w h
  · exact ritext_t s w h
set_option maxHeartbeats 800000 in
theorem ritext_no (g : Bool) (s : ByteArray) (w : World) (h : ¬ IVal g s) :
    Calls Try.prog 41 #[.agg #[.bool g, .string s]] w fun e w' => e = .returned (.tuple #[.string ⟨#[]⟩, .int .i64 3]) ∧ Below w.heap.size w w' := by
  have HI := Lib.hid h; clear h
  go_enter Try.func41, Try.ntmps41
  go_wp2_with fail
  refine (rivalid_f g s _ HI.out).mono ?_; rintro e w1 ⟨rfl, b1⟩
  obtain ⟨T1, k1⟩ := after1 b1
  go_wp2
  go_ret2
  exact ⟨rfl, k1⟩

set_option maxHeartbeats 800000 in
set_option maxRecDepth 20000 in
theorem iparse_terr (s r b S : ByteArray) (G : Bool) (v : Int) (w : World)
    (hC : ∀ w, Calls Try.prog 67 #[.string s, .string ⟨#[45]⟩] w fun e w' => e = .returned (.tuple #[.string r, .bool true]) ∧ w = w') (hv : ¬ v = 0)
    (hP : ∀ w, Calls Try.prog 68 #[.string r] w fun e w' => e = .returned (.tuple #[.string b, .int .i64 v]) ∧ Below w.heap.size w w') :
    Calls Try.prog 42 #[.string s] w fun e w' => e = .returned (.tuple #[.agg #[.bool false, .string ⟨#[]⟩], .int .i64 v]) ∧ Below w.heap.size w w' := by
  have HC := Lib.hid hC; clear hC
  have HP := Lib.hid hP; clear hP
  go_enter Try.func42, Try.ntmps42
  go_wp2_with fail
  refine (HC.out _).mono ?_; rintro e wx ⟨rfl, rfl⟩
  go_wp2_with fail
  refine (HP.out _).mono ?_; rintro e w1 ⟨rfl, b1⟩
  obtain ⟨T1, k1⟩ := after1 b1
  obtain ⟨q1, q2, q3, q4, q5⟩ := T1
  go_wp2
  refine bodyPost_ret (v := .tuple #[.agg #[.bool false, .string ⟨#[]⟩], .int .i64 v]) (by simp [results, Try.results42, go_sem, q1, q2]) rfl ⟨rfl, ?_⟩
  exact bset k1 (Nat.le_refl _)

set_option maxHeartbeats 800000 in
set_option maxRecDepth 20000 in
theorem iparse_tzero (s r b S : ByteArray) (G : Bool) (v : Int) (w : World)
    (hC : ∀ w, Calls Try.prog 67 #[.string s, .string ⟨#[45]⟩] w fun e w' => e = .returned (.tuple #[.string r, .bool true]) ∧ w = w') (hv : v = 0) (hb : b.toList.isEmpty = true)
    (hP : ∀ w, Calls Try.prog 68 #[.string r] w fun e w' => e = .returned (.tuple #[.string b, .int .i64 v]) ∧ Below w.heap.size w w') :
    Calls Try.prog 42 #[.string s] w fun e w' => e = .returned (.tuple #[.agg #[.bool false, .string ⟨#[]⟩], .int .i64 4]) ∧ Below w.heap.size w w' := by
  have HC := Lib.hid hC; clear hC
  subst hv
  have HP := Lib.hid hP; clear hP
  go_enter Try.func42, Try.ntmps42
  go_wp2_with fail
  refine (HC.out _).mono ?_; rintro e wx ⟨rfl, rfl⟩
  go_wp2_with fail
  refine (HP.out _).mono ?_; rintro e w1 ⟨rfl, b1⟩
  obtain ⟨T1, k1⟩ := after1 b1
  obtain ⟨q1, q2, q3, q4, q5⟩ := T1
  go_wp2
  refine bodyPost_ret (v := .tuple #[.agg #[.bool false, .string ⟨#[]⟩], .int .i64 4]) (by simp [results, Try.results42, go_sem, q1, q2]) rfl ⟨rfl, ?_⟩
  exact bset k1 (Nat.le_refl _)

set_option maxHeartbeats 800000 in
set_option maxRecDepth 20000 in
theorem iparse_tok (s r b S : ByteArray) (G : Bool) (v : Int) (w : World)
    (hC : ∀ w, Calls Try.prog 67 #[.string s, .string ⟨#[45]⟩] w fun e w' => e = .returned (.tuple #[.string r, .bool true]) ∧ w = w') (hv : v = 0) (hb : b.toList.isEmpty = false)
    (hP : ∀ w, Calls Try.prog 68 #[.string r] w fun e w' => e = .returned (.tuple #[.string b, .int .i64 v]) ∧ Below w.heap.size w w')
    (hS : ∀ w, Calls Try.prog 53 #[.bool true, .string b] w fun e w' => e = .returned (.agg #[.bool G, .string S]) ∧ Below w.heap.size w w') :
    Calls Try.prog 42 #[.string s] w fun e w' => e = .returned (.tuple #[.agg #[.bool G, .string S], .int .i64 0]) ∧ Below w.heap.size w w' := by
  have HC := Lib.hid hC; clear hC
  subst hv
  have HP := Lib.hid hP; clear hP
  have HS := Lib.hid hS; clear hS
  go_enter Try.func42, Try.ntmps42
  go_wp2_with fail
  refine (HC.out _).mono ?_; rintro e wx ⟨rfl, rfl⟩
  go_wp2_with fail
  refine (HP.out _).mono ?_; rintro e w1 ⟨rfl, b1⟩
  obtain ⟨T1, k1⟩ := after1 b1
  obtain ⟨q1, q2, q3, q4, q5⟩ := T1
  go_wp2_with fail
  refine (HS.out _).mono ?_; rintro e w2 ⟨rfl, b2⟩
  have k1 := bnextW k1 b2 k1.size
  have T1 : Two w2 w.heap.size (.bool false) (.string ⟨#[]⟩) := Two.below ⟨q1, q2, q3, q4, q5⟩ b2 rfl
  clear q1 q2 q3 q4 q5
  obtain ⟨q1, q2, q3, q4, q5⟩ := T1
  go_wp2
  refine bodyPost_ret (v := .tuple #[.agg #[.bool G, .string S], .int .i64 0]) (by simp [results, Try.results42, go_sem, q1, q2]) rfl ⟨rfl, ?_⟩
  exact bset k1 (Nat.le_refl _)

set_option maxHeartbeats 800000 in
set_option maxRecDepth 20000 in
theorem iparse_ferr (s r b S : ByteArray) (G : Bool) (v : Int) (w : World)
    (hC : ∀ w, Calls Try.prog 67 #[.string s, .string ⟨#[45]⟩] w fun e w' => e = .returned (.tuple #[.string r, .bool false]) ∧ w = w') (hv : ¬ v = 0)
    (hP : ∀ w, Calls Try.prog 68 #[.string r] w fun e w' => e = .returned (.tuple #[.string b, .int .i64 v]) ∧ Below w.heap.size w w') :
    Calls Try.prog 42 #[.string s] w fun e w' => e = .returned (.tuple #[.agg #[.bool false, .string ⟨#[]⟩], .int .i64 v]) ∧ Below w.heap.size w w' := by
  have HC := Lib.hid hC; clear hC
  have HP := Lib.hid hP; clear hP
  go_enter Try.func42, Try.ntmps42
  go_wp2_with fail
  refine (HC.out _).mono ?_; rintro e wx ⟨rfl, rfl⟩
  go_wp2_with fail
  refine (HP.out _).mono ?_; rintro e w1 ⟨rfl, b1⟩
  obtain ⟨T1, k1⟩ := after1 b1
  obtain ⟨q1, q2, q3, q4, q5⟩ := T1
  go_wp2
  refine bodyPost_ret (v := .tuple #[.agg #[.bool false, .string ⟨#[]⟩], .int .i64 v]) (by simp [results, Try.results42, go_sem, q1, q2]) rfl ⟨rfl, ?_⟩
  exact bset k1 (Nat.le_refl _)

set_option maxHeartbeats 800000 in
set_option maxRecDepth 20000 in
theorem iparse_fok (s r b S : ByteArray) (G : Bool) (v : Int) (w : World)
    (hC : ∀ w, Calls Try.prog 67 #[.string s, .string ⟨#[45]⟩] w fun e w' => e = .returned (.tuple #[.string r, .bool false]) ∧ w = w') (hv : v = 0)
    (hP : ∀ w, Calls Try.prog 68 #[.string r] w fun e w' => e = .returned (.tuple #[.string b, .int .i64 v]) ∧ Below w.heap.size w w')
    (hS : ∀ w, Calls Try.prog 53 #[.bool false, .string b] w fun e w' => e = .returned (.agg #[.bool G, .string S]) ∧ Below w.heap.size w w') :
    Calls Try.prog 42 #[.string s] w fun e w' => e = .returned (.tuple #[.agg #[.bool G, .string S], .int .i64 0]) ∧ Below w.heap.size w w' := by
  have HC := Lib.hid hC; clear hC
  subst hv
  have HP := Lib.hid hP; clear hP
  have HS := Lib.hid hS; clear hS
  go_enter Try.func42, Try.ntmps42
  go_wp2_with fail
  refine (HC.out _).mono ?_; rintro e wx ⟨rfl, rfl⟩
  go_wp2_with fail
  refine (HP.out _).mono ?_; rintro e w1 ⟨rfl, b1⟩
  obtain ⟨T1, k1⟩ := after1 b1
  obtain ⟨q1, q2, q3, q4, q5⟩ := T1
  go_wp2_with fail
  refine (HS.out _).mono ?_; rintro e w2 ⟨rfl, b2⟩
  have k1 := bnextW k1 b2 k1.size
  have T1 : Two w2 w.heap.size (.bool false) (.string ⟨#[]⟩) := Two.below ⟨q1, q2, q3, q4, q5⟩ b2 rfl
  clear q1 q2 q3 q4 q5
  obtain ⟨q1, q2, q3, q4, q5⟩ := T1
  go_wp2
  refine bodyPost_ret (v := .tuple #[.agg #[.bool G, .string S], .int .i64 0]) (by simp [results, Try.results42, go_sem, q1, q2]) rfl ⟨rfl, ?_⟩
  exact bset k1 (Nat.le_refl _)

set_option maxHeartbeats 800000 in
set_option maxRecDepth 20000 in
theorem riparse_terr (s r b S : ByteArray) (G : Bool) (v : Int) (w : World) (h0 : 0 < s.size) (hs : s.size ≤ 1000) (h45 : (((s[0]'h0).toNat : Int) == 45) = true) (hr : s.extract 1 s.size = r) (hv : ¬ v = 0)
    (hP : ∀ w, Calls Try.prog 69 #[.string r] w fun e w' => e = .returned (.tuple #[.string b, .int .i64 v]) ∧ Below w.heap.size w w') :
    Calls Try.prog 43 #[.string s] w fun e w' => e = .returned (.tuple #[.agg #[.bool false, .string ⟨#[]⟩], .int .i64 v]) ∧ Below w.heap.size w w' := by
  have hs1 : (0 : Int) < s.size := by omega
  have hs2 : (1 : Int) ≤ s.size := by omega
  have hs3 : (s.size : Int) ≤ 1000 := by omega
  rw [← hr] at hP
  clear hr
  have HP := Lib.hid hP; clear hP
  go_enter Try.func43, Try.ntmps43
  go_wp2_with fail
  refine (HP.out _).mono ?_; rintro e w1 ⟨rfl, b1⟩
  obtain ⟨T1, k1⟩ := after1 b1
  obtain ⟨q1, q2, q3, q4, q5⟩ := T1
  go_wp2
  refine bodyPost_ret (v := .tuple #[.agg #[.bool false, .string ⟨#[]⟩], .int .i64 v]) (by simp [results, Try.results43, go_sem, q1, q2]) rfl ⟨rfl, ?_⟩
  exact bset k1 (Nat.le_refl _)

set_option maxHeartbeats 800000 in
set_option maxRecDepth 20000 in
theorem riparse_tzero (s r b S : ByteArray) (G : Bool) (v : Int) (w : World) (h0 : 0 < s.size) (hs : s.size ≤ 1000) (h45 : (((s[0]'h0).toNat : Int) == 45) = true) (hr : s.extract 1 s.size = r) (hv : v = 0) (hb : b.toList.isEmpty = true)
    (hP : ∀ w, Calls Try.prog 69 #[.string r] w fun e w' => e = .returned (.tuple #[.string b, .int .i64 v]) ∧ Below w.heap.size w w') :
    Calls Try.prog 43 #[.string s] w fun e w' => e = .returned (.tuple #[.agg #[.bool false, .string ⟨#[]⟩], .int .i64 4]) ∧ Below w.heap.size w w' := by
  have hs1 : (0 : Int) < s.size := by omega
  have hs2 : (1 : Int) ≤ s.size := by omega
  have hs3 : (s.size : Int) ≤ 1000 := by omega
  rw [← hr] at hP
  clear hr
  subst hv
  have HP := Lib.hid hP; clear hP
  go_enter Try.func43, Try.ntmps43
  go_wp2_with fail
  refine (HP.out _).mono ?_; rintro e w1 ⟨rfl, b1⟩
  obtain ⟨T1, k1⟩ := after1 b1
  obtain ⟨q1, q2, q3, q4, q5⟩ := T1
  go_wp2
  refine bodyPost_ret (v := .tuple #[.agg #[.bool false, .string ⟨#[]⟩], .int .i64 4]) (by simp [results, Try.results43, go_sem, q1, q2]) rfl ⟨rfl, ?_⟩
  exact bset k1 (Nat.le_refl _)

set_option maxHeartbeats 800000 in
set_option maxRecDepth 20000 in
theorem riparse_tok (s r b S : ByteArray) (G : Bool) (v : Int) (w : World) (h0 : 0 < s.size) (hs : s.size ≤ 1000) (h45 : (((s[0]'h0).toNat : Int) == 45) = true) (hr : s.extract 1 s.size = r) (hv : v = 0) (hb : b.toList.isEmpty = false)
    (hP : ∀ w, Calls Try.prog 69 #[.string r] w fun e w' => e = .returned (.tuple #[.string b, .int .i64 v]) ∧ Below w.heap.size w w')
    (hS : ∀ w, Calls Try.prog 51 #[.bool true, .string b] w fun e w' => e = .returned (.agg #[.bool G, .string S]) ∧ Below w.heap.size w w') :
    Calls Try.prog 43 #[.string s] w fun e w' => e = .returned (.tuple #[.agg #[.bool G, .string S], .int .i64 0]) ∧ Below w.heap.size w w' := by
  have hs1 : (0 : Int) < s.size := by omega
  have hs2 : (1 : Int) ≤ s.size := by omega
  have hs3 : (s.size : Int) ≤ 1000 := by omega
  rw [← hr] at hP
  clear hr
  subst hv
  have HP := Lib.hid hP; clear hP
  have HS := Lib.hid hS; clear hS
  go_enter Try.func43, Try.ntmps43
  go_wp2_with fail
  refine (HP.out _).mono ?_; rintro e w1 ⟨rfl, b1⟩
  obtain ⟨T1, k1⟩ := after1 b1
  obtain ⟨q1, q2, q3, q4, q5⟩ := T1
  go_wp2_with fail
  refine (HS.out _).mono ?_; rintro e w2 ⟨rfl, b2⟩
  have k1 := bnextW k1 b2 k1.size
  have T1 : Two w2 w.heap.size (.bool false) (.string ⟨#[]⟩) := Two.below ⟨q1, q2, q3, q4, q5⟩ b2 rfl
  clear q1 q2 q3 q4 q5
  obtain ⟨q1, q2, q3, q4, q5⟩ := T1
  go_wp2
  refine bodyPost_ret (v := .tuple #[.agg #[.bool G, .string S], .int .i64 0]) (by simp [results, Try.results43, go_sem, q1, q2]) rfl ⟨rfl, ?_⟩
  exact bset k1 (Nat.le_refl _)

set_option maxHeartbeats 800000 in
set_option maxRecDepth 20000 in
theorem riparse_ferr (s r b S : ByteArray) (G : Bool) (v : Int) (w : World) (h0 : 0 < s.size) (hs : s.size ≤ 1000) (h45 : (((s[0]'h0).toNat : Int) == 45) = false) (hr : s = r) (hv : ¬ v = 0)
    (hP : ∀ w, Calls Try.prog 69 #[.string r] w fun e w' => e = .returned (.tuple #[.string b, .int .i64 v]) ∧ Below w.heap.size w w') :
    Calls Try.prog 43 #[.string s] w fun e w' => e = .returned (.tuple #[.agg #[.bool false, .string ⟨#[]⟩], .int .i64 v]) ∧ Below w.heap.size w w' := by
  have hs1 : (0 : Int) < s.size := by omega
  rw [← hr] at hP
  clear hr
  have HP := Lib.hid hP; clear hP
  go_enter Try.func43, Try.ntmps43
  go_wp2_with fail
  refine (HP.out _).mono ?_; rintro e w1 ⟨rfl, b1⟩
  obtain ⟨T1, k1⟩ := after1 b1
  obtain ⟨q1, q2, q3, q4, q5⟩ := T1
  go_wp2
  refine bodyPost_ret (v := .tuple #[.agg #[.bool false, .string ⟨#[]⟩], .int .i64 v]) (by simp [results, Try.results43, go_sem, q1, q2]) rfl ⟨rfl, ?_⟩
  exact bset k1 (Nat.le_refl _)

set_option maxHeartbeats 800000 in
set_option maxRecDepth 20000 in
theorem riparse_fok (s r b S : ByteArray) (G : Bool) (v : Int) (w : World) (h0 : 0 < s.size) (hs : s.size ≤ 1000) (h45 : (((s[0]'h0).toNat : Int) == 45) = false) (hr : s = r) (hv : v = 0)
    (hP : ∀ w, Calls Try.prog 69 #[.string r] w fun e w' => e = .returned (.tuple #[.string b, .int .i64 v]) ∧ Below w.heap.size w w')
    (hS : ∀ w, Calls Try.prog 51 #[.bool false, .string b] w fun e w' => e = .returned (.agg #[.bool G, .string S]) ∧ Below w.heap.size w w') :
    Calls Try.prog 43 #[.string s] w fun e w' => e = .returned (.tuple #[.agg #[.bool G, .string S], .int .i64 0]) ∧ Below w.heap.size w w' := by
  have hs1 : (0 : Int) < s.size := by omega
  rw [← hr] at hP
  clear hr
  subst hv
  have HP := Lib.hid hP; clear hP
  have HS := Lib.hid hS; clear hS
  go_enter Try.func43, Try.ntmps43
  go_wp2_with fail
  refine (HP.out _).mono ?_; rintro e w1 ⟨rfl, b1⟩
  obtain ⟨T1, k1⟩ := after1 b1
  obtain ⟨q1, q2, q3, q4, q5⟩ := T1
  go_wp2_with fail
  refine (HS.out _).mono ?_; rintro e w2 ⟨rfl, b2⟩
  have k1 := bnextW k1 b2 k1.size
  have T1 : Two w2 w.heap.size (.bool false) (.string ⟨#[]⟩) := Two.below ⟨q1, q2, q3, q4, q5⟩ b2 rfl
  clear q1 q2 q3 q4 q5
  obtain ⟨q1, q2, q3, q4, q5⟩ := T1
  go_wp2
  refine bodyPost_ret (v := .tuple #[.agg #[.bool G, .string S], .int .i64 0]) (by simp [results, Try.results43, go_sem, q1, q2]) rfl ⟨rfl, ?_⟩
  exact bset k1 (Nat.le_refl _)

set_option maxHeartbeats 800000 in
set_option maxRecDepth 20000 in
theorem riparse_eerr (s r b S : ByteArray) (G : Bool) (v : Int) (w : World) (h0 : s.size = 0) (hr : s = r) (hv : ¬ v = 0)
    (hP : ∀ w, Calls Try.prog 69 #[.string r] w fun e w' => e = .returned (.tuple #[.string b, .int .i64 v]) ∧ Below w.heap.size w w') :
    Calls Try.prog 43 #[.string s] w fun e w' => e = .returned (.tuple #[.agg #[.bool false, .string ⟨#[]⟩], .int .i64 v]) ∧ Below w.heap.size w w' := by
  have hs1 : ¬ (0 : Int) < s.size := by omega
  rw [← hr] at hP
  clear hr h0
  have HP := Lib.hid hP; clear hP
  go_enter Try.func43, Try.ntmps43
  go_wp2_with fail
  refine (HP.out _).mono ?_; rintro e w1 ⟨rfl, b1⟩
  obtain ⟨T1, k1⟩ := after1 b1
  obtain ⟨q1, q2, q3, q4, q5⟩ := T1
  go_wp2
  refine bodyPost_ret (v := .tuple #[.agg #[.bool false, .string ⟨#[]⟩], .int .i64 v]) (by simp [results, Try.results43, go_sem, q1, q2]) rfl ⟨rfl, ?_⟩
  exact bset k1 (Nat.le_refl _)

set_option maxHeartbeats 800000 in
set_option maxRecDepth 20000 in
theorem riparse_eok (s r b S : ByteArray) (G : Bool) (v : Int) (w : World) (h0 : s.size = 0) (hr : s = r) (hv : v = 0)
    (hP : ∀ w, Calls Try.prog 69 #[.string r] w fun e w' => e = .returned (.tuple #[.string b, .int .i64 v]) ∧ Below w.heap.size w w')
    (hS : ∀ w, Calls Try.prog 51 #[.bool false, .string b] w fun e w' => e = .returned (.agg #[.bool G, .string S]) ∧ Below w.heap.size w w') :
    Calls Try.prog 43 #[.string s] w fun e w' => e = .returned (.tuple #[.agg #[.bool G, .string S], .int .i64 0]) ∧ Below w.heap.size w w' := by
  have hs1 : ¬ (0 : Int) < s.size := by omega
  rw [← hr] at hP
  clear hr h0
  subst hv
  have HP := Lib.hid hP; clear hP
  have HS := Lib.hid hS; clear hS
  go_enter Try.func43, Try.ntmps43
  go_wp2_with fail
  refine (HP.out _).mono ?_; rintro e w1 ⟨rfl, b1⟩
  obtain ⟨T1, k1⟩ := after1 b1
  obtain ⟨q1, q2, q3, q4, q5⟩ := T1
  go_wp2_with fail
  refine (HS.out _).mono ?_; rintro e w2 ⟨rfl, b2⟩
  have k1 := bnextW k1 b2 k1.size
  have T1 : Two w2 w.heap.size (.bool false) (.string ⟨#[]⟩) := Two.below ⟨q1, q2, q3, q4, q5⟩ b2 rfl
  clear q1 q2 q3 q4 q5
  obtain ⟨q1, q2, q3, q4, q5⟩ := T1
  go_wp2
  refine bodyPost_ret (v := .tuple #[.agg #[.bool G, .string S], .int .i64 0]) (by simp [results, Try.results43, go_sem, q1, q2]) rfl ⟨rfl, ?_⟩
  exact bset k1 (Nat.le_refl _)

/-! ### Parse in words -/
open Classical in
/-- What Parse makes of a sign and digits. -/
noncomputable def ipN (g : Bool) (r : ByteArray) : Value :=
  if DecS r then (if pv r r.size < Lim then (if g = true ∧ pv r r.size = 0 then .tuple #[Z 0, .int .i64 4] else .tuple #[Z (sg g (pv r r.size)), .int .i64 0]) else .tuple #[Z 0, .int .i64 5]) else .tuple #[Z 0, .int .i64 4]
theorem ipN_bad {g : Bool} {r : ByteArray} (h : ¬ DecS r) : ipN g r = .tuple #[Z 0, .int .i64 4] := by unfold ipN; rw [if_neg h]
theorem ipN_long {g : Bool} {r : ByteArray} (h : DecS r) (h2 : ¬ pv r r.size < Lim) : ipN g r = .tuple #[Z 0, .int .i64 5] := by unfold ipN; rw [if_pos h, if_neg h2]
theorem ipN_zero {r : ByteArray} (h : DecS r) (h2 : pv r r.size < Lim) (h3 : pv r r.size = 0) : ipN true r = .tuple #[Z 0, .int .i64 4] := by unfold ipN; rw [if_pos h, if_pos h2, if_pos ⟨rfl, h3⟩]
theorem ipN_ok {g : Bool} {r : ByteArray} (h : DecS r) (h2 : pv r r.size < Lim) (h3 : ¬ (g = true ∧ pv r r.size = 0)) : ipN g r = .tuple #[Z (sg g (pv r r.size)), .int .i64 0] := by unfold ipN; rw [if_pos h, if_pos h2, if_neg h3]
theorem ipN_code (g : Bool) (r : ByteArray) : ∃ (G : Bool) (S : ByteArray) (v : Nat), ipN g r = .tuple #[.agg #[.bool G, .string S], .int .i64 v] ∧ v ≤ 100 := by
  unfold ipN
  split
  · split
    · split
      · exact ⟨_, _, 4, rfl, by omega⟩
      · exact ⟨_, _, 0, rfl, by omega⟩
    · exact ⟨_, _, 5, rfl, by omega⟩
  · exact ⟨_, _, 4, rfl, by omega⟩
theorem parse_bad (r : ByteArray) (w : World) (hr : r.size ≤ 1000) (h : ¬ DecS r) :
    Calls Try.prog 68 #[.string r] w fun e w' => e = .returned (.tuple #[.string (E 0), .int .i64 4]) ∧ Below w.heap.size w w' := (parse_no r w hr h).mono fun _ _ => same_below
theorem rparse_bad (r : ByteArray) (w : World) (hr : r.size ≤ 1000) (h : ¬ DecS r) :
    Calls Try.prog 69 #[.string r] w fun e w' => e = .returned (.tuple #[.string (E 0), .int .i64 4]) ∧ Below w.heap.size w w' := (rparse_no r w hr h).mono fun _ _ => same_below

theorem iparse_t (s r : ByteArray) (w : World) (hC : ∀ w, Calls Try.prog 67 #[.string s, .string ⟨#[45]⟩] w fun e w' => e = .returned (.tuple #[.string r, .bool true]) ∧ w = w') (hr : r.size ≤ 1000) :
    Calls Try.prog 42 #[.string s] w fun e w' => e = .returned (ipN true r) ∧ Below w.heap.size w w' := by
  by_cases hd : DecS r
  · have hp := fun w => parse_yes r w hr hd
    by_cases hl : pv r r.size < Lim
    · rw [okN_yes hl] at hp
      by_cases hz : pv r r.size = 0
      · rw [ipN_zero hd hl hz, Z_zero]
        exact iparse_tzero s r _ s false 0 w hC rfl (by rw [E_empty, hz]; rfl) hp
      · rw [ipN_ok hd hl (fun q => hz q.2)]
        exact iparse_tok s r _ _ _ 0 w hC rfl (by rw [E_empty]; simp [hz]) hp (fun w => signed_n true _ w)
    · rw [okN_no hl] at hp
      rw [ipN_long hd hl, Z_zero]
      exact iparse_terr s r _ s false 5 w hC (by decide) hp
  · rw [ipN_bad hd, Z_zero]
    exact iparse_terr s r _ s false 4 w hC (by decide) (fun w => parse_bad r w hr hd)

theorem iparse_f (s r : ByteArray) (w : World) (hC : ∀ w, Calls Try.prog 67 #[.string s, .string ⟨#[45]⟩] w fun e w' => e = .returned (.tuple #[.string r, .bool false]) ∧ w = w') (hr : r.size ≤ 1000) :
    Calls Try.prog 42 #[.string s] w fun e w' => e = .returned (ipN false r) ∧ Below w.heap.size w w' := by
  by_cases hd : DecS r
  · have hp := fun w => parse_yes r w hr hd
    by_cases hl : pv r r.size < Lim
    · rw [okN_yes hl] at hp
      rw [ipN_ok hd hl (fun q => by cases q.1)]
      exact iparse_fok s r _ _ _ 0 w hC rfl hp (fun w => signed_n false _ w)
    · rw [okN_no hl] at hp
      rw [ipN_long hd hl, Z_zero]
      exact iparse_ferr s r _ s false 5 w hC (by decide) hp
  · rw [ipN_bad hd, Z_zero]
    exact iparse_ferr s r _ s false 4 w hC (by decide) (fun w => parse_bad r w hr hd)

theorem riparse_t (s r : ByteArray) (w : World) (h0 : 0 < s.size) (hs : s.size ≤ 1000) (h45 : (((s[0]'h0).toNat : Int) == 45) = true) (hx : s.extract 1 s.size = r) (hr : r.size ≤ 1000) :
    Calls Try.prog 43 #[.string s] w fun e w' => e = .returned (ipN true r) ∧ Below w.heap.size w w' := by
  by_cases hd : DecS r
  · have hp := fun w => rparse_yes r w hr hd
    by_cases hl : pv r r.size < Lim
    · rw [okN_yes hl] at hp
      by_cases hz : pv r r.size = 0
      · rw [ipN_zero hd hl hz, Z_zero]
        exact riparse_tzero s r _ s false 0 w h0 hs h45 hx rfl (by rw [E_empty, hz]; rfl) hp
      · rw [ipN_ok hd hl (fun q => hz q.2)]
        exact riparse_tok s r _ _ _ 0 w h0 hs h45 hx rfl (by rw [E_empty]; simp [hz]) hp (fun w => make_n true _ w)
    · rw [okN_no hl] at hp
      rw [ipN_long hd hl, Z_zero]
      exact riparse_terr s r _ s false 5 w h0 hs h45 hx (by decide) hp
  · rw [ipN_bad hd, Z_zero]
    exact riparse_terr s r _ s false 4 w h0 hs h45 hx (by decide) (fun w => rparse_bad r w hr hd)

theorem riparse_f (s r : ByteArray) (w : World) (h0 : 0 < s.size) (hs : s.size ≤ 1000) (h45 : (((s[0]'h0).toNat : Int) == 45) = false) (hx : s = r) (hr : r.size ≤ 1000) :
    Calls Try.prog 43 #[.string s] w fun e w' => e = .returned (ipN false r) ∧ Below w.heap.size w w' := by
  by_cases hd : DecS r
  · have hp := fun w => rparse_yes r w hr hd
    by_cases hl : pv r r.size < Lim
    · rw [okN_yes hl] at hp
      rw [ipN_ok hd hl (fun q => by cases q.1)]
      exact riparse_fok s r _ _ _ 0 w h0 hs h45 hx rfl hp (fun w => make_n false _ w)
    · rw [okN_no hl] at hp
      rw [ipN_long hd hl, Z_zero]
      exact riparse_ferr s r _ s false 5 w h0 hs h45 hx (by decide) hp
  · rw [ipN_bad hd, Z_zero]
    exact riparse_ferr s r _ s false 4 w h0 hs h45 hx (by decide) (fun w => rparse_bad r w hr hd)

theorem riparse_e (s r : ByteArray) (w : World) (h0 : s.size = 0) (hx : s = r) (hr : r.size ≤ 1000) :
    Calls Try.prog 43 #[.string s] w fun e w' => e = .returned (ipN false r) ∧ Below w.heap.size w w' := by
  by_cases hd : DecS r
  · have hp := fun w => rparse_yes r w hr hd
    by_cases hl : pv r r.size < Lim
    · rw [okN_yes hl] at hp
      rw [ipN_ok hd hl (fun q => by cases q.1)]
      exact riparse_eok s r _ _ _ 0 w h0 hx rfl hp (fun w => make_n false _ w)
    · rw [okN_no hl] at hp
      rw [ipN_long hd hl, Z_zero]
      exact riparse_eerr s r _ s false 5 w h0 hx (by decide) hp
  · rw [ipN_bad hd, Z_zero]
    exact riparse_eerr s r _ s false 4 w h0 hx (by decide) (fun w => rparse_bad r w hr hd)

/-- Each string begins with a minus sign, or does not. -/
def Minus (s : ByteArray) : Prop := ∃ h0 : 0 < s.size, (s[0]'h0).toNat = 45
theorem minus_list {s : ByteArray} (h : Minus s) : ∃ l, s.data.toList = 45 :: l := by
  obtain ⟨h0, h⟩ := h
  rw [get_eq] at h
  cases hl : s.data.toList with
  | nil => rw [size_eq, hl] at h0; simp at h0
  | cons c l =>
    refine ⟨l, ?_⟩
    simp only [hl, List.getElem_cons_zero] at h
    have : c = 45 := UInt8.toNat_inj.1 (by simpa using h)
    rw [this]
theorem list_minus {s : ByteArray} {l : List UInt8} (h : s.data.toList = 45 :: l) : Minus s := by
  have h0 : 0 < s.size := by rw [size_eq, h]; simp
  refine ⟨h0, ?_⟩
  rw [get_eq]
  simp [h]
theorem cut_minus (s : ByteArray) (w : World) (h : Minus s) :
    Calls Try.prog 67 #[.string s, .string ⟨#[45]⟩] w fun e w' => e = .returned (.tuple #[.string (s.extract 1 s.size), .bool true]) ∧ w = w' := by
  have := same_w (Try.strings_CutPrefix s ⟨#[45]⟩ w)
  obtain ⟨l, hl⟩ := minus_list h
  have e1 : Lib.hasPrefix s.data.toList (ByteArray.mk #[45]).data.toList = true := by
    rw [hl]; simp [Lib.hasPrefix, List.isPrefixOf]
  have e2 : (⟨(Lib.trimPrefix s.data.toList (ByteArray.mk #[45]).data.toList).toArray⟩ : ByteArray) = s.extract 1 s.size := by
    unfold Lib.trimPrefix
    rw [if_pos e1]
    apply ByteArray.ext
    rw [ByteArray.data_extract]
    apply Array.ext'
    rw [Array.toList_extract, hl]
    simp [List.extract, size_eq, hl]
  rwa [e1, e2] at this
theorem cut_plus (s : ByteArray) (w : World) (h : ¬ Minus s) :
    Calls Try.prog 67 #[.string s, .string ⟨#[45]⟩] w fun e w' => e = .returned (.tuple #[.string s, .bool false]) ∧ w = w' := by
  have := same_w (Try.strings_CutPrefix s ⟨#[45]⟩ w)
  have e1 : Lib.hasPrefix s.data.toList (ByteArray.mk #[45]).data.toList = false := by
    cases hl : s.data.toList with
    | nil => simp [Lib.hasPrefix, List.isPrefixOf]
    | cons c l =>
      by_cases hc : c = 45
      · subst hc; exact absurd (list_minus hl) h
      · simp [Lib.hasPrefix, List.isPrefixOf, Ne.symm hc]
  have e2 : (⟨(Lib.trimPrefix s.data.toList (ByteArray.mk #[45]).data.toList).toArray⟩ : ByteArray) = s := by
    unfold Lib.trimPrefix
    rw [if_neg (by rw [e1]; simp)]
  rwa [e1, e2] at this
/-- The sign of a text, and what follows it. -/
theorem parts (s : ByteArray) : ∃ (g : Bool) (r : ByteArray), (g = true ∧ Minus s ∧ s.extract 1 s.size = r ∧ r.size ≤ s.size) ∨ (g = false ∧ ¬ Minus s ∧ s = r) := by
  by_cases h : Minus s
  · exact ⟨true, _, .inl ⟨rfl, h, rfl, by simp⟩⟩
  · exact ⟨false, s, .inr ⟨rfl, h, rfl⟩⟩
theorem iparse_minus (s : ByteArray) (w : World) (h : Minus s) (hs : s.size ≤ 1000) :
    Calls Try.prog 42 #[.string s] w fun e w' => e = .returned (ipN true (s.extract 1 s.size)) ∧ Below w.heap.size w w' :=
  iparse_t s _ w (fun w => cut_minus s w h) (by simp; omega)
theorem iparse_plus (s : ByteArray) (w : World) (h : ¬ Minus s) (hs : s.size ≤ 1000) :
    Calls Try.prog 42 #[.string s] w fun e w' => e = .returned (ipN false s) ∧ Below w.heap.size w w' :=
  iparse_f s _ w (fun w => cut_plus s w h) hs
theorem riparse_minus (s : ByteArray) (w : World) (h : Minus s) (hs : s.size ≤ 1000) :
    Calls Try.prog 43 #[.string s] w fun e w' => e = .returned (ipN true (s.extract 1 s.size)) ∧ Below w.heap.size w w' := by
  obtain ⟨h0, h⟩ := h
  exact riparse_t s _ w h0 hs (by rw [h]; rfl) rfl (by simp; omega)
theorem riparse_plus (s : ByteArray) (w : World) (h : ¬ Minus s) (hs : s.size ≤ 1000) :
    Calls Try.prog 43 #[.string s] w fun e w' => e = .returned (ipN false s) ∧ Below w.heap.size w w' := by
  by_cases h0 : s.size = 0
  · exact riparse_e s _ w h0 rfl hs
  · refine riparse_f s _ w (by omega) hs ?_ rfl hs
    rw [beq_eq_false_iff_ne]
    intro q
    exact h ⟨by omega, by omega⟩
end Go.Proofs.Ytamgklgjhjociaa
