/-
  Groups in memory: primegroup.canonical, primegroup.Has, rsagroup.isGroup, rsagroup.Has.
-/
import Derived.Test.YtogmgfdihmacpaaGreatDoorPW0
import Derived.Test.YtogmgfdihmacpaaGreatDoorTap
import Derived.Test.YtogmgfdihmacpaaGreatDoorIA
import Derived.Test.YtogmgfdihmacpaaGreatDoorMD
import Derived.Test.YtogmgfdihmacpaaGreatDoorMC
import Derived.Deep.RegionHeld3
namespace Go.Proofs.YtogmgfdihmacpaaGreatDoor
open Go.RowKit
set_option linter.unusedVariables false

theorem same_belowP {e : Ending} {w w' : World} {v : Value} {B : Nat} (h : e = .returned v ∧ w = w') : e = .returned v ∧ Below B w w' := ⟨h.1, h.2 ▸ Below.refl _ _⟩
theorem belP {w w1 w2 : World} (b1 : Below w.heap.size w w1) (b2 : Below w1.heap.size w1 w2) : Below w.heap.size w w2 := b1.trans (b2.mono b1.size)
theorem belA (w : World) (T : Obj) : Below w.heap.size w (w.alloc T) := (Below.refl _ _).alloc (Nat.le_refl _) _
/-- A list of strings, one of one or two new ones. -/
theorem sv1_new (W : World) (a : ByteArray) (T : TypeId) : SV (W.alloc (.cells #[.string a] T)) (.slice (some ⟨W.heap.size, 0, none⟩) 1 1) 1 (fun _ => a) := by
  refine ⟨_, _, rfl, fun j hj => ⟨_, rfl, by simp, ?_⟩⟩
  obtain rfl : j = 0 := by omega
  show (W.alloc _).cell? ⟨W.heap.size, 0 + 0, none⟩ = _
  rw [World.cell?_alloc_new]; rfl
theorem sv2_new (W : World) (a b : ByteArray) (T : TypeId) : SV (W.alloc (.cells #[.string a, .string b] T)) (.slice (some ⟨W.heap.size, 0, none⟩) 2 2) 2 (fun j => if j = 0 then a else b) := by
  refine ⟨_, _, rfl, fun j hj => ⟨_, rfl, by simp, ?_⟩⟩
  rcases (show j = 0 ∨ j = 1 by omega) with rfl | rfl
  · show (W.alloc _).cell? ⟨W.heap.size, 0 + 0, none⟩ = _
    rw [World.cell?_alloc_new]; rfl
  · show (W.alloc _).cell? ⟨W.heap.size, 0 + 1, none⟩ = _
    rw [World.cell?_alloc_new]; rfl
/-- All numbers of a list are canonical. -/
def CanL (k : Nat) (f : Nat → ByteArray) : Prop := ∀ j, j < k → Can (f j)
theorem canL1 {a : ByteArray} : CanL 1 (fun _ => a) ↔ Can a := ⟨fun h => h 0 (by omega), fun h _ _ => h⟩
theorem canL2 {a b : ByteArray} : CanL 2 (fun j => if j = 0 then a else b) ↔ Can a ∧ Can b :=
  ⟨fun h => ⟨h 0 (by omega), h 1 (by omega)⟩, fun h j hj => by
    rcases (show j = 0 ∨ j = 1 by omega) with rfl | rfl
    · exact h.1
    · exact h.2⟩
theorem canL_up {k : Nat} {f : Nat → ByteArray} {i : Nat} (h : ∀ j, j < i → Can (f j)) (hi : Can (f i)) : ∀ j, j < i + 1 → Can (f j) := fun j hj => by
  by_cases e : j = i
  · rw [e]; exact hi
  · exact h j (by omega)
/-- Yes exactly if P. -/
def YnP (P : Prop) (w : World) (e : Ending) (w' : World) : Prop := (∃ b : Bool, e = .returned (.bool b) ∧ (b = true ↔ P)) ∧ Below w.heap.size w w'
theorem YnP.yes {P : Prop} {w w' : World} {e : Ending} (h : YnP P w e w') (hp : P) : e = .returned (.bool true) ∧ Below w.heap.size w w' := by
  obtain ⟨⟨b, rfl, hb⟩, hw⟩ := h
  exact ⟨by rw [hb.2 hp], hw⟩
theorem YnP.no {P : Prop} {w w' : World} {e : Ending} (h : YnP P w e w') (hp : ¬ P) : e = .returned (.bool false) ∧ Below w.heap.size w w' := by
  obtain ⟨⟨b, rfl, hb⟩, hw⟩ := h
  cases b with
  | true => exact absurd (hb.1 rfl) hp
  | false => exact ⟨rfl, hw⟩
theorem YnP.mk_t {P : Prop} {w w' : World} (h : P) (b : Below w.heap.size w w') : YnP P w (.returned (.bool true)) w' := ⟨⟨true, rfl, fun _ => h, fun _ => rfl⟩, b⟩
theorem YnP.mk_f {P : Prop} {w w' : World} (h : ¬ P) (b : Below w.heap.size w w') : YnP P w (.returned (.bool false)) w' := ⟨⟨false, rfl, (fun q => by cases q), fun q => absurd q h⟩, b⟩

set_option maxHeartbeats 1000000 in
set_option maxRecDepth 20000 in
theorem pcanon_any (v : Value) (k : Nat) (f : Nat → ByteArray) (M Q : ByteArray) (w : World) (hv : SV w v k f) (hk : k ≤ 9223372036854775807) :
    Calls Tryz.prog 93 #[.agg #[.string M, .string Q], v] w fun e w' => YnP (CanL k f ∧ Can M ∧ Can Q) w e w' := by
  have hb := belA w (.cells #[.string M, .string Q] 24)
  have hv2 := hv.below hb
  obtain ⟨p, cap, rfl, hc⟩ := hv2
  have G := Lib.hid (Two.new w (.string M) (.string Q) 24 _ rfl)
  obtain ⟨q1, q2, q3, q4, q5⟩ := G.out
  have HC := Lib.hid hc; clear hc hv
  have K := Lib.hid hb; clear hb
  have HK := Lib.hid hk
  go_enter Tryz.func93, Tryz.ntmps93
  go_wp2
  generalize World.alloc w _ = W at *
  go_loop [9] (fun x => ∃ i : Nat, i ≤ k ∧ x = .int .i64 i ∧ Hid (∀ j, j < i → Can (f j))) (fun x => k - (intOf x).toNat)
  case atStart => exact ⟨0, by omega, rfl, fun j hj => absurd hj (by omega)⟩
  case round =>
    obtain ⟨i, hi, rfl, HI⟩ := hrel
    by_cases hlt : i < k
    · obtain ⟨a, rfl, ha, hcell⟩ := HC.out i hlt
      have hlti : (i : Int) < (k : Int) := by omega
      by_cases hcan : Can (f i)
      · have HN := Lib.hid (canL_up (k := k) HI.out hcan)
        have HCN := Lib.hid hcan; clear hcan
        go_wp2_with fail
        refine (valid_yes (f i) _ HCN.out).mono ?_; rintro e wx ⟨rfl, rfl⟩
        go_wp2
        go_round
        case rel => exact ⟨i + 1, by omega, by go_num, HN.out⟩
        case measure => simp [intOf]; omega
      · have HCN := Lib.hid hcan; clear hcan
        have HR := Lib.hid (fun (q : CanL k f ∧ Can M ∧ Can Q) => HCN.out (q.1 i hlt))
        go_wp2_with fail
        refine (valid_no (f i) _ HCN.out).mono ?_; rintro e wx ⟨rfl, rfl⟩
        go_wp2
        go_ret
        exact YnP.mk_f HR.out K.out
    · obtain rfl : i = k := by omega
      by_cases hM : Can M
      · have HM := Lib.hid hM; clear hM
        go_wp2_with fail
        refine (valid_yes M _ HM.out).mono ?_; rintro e wx ⟨rfl, rfl⟩
        by_cases hQ : Can Q
        · have HQ := Lib.hid hQ; clear hQ
          go_wp2_with fail
          refine (valid_yes Q _ HQ.out).mono ?_; rintro e wx ⟨rfl, rfl⟩
          go_wp2
          go_ret
          exact YnP.mk_t ⟨HI.out, HM.out, HQ.out⟩ K.out
        · have HQ := Lib.hid hQ; clear hQ
          go_wp2_with fail
          refine (valid_no Q _ HQ.out).mono ?_; rintro e wx ⟨rfl, rfl⟩
          go_wp2
          go_ret
          exact YnP.mk_f (fun q => HQ.out q.2.2) K.out
      · have HM := Lib.hid hM; clear hM
        go_wp2_with fail
        refine (valid_no M _ HM.out).mono ?_; rintro e wx ⟨rfl, rfl⟩
        go_wp2
        go_ret
        exact YnP.mk_f (fun q => HM.out q.2.1) K.out
/-- With one number beside the group. -/
theorem pcanon1_t (M Q x : ByteArray) (W : World) (T : TypeId) (g : Nat) (hg : g = W.heap.size) (hM : Can M) (hQ : Can Q) (hx : Can x) :
    Calls Tryz.prog 93 #[.agg #[.string M, .string Q], .slice (some ⟨g, 0, none⟩) 1 1] (W.alloc (.cells #[.string x] T)) fun e w' => e = .returned (.bool true) ∧ Below (W.alloc (.cells #[.string x] T)).heap.size (W.alloc (.cells #[.string x] T)) w' := by
  subst hg
  exact (pcanon_any _ 1 _ M Q _ (sv1_new W x T) (by omega)).mono fun _ _ h => h.yes ⟨canL1.2 hx, hM, hQ⟩
theorem pcanon1_f (M Q x : ByteArray) (W : World) (T : TypeId) (g : Nat) (hg : g = W.heap.size) (h : ¬ (Can x ∧ Can M ∧ Can Q)) :
    Calls Tryz.prog 93 #[.agg #[.string M, .string Q], .slice (some ⟨g, 0, none⟩) 1 1] (W.alloc (.cells #[.string x] T)) fun e w' => e = .returned (.bool false) ∧ Below (W.alloc (.cells #[.string x] T)).heap.size (W.alloc (.cells #[.string x] T)) w' := by
  subst hg
  exact (pcanon_any _ 1 _ M Q _ (sv1_new W x T) (by omega)).mono fun _ _ q => q.no (fun r => h ⟨canL1.1 r.1, r.2⟩)
/-- What lies behind a call with a boxed pair and one list of new strings. -/
theorem box_list {w w1 : World} {a b : Value} {T U : TypeId} {vs : Array Value} (h : Below ((w.alloc (.cells #[a, b] T)).alloc (.cells vs U)).heap.size ((w.alloc (.cells #[a, b] T)).alloc (.cells vs U)) w1) :
    Two w1 w.heap.size a b ∧ Below w.heap.size w w1 :=
  ⟨((Two.new w a b T _ rfl).alloc _).below h rfl, belP (belP (belA w _) (belA _ _)) h⟩

/-- An element of a group of known order. -/
def EltK (M Q x : ByteArray) : Prop := Q.size ≠ 0 ∧ 0 < V x ∧ V x < V M ∧ V x ^ V Q % V M = 1
theorem size_posV {x : ByteArray} (hx : Can x) : 0 < V x ↔ x.size ≠ 0 := by
  have := size_zero hx
  omega
set_option maxHeartbeats 1000000 in
set_option maxRecDepth 20000 in
theorem phas_yes (M Q x : ByteArray) (w : World) (hM : Can M) (hQ : Can Q) (hx : Can x) (h : EltK M Q x) :
    Calls Tryz.prog 73 #[.agg #[.string M, .string Q], .string x] w fun e w' => e = .returned (.bool true) ∧ Below w.heap.size w w' := by
  obtain ⟨h1, h2, h3, h4⟩ := h
  have hE1 := not_empty_of h1
  have hE2 := not_empty_of ((size_posV hx).1 h2)
  have hsg : sgn (V x) (V M) = -1 := by unfold sgn; rw [if_pos h3]
  have hM0 : 0 < M.size := by have := size_posV hM; omega
  have CC := Lib.hid (fun W => (show Calls Tryz.prog 61 #[.string x, .string M] W fun e w' => e = .returned (.int .i64 (-1)) ∧ W = w' by rw [← hsg]; exact cmp_yes x M W hx hM))
  have CE := Lib.hid (fun W => (show Calls Tryz.prog 48 #[.string x, .string Q, .string M] W fun e w' => e = .returned (.tuple #[.string (E 1), .int .i64 0]) ∧ Below W.heap.size W w' by rw [← h4]; exact mexp_ok x Q M W hx hQ hM hM0))
  have HM := Lib.hid hM
  have HQ := Lib.hid hQ
  have HX := Lib.hid hx
  clear hM hQ hx h1 h2 h3 h4 hsg hM0
  go_enter Tryz.func73, Tryz.ntmps73
  go_wp2_with fail
  refine (pcanon1_t M Q x _ _ _ (by simp) HM.out HQ.out HX.out).mono ?_; rintro e w1 ⟨rfl, b1⟩
  have G := Lib.hid (box_list b1).1
  have K := Lib.hid (box_list b1).2
  clear b1
  obtain ⟨q1, q2, q3, q4, q5⟩ := G.out
  go_wp2_with fail
  refine (CC.out _).mono ?_; rintro e wx ⟨rfl, rfl⟩
  go_wp2_with fail
  refine (CE.out _).mono ?_; rintro e w2 ⟨rfl, b2⟩
  have K := Lib.hid (belP K.out b2)
  have G := Lib.hid (G.out.below b2 rfl)
  clear b2 q1 q2 q3 q4 q5
  obtain ⟨q1, q2, q3, q4, q5⟩ := G.out
  go_wp2_with fail
  refine (of_any 1 _ (by omega)).mono ?_; rintro e w3 ⟨rfl, b3⟩
  have K := Lib.hid (belP K.out b3)
  have G := Lib.hid (G.out.below b3 rfl)
  clear b3 q1 q2 q3 q4 q5
  obtain ⟨q1, q2, q3, q4, q5⟩ := G.out
  go_wp2
  go_ret
  exact ⟨rfl, K.out⟩
set_option maxHeartbeats 1000000 in
set_option maxRecDepth 20000 in
theorem phas_no (M Q x : ByteArray) (w : World) (h : ¬ (Can x ∧ Can M ∧ Can Q ∧ EltK M Q x)) :
    Calls Tryz.prog 73 #[.agg #[.string M, .string Q], .string x] w fun e w' => e = .returned (.bool false) ∧ Below w.heap.size w w' := by
  by_cases hc : Can x ∧ Can M ∧ Can Q
  · obtain ⟨hx, hM, hQ⟩ := hc
    have HM := Lib.hid hM
    have HQ := Lib.hid hQ
    have HX := Lib.hid hx
    by_cases h1 : Q.size = 0
    · have hE1 := empty_of h1
      clear hM hQ hx h1 h
      go_enter Tryz.func73, Tryz.ntmps73
      go_wp2_with fail
      refine (pcanon1_t M Q x _ _ _ (by simp) HM.out HQ.out HX.out).mono ?_; rintro e w1 ⟨rfl, b1⟩
      have G := Lib.hid (box_list b1).1
      have K := Lib.hid (box_list b1).2
      clear b1
      obtain ⟨q1, q2, q3, q4, q5⟩ := G.out
      go_wp2
      go_ret
      exact ⟨rfl, K.out⟩
    · have hE1 := not_empty_of h1
      by_cases h2 : x.size = 0
      · have hE2 := empty_of h2
        clear hM hQ hx h1 h2 h
        go_enter Tryz.func73, Tryz.ntmps73
        go_wp2_with fail
        refine (pcanon1_t M Q x _ _ _ (by simp) HM.out HQ.out HX.out).mono ?_; rintro e w1 ⟨rfl, b1⟩
        have G := Lib.hid (box_list b1).1
        have K := Lib.hid (box_list b1).2
        clear b1
        obtain ⟨q1, q2, q3, q4, q5⟩ := G.out
        go_wp2
        go_ret
        exact ⟨rfl, K.out⟩
      · have hE2 := not_empty_of h2
        by_cases h3 : V x < V M
        · have hsg : sgn (V x) (V M) = -1 := by unfold sgn; rw [if_pos h3]
          have hM0 : 0 < M.size := by have := size_posV hM; omega
          have h4 : V x ^ V Q % V M ≠ 1 := fun q => h ⟨hx, hM, hQ, h1, (size_posV hx).2 h2, h3, q⟩
          have CC := Lib.hid (fun W => (show Calls Tryz.prog 61 #[.string x, .string M] W fun e w' => e = .returned (.int .i64 (-1)) ∧ W = w' by rw [← hsg]; exact cmp_yes x M W hx hM))
          obtain ⟨n, hn⟩ : ∃ n, n = V x ^ V Q % V M := ⟨_, rfl⟩
          have CE := Lib.hid (fun W => (show Calls Tryz.prog 48 #[.string x, .string Q, .string M] W fun e w' => e = .returned (.tuple #[.string (E n), .int .i64 0]) ∧ Below W.heap.size W w' by rw [hn]; exact mexp_ok x Q M W hx hQ hM hM0))
          have hbe := E_bne (n := n) (m := 1) (by rw [hn]; exact h4)
          clear hM hQ hx h1 h2 h3 h4 hsg hM0 h hn
          go_enter Tryz.func73, Tryz.ntmps73
          go_wp2_with fail
          refine (pcanon1_t M Q x _ _ _ (by simp) HM.out HQ.out HX.out).mono ?_; rintro e w1 ⟨rfl, b1⟩
          have G := Lib.hid (box_list b1).1
          have K := Lib.hid (box_list b1).2
          clear b1
          obtain ⟨q1, q2, q3, q4, q5⟩ := G.out
          go_wp2_with fail
          refine (CC.out _).mono ?_; rintro e wx ⟨rfl, rfl⟩
          go_wp2_with fail
          refine (CE.out _).mono ?_; rintro e w2 ⟨rfl, b2⟩
          have K := Lib.hid (belP K.out b2)
          have G := Lib.hid (G.out.below b2 rfl)
          clear b2 q1 q2 q3 q4 q5
          obtain ⟨q1, q2, q3, q4, q5⟩ := G.out
          go_wp2_with fail
          refine (of_any 1 _ (by omega)).mono ?_; rintro e w3 ⟨rfl, b3⟩
          have K := Lib.hid (belP K.out b3)
          have G := Lib.hid (G.out.below b3 rfl)
          clear b3 q1 q2 q3 q4 q5
          obtain ⟨q1, q2, q3, q4, q5⟩ := G.out
          go_wp2
          go_ret
          exact ⟨rfl, K.out⟩
        · have hsg : 0 ≤ sgn (V x) (V M) := by unfold sgn; rw [if_neg h3]; split <;> omega
          obtain ⟨y, hy⟩ : ∃ y, y = sgn (V x) (V M) := ⟨_, rfl⟩
          rw [← hy] at hsg
          have CC := Lib.hid (fun W => (show Calls Tryz.prog 61 #[.string x, .string M] W fun e w' => e = .returned (.int .i64 y) ∧ W = w' by rw [hy]; exact cmp_yes x M W hx hM))
          clear hM hQ hx h1 h2 h3 h hy
          go_enter Tryz.func73, Tryz.ntmps73
          go_wp2_with fail
          refine (pcanon1_t M Q x _ _ _ (by simp) HM.out HQ.out HX.out).mono ?_; rintro e w1 ⟨rfl, b1⟩
          have G := Lib.hid (box_list b1).1
          have K := Lib.hid (box_list b1).2
          clear b1
          obtain ⟨q1, q2, q3, q4, q5⟩ := G.out
          go_wp2_with fail
          refine (CC.out _).mono ?_; rintro e wx ⟨rfl, rfl⟩
          go_wp2
          go_ret
          exact ⟨rfl, K.out⟩
  · clear h
    have HC := Lib.hid hc; clear hc
    go_enter Tryz.func73, Tryz.ntmps73
    go_wp2_with fail
    refine (pcanon1_f M Q x _ _ _ (by simp) HC.out).mono ?_; rintro e w1 ⟨rfl, b1⟩
    have K := Lib.hid (box_list b1).2
    clear b1
    go_wp2
    go_ret
    exact ⟨rfl, K.out⟩
end Go.Proofs.YtogmgfdihmacpaaGreatDoor
