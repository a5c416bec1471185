/-
  A range over a function that would go on for ever: its contract may lean on what the body of this loop keeps (the number of rounds that the body lets go by).
-/
import Derived.RangeFuncNested
import Derived.RangeFuncBound
import Derived.RangeFuncCalls
import Derived.RangeFuncLeaves
import Derived.Shelf.Abstract
import Derived.Shelf.RegionOpen
import Derived.WalkKit
import Derived.OwnWalkIn
import Derived.TacticsInMore
import Derived.LoopNIn
import Derived.LoopIn
namespace Go.Proofs.YtehbbghobagkjaaGreatDoor
open Go.RowKit Go.Shelf
set_option linter.unusedVariables false

section
variable {F : Fence} {n : Nat} {P : Program} {α : Type}

/-- The contract of such a function: J may be anything from which I follows. -/
def EndlessK (F : Fence) (n : Nat) (P : Program) (g : Nat) (lb : Array Value) (encs : α → Array Value) (Kp : World → World → Prop) (Sp : List α → Prop) (I : List α → World → Prop) (w : World) : Prop :=
  ∀ (l : Nat) (J Jx : List α → World → Prop) (W : World), Below w.heap.size w W → AbidesFrom W.heap.size J → AbidesFrom W.heap.size Jx → (∀ pre V, J pre V → I pre V) →
    (∀ pre x V, J pre V → YieldAt F (n - 1) P l (encs x) V fun e V' => (e = .returned (.bool true) ∧ J (pre ++ [x]) V' ∧ Kp V V') ∨ (e = .returned (.bool false) ∧ Jx (pre ++ [x]) V')) →
    J [] W → CallsIn F n P g (#[.func (.yield l) #[] #[]] ++ lb) W fun e V => (∃ v, e = .returned v) ∧ ∃ pre, Sp pre ∧ Jx pre V

/-- The loop's record. -/
def lrec (fn : FuncId) (tmps : Array Value) (ps : Array Tmp) (assign body : Code) (d : Nat) (st : LoopState) (pe : Option Code) : Loop :=
  { state := st, pending := pe, fn, tmps, params := ps, assign, body, defers := d }
/-- The two blocks of the loop's book-keeping. -/
def Books (d : Nat) (r : Loop) (W : World) : Prop := W.heap[d + 1]? = some (.loop r) ∧ W.heap[d]? = some (.deferred (some []))
theorem Books.walked {d : Nat} {r : Loop} {W W' : World} {row : Option Nat} {B : Nat} (h : Books d r W) (hg : W.grownBy W' row) (hr : ∀ k, row = some k → B ≤ k ∧ ∃ o : Obj, W.heap[k]? = some o ∧ o.isWalk = true) : Books d r W' :=
  ⟨(grownBy_keeps hg (fun k e => (hr k e).2) h.1 rfl).trans h.1, (grownBy_keeps hg (fun k e => (hr k e).2) h.2 rfl).trans h.2⟩
theorem Books.put {d : Nat} {r : Loop} {W : World} (h : Books d r W) (r' : Loop) : Books d r' (W.putObj (d + 1) (.loop r')) :=
  ⟨World.putObj_heap_same (Array.getElem?_eq_some_iff.1 h.1).1, (World.putObj_heap_other (by omega)).trans h.2⟩
theorem Books.others {d : Nat} {r : Loop} {W W' : World} (h : Books d r W) (k : KeepsOthers W W') : Books d r W' := ⟨k.same _ _ h.1 rfl, k.same _ _ h.2 rfl⟩

theorem wpIn_range_endless {g : Operand} {ps : Array Tmp} {assign body : Code} {Q : Exit → Act → World → Prop} {a : Act} {w : World}
    (hro : F.round = none) (h1 : 1 ≤ n) {gf : Nat} {lb : Array Value} (hg : a.eval g = .func (.func gf) #[] lb) (hFg : F.fn gf) (eg : ∀ args w, (callFunc gf args).run P w = .ok (.enter gf args) w)
    {encs : α → Array Value} {Kp : World → World → Prop} {Sp : List α → Prop} (I : List α → World → Prop) (Ix : Code → List α → World → Prop)
    (hseq : EndlessK F (n - 1) P gf lb encs Kp Sp I w)
    (hKt : ∀ {A B C : World}, Kp A B → Kp B C → Kp A C) (hKb : ∀ (W : World) (l : Nat) (o o' : Obj), w.heap.size ≤ l → W.heap[l]? = some o → o.isCells = false → o.isWalk = false → Kp W (W.putObj l o')) (hps : ∀ x, (encs x).size = ps.size)
    (hI : OwnFrom w.heap.size I) (hIx : ∀ c, OwnFrom w.heap.size (Ix c)) (h0 : I [] w) (a₁ : α → Act)
    (hassign : ∀ (l : Nat) (x : α) (W : World) (K : Act → World → Prop), K (a₁ x) W →
      assign.wpIn (F.inRound l) (n - 1 - 1) P (Exit.then K (fun _ _ _ => False)) { tmps := (ps.zip (encs x)).foldl (fun t (p, v) => t.setIfInBounds p v) a.tmps, defers := [] } W)
    (hbody : ∀ (l : Nat) (pre : List α) (x : α) (W : World), I pre W → body.wpIn (F.inRound l) (n - 1 - 1) P (ownPostK Kp I Ix (pre ++ [x]) W) (a₁ x) W)
    (hstop : ∀ (D : Nat) (c : Code) (pre : List α) (W : World), w.heap.size ≤ D → Sp pre → Ix c pre W → W.heap[D]? = some (.deferred (some [])) → c.wpIn F n P Q { a with defers := { target := .collected D, args := #[] } :: a.defers } W) :
    (Code.rangeFunc g ps assign body).wpIn F n P Q a w := by
  refine wpIn_rangeFunc fun fn hfn => ?_
  rw [hro]
  let d := w.heap.size
  let R := lrec fn a.tmps ps assign body d
  let W1 := (w.alloc (.deferred (some []))).alloc (.loop (R .ready none))
  have hsz : W1.heap.size = d + 2 := by show (World.alloc _ _).heap.size = _; simp [d]
  have hbooks : Books d (R .ready none) W1 := by
    refine ⟨?_, (Below.heap_alloc _ _ _ (by simp [d])).trans (World.alloc_heap_new w _)⟩
    have h := World.alloc_heap_new (w.alloc (.deferred (some []))) (.loop (R .ready none))
    rwa [World.size_alloc] at h
  have hI1 : I [] W1 := hI.alloc _ (hI.alloc _ h0)
  have hb1 : Below w.heap.size w W1 := ((Below.refl _ w).alloc (Nat.le_refl _) _).alloc (by simp) _
  have cells : ∀ {A : World} {row : Option Nat}, (∀ r, row = some r → W1.heap.size ≤ r ∧ ∃ o : Obj, A.heap[r]? = some o ∧ o.isWalk = true) → ∀ r, row = some r → w.heap.size ≤ r ∧ ∃ o : Obj, A.heap[r]? = some o ∧ o.isCells = false :=
    fun hr r e => by
      obtain ⟨hB, o, ho, hw⟩ := hr r e
      exact ⟨by rw [hsz] at hB; show d ≤ r; omega, o, ho, Obj.not_cells_of_walk hw⟩
  refine ⟨d + 1, [{ target := .collected d, args := #[] }], W1, { target := .fn (.func gf) lb, args := #[.func (.yield (d + 1)) #[] #[]] }, W1, gf, #[.func (.yield (d + 1)) #[] #[]] ++ lb, W1,
    run_enterLoop_outer _ _ _ _ _, by simp only [resolve, hg]; simp [go_sem], ?_, by simp [invoke, go_sem, eg], fun _ => h1, ?_⟩
  · intro f' hf'; simp [Target.leads] at hf'; subst hf'; exact hFg
  refine (hseq (d + 1) (fun pre W => I pre W ∧ Books d (R .ready none) W) (fun pre W => ∃ c, Ix c pre W ∧ Books d (R .done (some c)) W) W1 hb1
    (fun s A B row hs hg' hr => ⟨hI s A B row hs.1 hg' (cells hr), hs.2.walked hg' hr⟩)
    (fun s A B row ⟨c, hc, hk⟩ hg' hr => ⟨c, hIx c s A B row hc hg' (cells hr), hk.walked hg' hr⟩)
    (fun _ _ h => h.1) ?_ ⟨hI1, hbooks⟩).mono ?_
  · rintro pre x W ⟨hi, hk⟩
    have hy := run_yield (P := P) (args := encs x) hk.1 (hps x)
    refine ⟨fn, _, assign, body, hy, roundIn_of_wpIn hfn (hassign _ x W _ ⟨_, run_beginRound hk.1 rfl, ?_⟩)⟩
    have hk2 : Books d (R .busy none) (W.putObj (d + 1) (.loop (R .busy none))) := hk.put _
    have hw2 : Kp W (W.putObj (d + 1) (.loop (R .busy none))) := hKb _ _ _ _ (by show d ≤ d + 1; omega) hk.1 rfl rfl
    refine wpIn_mono (hbody _ pre x _ (hI.putObj _ hi (by show d ≤ d + 1; omega) hk.1 rfl)) ?_
    rintro e a3 W3 hp
    cases e with
    | normal =>
      obtain ⟨k3, kp3, i3⟩ := hp
      have b3 := hk2.others k3
      exact ⟨_, _, run_endRound none b3.1, .inl ⟨rfl, ⟨hI.putObj _ i3 (by show d ≤ d + 1; omega) b3.1 rfl, b3.put _⟩, hKt (hKt hw2 kp3) (hKb _ _ _ _ (by show d ≤ d + 1; omega) b3.1 rfl rfl)⟩⟩
    | ret =>
      have b3 := hk2.others hp.1
      exact ⟨_, _, run_endRound (some .ret) b3.1, .inr ⟨rfl, .ret, (hIx _).putObj _ hp.2 (by show d ≤ d + 1; omega) b3.1 rfl, b3.put _⟩⟩
    | exit id =>
      have b3 := hk2.others hp.1
      exact ⟨_, _, run_endRound (some (.exit id)) b3.1, .inr ⟨rfl, .exit id, (hIx _).putObj _ hp.2 (by show d ≤ d + 1; omega) b3.1 rfl, b3.put _⟩⟩
    | goto t =>
      have b3 := hk2.others hp.1
      exact ⟨_, _, run_endRound (some (.goto t)) b3.1, .inr ⟨rfl, .goto t, (hIx _).putObj _ hp.2 (by show d ≤ d + 1; omega) b3.1 rfl, b3.put _⟩⟩
    | panic ch => exact hp.elim
    | outgrown => exact hp.elim
  · rintro e W2 ⟨⟨v, rfl⟩, pre, hS, c, hi, hk⟩
    exact ⟨some c, _, run_endLoop hk.1 (by show LoopState.done ≠ LoopState.busy; simp), hstop _ c pre _ (Nat.le_refl _) hS ((hIx c).putObj _ hi (by show d ≤ d + 1; omega) hk.1 rfl) (hk.put _).2⟩
end
end Go.Proofs.YtehbbghobagkjaaGreatDoor
