/-
  A laid table of numbers, wherever it stands in a row's list.
-/
import Derived.Test.YtehbbghobagkjaaGreatDoorCoi1
import Derived.Lib.LaidTab
namespace Go.Proofs.YtehbbghobagkjaaGreatDoor
set_option linter.unusedVariables false

theorem laid_at {P : Program} {W : World} : ∀ {l : List (String × DataW Unit)} {ps : List MemPlace} (i : Nat) {x : String × DataW Unit}, l[i]? = some x → DataW.LaidVars P W l ps →
    ∃ g t cs fuel p, P.globalNamed x.1 = some g ∧ (P.globals[g]?).map (·.type) = some t ∧ W.var? P x.1 = some cs ∧ DataW.trod (fun _ => ()) P W 0 (fun _ => true) false fuel t cs.toList = some (x.2, p)
  | [], _, i, x, h, _ => by simp at h
  | (n, d) :: r, ps, 0, x, h, hl => by
    obtain ⟨g, t, cs, fuel, p, q, h1, h2, h3, h4, h5, h6⟩ := hl
    simp at h
    subst h
    exact ⟨g, t, cs, fuel, p, h1, h2, h3, h4⟩
  | (n, d) :: r, ps, i + 1, x, h, hl => by
    obtain ⟨g, t, cs, fuel, p, q, h1, h2, h3, h4, h5, h6⟩ := hl
    exact laid_at i (by simpa using h) h5
theorem tab_laid {P : Program} {W : World} {name : String} {k : IntKind} {zs : List Int} {l : List (String × DataW Unit)} {T e : TypeId} {n : Nat} (i : Nat)
    (hT : (P.globalNamed name).bind (fun g => (P.globals[g]?).map (·.type)) = some T) (ht : P.underlying T = some (.array n e)) (he : P.underlying e = some (.int k)) (hce : P.cellsOf e = 1) (hct : P.cellsOf T = n)
    (hi : l[i]? = some (name, Lib.tabData k zs)) (h : laidMet P l W) : Lib.TabIs P W name k zs := by
  obtain ⟨ps, hl, -⟩ := h
  obtain ⟨g, t, cs, fuel, p, h1, h2, h3, h4⟩ := laid_at i hi hl
  simp only at h1 h2 h3 h4
  rw [h1] at hT
  have hT2 : (P.globals[g]?).map (·.type) = some T := hT
  obtain rfl : T = t := Option.some.inj (hT2.symm.trans h2)
  unfold Lib.TabIs
  rw [h3, ← Lib.cells_of_tab ht he hce hct h4]
/-- The table of strconv, out of a row's list. -/
theorem tabW_laid {W : World} {l : List (String × DataW Unit)} (i : Nat) (hi : l[i]? = some ("internal/strconv.uint64pow10", Lib.tabData .u64 Lib.pow10Tab)) (h : laidMet Tryz.prog l W) : TabW W :=
  tab_laid (T := 138) (e := 49) (n := 20) i (by kernel_rfl) (by kernel_rfl) (by kernel_rfl) (by kernel_rfl) (by kernel_rfl) hi h
end Go.Proofs.YtehbbghobagkjaaGreatDoor
