/-
  Package power: Product.
-/
import Derived.Test.YtogmgfdihmacpaaGreatDoorPW5
import Derived.Maps.AppendAt
import Derived.Deep.LoopGhost
namespace Go.Proofs.YtogmgfdihmacpaaGreatDoor
open Go.RowKit Go.Deep
set_option linter.unusedVariables false

/-- A list of integers, wherever it begins. -/
def IVs (w : World) (v : Value) (k : Nat) (ng : Nat → Bool) (s : Nat → ByteArray) : Prop :=
  ∃ (p : Option Addr) (cap : Nat), v = .slice p k cap ∧ ∀ j, j < k → ∃ a, p = some a ∧ a.block < w.heap.size ∧ w.cell? (a.add (j * 2)) = some (.bool (ng j)) ∧ w.cell? (a.add (j * 2 + 1)) = some (.string (s j))
theorem IVs.below {w w' : World} {v : Value} {k : Nat} {ng : Nat → Bool} {s : Nat → ByteArray} (h : IVs w v k ng s) (b : Below w.heap.size w w') : IVs w' v k ng s := by
  obtain ⟨p, cap, e, hc⟩ := h
  refine ⟨p, cap, e, fun j hj => ?_⟩
  obtain ⟨a, e1, e2, e3, e4⟩ := hc j hj
  exact ⟨a, e1, Nat.lt_of_lt_of_le e2 b.size, (b.cell (p := a.add (j * 2)) (by rw [add_blk]; exact e2)).trans e3, (b.cell (p := a.add (j * 2 + 1)) (by rw [add_blk]; exact e2)).trans e4⟩
theorem add_next (a : Addr) (i : Nat) : (⟨(a.add i).block, (a.add i).off + 1, none⟩ : Addr) = a.add (i + 1) := by
  unfold Addr.add
  by_cases hi : i = 0 <;> simp [hi, Nat.add_assoc]
theorem ivAt {w wr : World} {p : Option Addr} {k cap : Nat} {ng : Nat → Bool} {s : Nat → ByteArray} (h : IVs w (.slice p k cap) k ng s) (b : Below w.heap.size w wr) {i : Nat} (hi : i < k) :
    ∃ a, p = some a ∧ wr.cell? (a.add (i * 2)) = some (.bool (ng i)) ∧ wr.cell? ⟨(a.add (i * 2)).block, (a.add (i * 2)).off + 1, none⟩ = some (.string (s i)) := by
  obtain ⟨q, c, e, hc⟩ := h.below b
  obtain ⟨rfl, rfl⟩ : p = q ∧ cap = c := by cases e; exact ⟨rfl, rfl⟩
  obtain ⟨a, e1, -, e3, e4⟩ := hc i hi
  exact ⟨a, e1, e3, by rw [add_next]; exact e4⟩
/-- All are valid integers. -/
def ValL (k : Nat) (ng : Nat → Bool) (s : Nat → ByteArray) : Prop := ∀ j, j < k → IVal (ng j) (s j)
theorem valL_up {k : Nat} {ng : Nat → Bool} {s : Nat → ByteArray} {i : Nat} (h : ∀ j, j < i → IVal (ng j) (s j)) (hi : IVal (ng i) (s i)) : ∀ j, j < i + 1 → IVal (ng j) (s j) := fun j hj => by
  by_cases e : j = i
  · rw [e]; exact hi
  · exact h j (by omega)
/-! ### two rows that grow side by side -/
theorem Tryz.infoN : (Tryz.prog.info? 22).map (fun i => (i.zero, i.size, i.bytes)) = some (some (.string ⟨#[]⟩), 1, 16) := by kernel_rfl
theorem Tryz.undN : Tryz.prog.underlying 41 = some (.slice 22) := by kernel_rfl
/-- The cells of k strings. -/
def svR (k : Nat) (f : Nat → ByteArray) : List Value := (List.range k).map fun j => Value.string (f j)
theorem svR_snoc (i : Nat) (X : Nat → ByteArray) : svR i X ++ [.string (X i)] = svR (i + 1) X := by simp [svR, List.range_succ]
theorem sv_of_row {w : World} {B i : Nat} {v : Value} {X : Nat → ByteArray} (h : w.ownsRow B 22 1 v i (svR i X)) : SV w v i X := by
  have h0 := h
  obtain ⟨-, ⟨rfl, rfl⟩ | ⟨g, cap, cur, rfl, hb, -⟩⟩ := h0
  · exact SV.nil w X
  · exact ⟨_, _, rfl, fun j hj => ⟨_, rfl, (h.lt g rfl).2, h.cells (g := g) rfl j _ (by simp [svR, hj])⟩⟩
theorem one_cellR (W : World) (x : Value) (t : TypeId) (g : Nat) (hg : g = W.heap.size) : ∀ j u, [x][j]? = some u → (W.alloc (.cells #[x] t)).cell? ((⟨g, 0, none⟩ : Addr).add j) = some u := by
  subst hg
  intro j u hj
  match j, hj with
  | 0, hj =>
    simp at hj; subst hj
    show (W.alloc (.cells #[x] t)).cell? ⟨W.heap.size, 0 + 0, none⟩ = _
    rw [World.cell?_alloc_new]; rfl
  | j + 1, hj => simp at hj
theorem grown_bel {W W' : World} (b : Below W.heap.size W W') : W.grownBy W' none := ⟨b.os, b.tape, b.output, b.size, fun k hk _ => b.block k hk⟩
/-- Two rows that share no block. -/
def Dj (a b : Value) : Prop := a.ownBlock = none ∨ a.ownBlock ≠ b.ownBlock
theorem Dj.symm_ {a b : Value} (h : Dj a b) : b.ownBlock = none ∨ b.ownBlock ≠ a.ownBlock := by
  rcases h with h | h
  · rw [h]
    cases b.ownBlock <;> simp
  · exact .inr (fun e => h e.symm)
theorem Two.grownP {w w' : World} {g : Nat} {c0 c1 : Value} {row : Option Nat} (h : Two w g c0 c1) (hg : w.grownBy w' row) (hne : ∀ k, row = some k → g < k) : Two w' g c0 c1 := by
  obtain ⟨h0, h1, h2, h3, h4⟩ := h
  have hb := hg.block g h4 (fun e => by have := hne g e.symm; omega)
  refine ⟨?_, ?_, ?_, ?_, Nat.lt_of_lt_of_le h4 hg.size⟩
  · rw [World.cell?_of_block (a := ⟨g, 0, none⟩) hb, h0]
  · rw [World.cell?_of_block (a := ⟨g, 1, none⟩) hb, h1]
  · rw [World.frozen?_of_block (a := ⟨g, 0, none⟩) hb, h2]
  · rw [World.frozen?_of_block (a := ⟨g, 1, none⟩) hb, h3]
/-- What the second loop of Product knows (of its number of rounds apart). -/
def PdR (w : World) (M Q : ByteArray) (X Y : Nat → ByteArray) (i : Nat) (vf ve : Value) (W : World) : Prop :=
  Below w.heap.size w W ∧ Two W w.heap.size (.string M) (.string Q) ∧ W.ownsRow (w.heap.size + 1) 22 1 vf i (svR i X) ∧ W.ownsRow (w.heap.size + 1) 22 1 ve i (svR i Y) ∧ Dj vf ve
theorem PdR.below {w : World} {M Q : ByteArray} {X Y : Nat → ByteArray} {i : Nat} {vf ve : Value} {W W' : World} (h : PdR w M Q X Y i vf ve W) (b : Below W.heap.size W W') : PdR w M Q X Y i vf ve W' := by
  obtain ⟨h1, h2, h3, h4, h5⟩ := h
  exact ⟨belP h1 b, h2.below b rfl, h3.kept (grown_bel b) (by cases vf.ownBlock <;> simp), h4.kept (grown_bel b) (by cases ve.ownBlock <;> simp), h5⟩
/-- The state between the two appends. -/
def PdM (w : World) (M Q : ByteArray) (X Y : Nat → ByteArray) (i : Nat) (vf ve : Value) (W : World) : Prop :=
  Below w.heap.size w W ∧ Two W w.heap.size (.string M) (.string Q) ∧ W.ownsRow (w.heap.size + 1) 22 1 vf (i + 1) (svR (i + 1) X) ∧ W.ownsRow (w.heap.size + 1) 22 1 ve i (svR i Y) ∧ Dj vf ve
theorem pd_first {w : World} {M Q : ByteArray} {X Y : Nat → ByteArray} {i : Nat} {vf ve v' : Value} {W w' : World} {o : Obj} (h : PdR w M Q X Y i vf ve W)
    (h1 : w'.ownsRow (w.heap.size + 1) 22 1 v' (i + 1) (svR (i + 1) X)) (hg : (W.alloc o).grownBy w' vf.ownBlock) (hp : v'.ownBlock = vf.ownBlock ∨ v'.ownBlock = some (W.alloc o).heap.size) : PdM w M Q X Y i v' ve w' := by
  obtain ⟨k1, k2, k3, k4, k5⟩ := h
  have hlt := k2.2.2.2.2
  refine ⟨Below.grown (belP k1 (belA _ o)) hg (by simp; omega) (fun k e => by have := (k3.lt k e).1; omega), (k2.alloc o).grownP hg (fun k e => by have := (k3.lt k e).1; omega), h1, (k4.alloc o).kept hg k5.symm_, ?_⟩
  rcases hp with hp | hp
  · unfold Dj; rw [hp]; exact k5
  · refine .inr (fun e => ?_)
    have := (k4.lt _ (e.symm.trans hp)).2
    simp at this
    omega
theorem pd_second {w : World} {M Q : ByteArray} {X Y : Nat → ByteArray} {i : Nat} {vf ve v' : Value} {W w' : World} {o : Obj} (h : PdM w M Q X Y i vf ve W)
    (h1 : w'.ownsRow (w.heap.size + 1) 22 1 v' (i + 1) (svR (i + 1) Y)) (hg : (W.alloc o).grownBy w' ve.ownBlock) (hp : v'.ownBlock = ve.ownBlock ∨ v'.ownBlock = some (W.alloc o).heap.size) : PdR w M Q X Y (i + 1) vf v' w' := by
  obtain ⟨k1, k2, k3, k4, k5⟩ := h
  have hlt := k2.2.2.2.2
  refine ⟨Below.grown (belP k1 (belA _ o)) hg (by simp; omega) (fun k e => by have := (k4.lt k e).1; omega), (k2.alloc o).grownP hg (fun k e => by have := (k4.lt k e).1; omega), (k3.alloc o).kept hg k5, h1, ?_⟩
  rcases hp with hp | hp
  · unfold Dj; rw [hp]; exact k5
  · refine .inr (fun e => ?_)
    have := (k3.lt _ (e.trans hp)).2
    simp at this
    omega
/-- append of one string to a row of the call's own. -/
theorem wpList_app1 {ops : Array Oper} {rest : List Oper} {o : Oper} {a : Act} {Q : Exit → Act → World → Prop} {W : World} (hgd : o.guard = none) (s x : Operand)
    (ho : o.op = .call { callee := .builtin .append, args := #[s, x], argTypes := #[41, 41] }) (B n g : Nat) (v : Value) (X : Nat → ByteArray)
    (hs : a.eval s = v) (hown : W.ownsRow B 22 1 v n (svR n X)) (y : ByteArray) (hy : y = X n) (hg : g = W.heap.size) (hx : a.eval x = .slice (some ⟨g, 0, none⟩) 1 1) (hn : n ≤ 1000000) (hB : B ≤ W.heap.size)
    (h : ∀ v' w', w'.ownsRow B 22 1 v' (n + 1) (svR (n + 1) X) → (W.alloc (.cells #[.string y] 22)).grownBy w' v.ownBlock → (v'.ownBlock = v.ownBlock ∨ v'.ownBlock = some (W.alloc (.cells #[.string y] 22)).heap.size) → wpList Tryz.prog ops Q rest (a.put o.dst v') w') :
    wpList Tryz.prog ops Q (o :: rest) a (W.alloc (.cells #[.string y] 22)) := by
  obtain ⟨i0, hi, hz0, hz1, hz2⟩ := info_parts Tryz.infoN
  refine wpList_append_own_at _ hgd s x 41 ho B 22 i0 (.string ⟨#[]⟩) 1 16 Tryz.undN hi hz0 hz1 hz2 rfl (by decide) v n (svR n X) hs (hown.alloc _) ⟨g, 0, none⟩ 1 1 [.string y] hx rfl (one_cellR W _ _ g hg) (by simp [Value.oneCell']) (by unfold maxLen; omega) (by omega) (by simp; omega) ?_
  intro v' w' h1 h2 _ h4
  rw [hy, svR_snoc] at h1
  exact h v' w' h1 h2 h4

/-! ### loads beside a call -/
theorem cell_ltP {w : World} {a : Addr} {c : Value} (h : w.cell? a = some c) : a.block < w.heap.size := by
  obtain ⟨o, ho, -⟩ := cells_of_cell h
  exact (Array.getElem?_eq_some_iff.1 ho).1
abbrev Cel4 (wr : World) (p0 p1 p2 p3 : Addr) (c0 c1 c2 c3 : Value) (W : World) : Prop := W.cell? p0 = some c0 ∧ W.cell? p1 = some c1 ∧ W.cell? p2 = some c2 ∧ W.cell? p3 = some c3 ∧ Below wr.heap.size wr W
theorem Cel4.of {wr W : World} {p0 p1 p2 p3 : Addr} {c0 c1 c2 c3 : Value} (h : Cel4 wr p0 p1 p2 p3 c0 c1 c2 c3 wr) (b : Below wr.heap.size wr W) : Cel4 wr p0 p1 p2 p3 c0 c1 c2 c3 W :=
  ⟨(b.cell (cell_ltP h.1)).trans h.1, (b.cell (cell_ltP h.2.1)).trans h.2.1, (b.cell (cell_ltP h.2.2.1)).trans h.2.2.1, (b.cell (cell_ltP h.2.2.2.1)).trans h.2.2.2.1, b⟩
theorem Cel4.bel {wr W : World} {p0 p1 p2 p3 : Addr} {c0 c1 c2 c3 : Value} (h : Cel4 wr p0 p1 p2 p3 c0 c1 c2 c3 W) : Below wr.heap.size wr W := h.2.2.2.2

/-! ### Product -/
open Classical in
/-- What Product answers. -/
noncomputable def prodG (M Q : ByteArray) (k1 : Nat) (f : Nat → ByteArray) (k2 : Nat) (ng : Nat → Bool) (s : Nat → ByteArray) : ByteArray × Int :=
  if ¬ ValL k2 ng s then (⟨#[]⟩, 3) else if chkNs M Q k1 f ≠ 0 then (⟨#[]⟩, chkNs M Q k1 f) else if k1 ≠ k2 then (⟨#[]⟩, 6) else
    if ∀ j, j < k1 → EltG M Q (f j) then (E (prZ (V M) (fun j => V (f j)) (fun j => IZ (ng j) (s j)) k1), 0) else (⟨#[]⟩, 13)
set_option maxHeartbeats 8000000 in
set_option maxRecDepth 100000 in
theorem pwprod_any (M Q : ByteArray) (v1 v2 : Value) (k1 k2 : Nat) (f : Nat → ByteArray) (ng : Nat → Bool) (s : Nat → ByteArray) (w : World) (h1 : SV w v1 k1 f) (h2 : IVs w v2 k2 ng s) (hk1 : k1 ≤ 1000000) (hk2 : k2 ≤ 1000000) :
    Calls Tryz.prog 22 #[.agg #[.string M, .string Q], v1, v2] w fun e w' => e = .returned (.tuple #[.string (prodG M Q k1 f k2 ng s).1, .int .i64 (prodG M Q k1 f k2 ng s).2]) ∧ Below w.heap.size w w' := by
  have H1 := Lib.hid h1
  have H2 := Lib.hid h2
  obtain ⟨p1, cap1, rfl, -⟩ := h1
  obtain ⟨p2, cap2, rfl, -⟩ := h2
  have G := Lib.hid (Two.new w (.string M) (.string Q) 24 _ rfl)
  have K := Lib.hid (belA w (.cells #[.string M, .string Q] 24))
  obtain ⟨⟨S, c⟩, hSc⟩ : ∃ Sc, Sc = prodG M Q k1 f k2 ng s := ⟨_, rfl⟩
  rw [← hSc]
  have HR := Lib.hid hSc
  clear hSc
  go_enter Tryz.func22, Tryz.ntmps22
  go_wp2
  generalize World.alloc w _ = W at *
  go_loopw [19] (fun i wr => ∃ i' : Nat, i' ≤ k2 ∧ i = .int .i64 i' ∧ Hid (∀ j, j < i' → IVal (ng j) (s j)) ∧ Hid (Below w.heap.size w wr) ∧ Hid (Two wr w.heap.size (.string M) (.string Q))) (fun i _ => k2 - (intOf i).toNat)
  case atStart => exact ⟨0, by omega, rfl, (fun j hj => absurd hj (by omega)), K, G⟩
  case round =>
    obtain ⟨i', hi', rfl, HI, K, G⟩ := hrel
    by_cases hlt : i' < k2
    · have hlti : (i' : Int) < (k2 : Int) := by omega
      obtain ⟨a2, rfl, hc0, hc1⟩ := ivAt H2.out K.out hlt
      by_cases hv : IVal (ng i') (s i')
      · have HN := Lib.hid (valL_up (k := k2) HI.out hv)
        have HV := Lib.hid hv; clear hv
        go_wp2_with fail
        refine (ivalid_t (ng i') (s i') _ HV.out).mono ?_; rintro e w2 ⟨rfl, b2⟩
        have K2 := Lib.hid (belP (belP K.out (belA _ _)) b2)
        have G2 := Lib.hid ((G.out.alloc _).below b2 rfl)
        clear b2 hc0 hc1
        go_wp2
        go_roundw
        case rel => exact ⟨i' + 1, by omega, by go_num, HN, K2, G2⟩
        case measure => simp [intOf]; omega
      · have HV := Lib.hid hv
        have hres : S = ⟨#[]⟩ ∧ c = 3 := by
          have := HR.out
          rw [show prodG M Q k1 f k2 ng s = (⟨#[]⟩, 3) by unfold prodG; rw [if_pos (fun q => hv (q i' hlt))]] at this
          exact ⟨congrArg Prod.fst this, congrArg Prod.snd this⟩
        obtain ⟨rfl, rfl⟩ := hres
        clear hv
        go_wp2_with fail
        refine (ivalid_f (ng i') (s i') _ HV.out).mono ?_; rintro e w2 ⟨rfl, b2⟩
        have K2 := Lib.hid (belP (belP K.out (belA _ _)) b2)
        clear b2 hc0 hc1
        go_wp2
        go_ret2
        exact ⟨rfl, K2.out⟩
    · obtain rfl : i' = k2 := by omega
      have HVL := Lib.hid (show ValL i' ng s from HI.out)
      have HB1 := Lib.hid (H1.out.below K.out)
      obtain ⟨q1, q2, q3, q4, q5⟩ := G.out
      by_cases hc : chkNs M Q k1 f = 0
      · obtain ⟨hcl, hg⟩ := chkNs_zero hc
        obtain ⟨hM, hQ, hw⟩ := chkG_zero hg
        have CC := Lib.hid (fun W (hV : SV W (.slice p1 k1 cap1) k1 f) => (show Calls Tryz.prog 44 #[.agg #[.string M, .string Q], .slice p1 k1 cap1] W fun e w' => e = .returned (.int .i64 0) ∧ Below W.heap.size W w' by rw [← hc]; exact pchkl_any _ k1 f M Q W hV (by omega)))
        have HG := Lib.hid hg
        have HC := Lib.hid hc
        have HM := Lib.hid hM
        have HW := Lib.hid (wfG_pos hw)
        by_cases hk : k1 = i'
        · subst hk
          obtain ⟨X, hX⟩ : ∃ X : Nat → ByteArray, X = fun j => (wsg M Q (f j) (ng j) (s j)).1 := ⟨_, rfl⟩
          obtain ⟨Y, hY⟩ : ∃ Y : Nat → ByteArray, Y = fun j => (wsg M Q (f j) (ng j) (s j)).2 := ⟨_, rfl⟩
          have HX := Lib.hid hX
          have HY := Lib.hid hY
          clear hX hY hcl hg hM hQ hw hc HI
          go_wp2_with fail
          refine (CC.out _ HB1.out).mono ?_; rintro e w2 ⟨rfl, b2⟩
          have HP0 := Lib.hid (show PdR w M Q X Y 0 (.slice none 0 0) (.slice none 0 0) w2 from ⟨belP K.out b2, G.out.below b2 rfl, World.ownsRow_nil _ _ _ _, World.ownsRow_nil _ _ _ _, .inl rfl⟩)
          clear b2 K G HB1 q1 q2 q3 q4 q5
          go_wp2
          go_loopw [11, 12, 40] (fun vf ve vi wr => ∃ j : Nat, j ≤ k1 ∧ vi = .int .i64 j ∧ Hid (∀ l, l < j → EltG M Q (f l)) ∧ Hid (PdR w M Q X Y j vf ve wr)) (fun _ _ vi _ => k1 - (intOf vi).toNat)
          case atStart => exact ⟨0, by omega, rfl, (fun l hl => absurd hl (by omega)), HP0⟩
          case round =>
            obtain ⟨j, hj, rfl, HEL, HP⟩ := hrel
            clear HP0
            by_cases hlt2 : j < k1
            · have hltj : (j : Int) < (k1 : Int) := by omega
              obtain ⟨a1, rfl, hcell1⟩ := svAt H1.out HP.out.1 hlt2
              obtain ⟨q1, q2, q3, q4, q5⟩ := HP.out.2.1
              by_cases he : EltG M Q (f j)
              · have CE := Lib.hid (fun W => iselt_t M Q (f j) W HG.out he)
                obtain ⟨y1, y2, hy⟩ : ∃ y1 y2, (y1, y2) = wsg M Q (f j) (ng j) (s j) := ⟨_, _, rfl⟩
                have CW := Lib.hid (fun W => wsg_any M Q (f j) (ng j) (s j) W HG.out he (HVL.out j hlt2))
                rw [← hy] at CW
                have HY1 := Lib.hid (show y1 = X j by rw [HX.out]; exact congrArg Prod.fst hy)
                have HY2 := Lib.hid (show y2 = Y j by rw [HY.out]; exact congrArg Prod.snd hy)
                have HEN := Lib.hid (show ∀ l, l < j + 1 → EltG M Q (f l) from fun l hl => by
                  by_cases e : l = j
                  · rw [e]; exact he
                  · exact HEL.out l (by omega))
                clear hy he
                go_wp2_with fail
                refine (CE.out _).mono ?_; rintro e w3 ⟨rfl, b3⟩
                have HP3 := Lib.hid (HP.out.below b3)
                clear b3 hcell1 q1 q2 q3 q4 q5
                obtain ⟨a2, rfl, hc0, hc1⟩ := ivAt H2.out HP3.out.1 hlt2
                have S0 := Lib.hid (show Cel4 w3 ⟨w.heap.size, 0, none⟩ ⟨w.heap.size, 1, none⟩ (a2.add (j * 2)) ⟨(a2.add (j * 2)).block, (a2.add (j * 2)).off + 1, none⟩ (.string M) (.string Q) (.bool (ng j)) (.string (s j)) w3 from ⟨HP3.out.2.1.1, HP3.out.2.1.2.1, hc0, hc1, Below.refl _ _⟩)
                have hj0 : (0 : Int) ≤ (j : Int) := by omega
                clear hc0 hc1
                go_wp2_with fail
                go_region_held3 (fun W => W.cell? ⟨w.heap.size, 0, none⟩ = some (.string M) ∧ W.cell? ⟨w.heap.size, 1, none⟩ = some (.string Q) ∧ W.cell? (a2.add (j * 2)) = some (.bool (ng j)) ∧ W.cell? ⟨(a2.add (j * 2)).block, (a2.add (j * 2)).off + 1, none⟩ = some (.string (s j)) ∧ Below w3.heap.size w3 W) (first | assumption | exact Cel4.of S0.out (Below.refl _ _).drew | exact Cel4.of S0.out (belP (Cel4.bel (by assumption)) b99))
                  (first
                  | (go_at_call 47; ((with_reducible refine (CW.out _).mono ?_); rintro e w99 ⟨rfl, b99⟩)))
                have b4 : Below w3.heap.size w3 w99 := Cel4.bel (by assumption)
                have HP4 := Lib.hid (HP3.out.below b4)
                clear b4 S0 HP HP3
                go_wp2_with (first
                  | (at_builtin; refine wpList_app1 rfl (.tmp 59) (.tmp 61) rfl (w.heap.size + 1) j _ _ X rfl HP4.out.2.2.1 y1 HY1.out rfl rfl (by omega) HP4.out.2.1.2.2.2.2 ?_; intro v' w5 z1 z2 z3; have HM5 := Lib.hid (pd_first HP4.out z1 z2 z3); clear z1 z2 z3)
                  | (at_builtin; refine wpList_app1 rfl (.tmp 63) (.tmp 65) rfl (w.heap.size + 1) j _ _ Y rfl HM5.out.2.2.2.1 y2 HY2.out rfl rfl (by omega) HM5.out.2.1.2.2.2.2 ?_; intro v'' w6 z1 z2 z3; have HP6 := Lib.hid (pd_second HM5.out z1 z2 z3); clear z1 z2 z3))
                go_roundw
                case rel => exact ⟨j + 1, by omega, by go_num, HEN, HP6⟩
                case measure => simp [intOf]; omega
              · have CE := Lib.hid (fun W => iselt_f M Q (f j) W he)
                have hres : S = ⟨#[]⟩ ∧ c = 13 := by
                  have := HR.out
                  rw [show prodG M Q k1 f k1 ng s = (⟨#[]⟩, 13) by unfold prodG; rw [if_neg (fun q => q HVL.out), if_neg (fun q => q HC.out), if_neg (fun q => q rfl), if_neg (fun q => he (q j hlt2))]] at this
                  exact ⟨congrArg Prod.fst this, congrArg Prod.snd this⟩
                obtain ⟨rfl, rfl⟩ := hres
                clear he
                go_wp2_with fail
                refine (CE.out _).mono ?_; rintro e w3 ⟨rfl, b3⟩
                have HP3 := Lib.hid (HP.out.below b3)
                clear b3 hcell1 q1 q2 q3 q4 q5
                go_wp2
                go_ret2
                exact ⟨rfl, HP3.out.1⟩
            · obtain rfl : j = k1 := by omega
              have hcan : ∀ l, l < j → Can (X l) ∧ Can (Y l) := fun l hl => by rw [HX.out, HY.out]; exact wsg_can HG.out (HEL.out l hl) (HVL.out l hl)
              have hz : prN (V M) (fun l => V (X l)) (fun l => V (Y l)) j = prZ (V M) (fun l => V (f l)) (fun l => IZ (ng l) (s l)) j := by
                refine prN_prZ fun l hl => ?_
                rw [HX.out, HY.out]
                exact wsg_pow HG.out (HEL.out l hl) (HVL.out l hl)
              have hres : S = E (prZ (V M) (fun l => V (f l)) (fun l => IZ (ng l) (s l)) j) ∧ c = 0 := by
                have := HR.out
                rw [show prodG M Q j f j ng s = (E (prZ (V M) (fun l => V (f l)) (fun l => IZ (ng l) (s l)) j), 0) by unfold prodG; rw [if_neg (fun q => q HVL.out), if_neg (fun q => q HC.out), if_neg (fun q => q rfl), if_pos HEL.out]] at this
                exact ⟨congrArg Prod.fst this, congrArg Prod.snd this⟩
              have CP := Lib.hid (fun W vf ve (h1 : SV W vf j X) (h2 : SV W ve j Y) => pprod_any M vf ve j X Y W h1 h2 (by omega) (fun l hl => (hcan l hl).1) (fun l hl => (hcan l hl).2) HM.out HW.out)
              rw [hz, ← hres.1] at CP
              obtain ⟨-, rfl⟩ := hres
              have HVF := Lib.hid (sv_of_row HP.out.2.2.1)
              have HVE := Lib.hid (sv_of_row HP.out.2.2.2.1)
              have HK := Lib.hid HP.out.1
              obtain ⟨q1, q2, q3, q4, q5⟩ := HP.out.2.1
              clear hcan hz HP HEL
              go_wp2_with fail
              refine (CP.out _ _ _ HVF.out HVE.out).mono ?_; rintro e w3 ⟨rfl, b3⟩
              have K3 := Lib.hid (belP HK.out b3)
              clear b3
              go_wp2
              go_ret2
              exact ⟨rfl, K3.out⟩
        · have hres : S = ⟨#[]⟩ ∧ c = 6 := by
            have := HR.out
            rw [show prodG M Q k1 f i' ng s = (⟨#[]⟩, 6) by unfold prodG; rw [if_neg (fun q => q HVL.out), if_neg (fun q => q HC.out), if_pos hk]] at this
            exact ⟨congrArg Prod.fst this, congrArg Prod.snd this⟩
          obtain ⟨rfl, rfl⟩ := hres
          have hne1 : ((k1 : Int) != (i' : Int)) = true := by rw [bne_iff_ne]; omega
          have hne2 : (k1 != i') = true := by rw [bne_iff_ne]; omega
          clear hcl hg hM hQ hw hc HI
          go_wp2_with fail
          refine (CC.out _ HB1.out).mono ?_; rintro e w2 ⟨rfl, b2⟩
          have K2 := Lib.hid (belP K.out b2)
          clear b2 q1 q2 q3 q4 q5
          go_wp2
          go_ret2
          exact ⟨rfl, K2.out⟩
      · have hres : S = ⟨#[]⟩ ∧ c = chkNs M Q k1 f := by
          have := HR.out
          rw [show prodG M Q k1 f i' ng s = (⟨#[]⟩, chkNs M Q k1 f) by unfold prodG; rw [if_neg (fun q => q HVL.out), if_pos hc]] at this
          exact ⟨congrArg Prod.fst this, congrArg Prod.snd this⟩
        have CC := Lib.hid (fun W (hV : SV W (.slice p1 k1 cap1) k1 f) => (show Calls Tryz.prog 44 #[.agg #[.string M, .string Q], .slice p1 k1 cap1] W fun e w' => e = .returned (.int .i64 c) ∧ Below W.heap.size W w' by rw [hres.2]; exact pchkl_any _ k1 f M Q W hV (by omega)))
        have hc0 : (c != 0) = true := by rw [hres.2]; simpa using hc
        obtain ⟨rfl, -⟩ := hres
        clear hc HI
        go_wp2_with fail
        refine (CC.out _ HB1.out).mono ?_; rintro e w2 ⟨rfl, b2⟩
        have K2 := Lib.hid (belP K.out b2)
        clear b2 q1 q2 q3 q4 q5
        go_wp2
        go_ret2
        exact ⟨rfl, K2.out⟩
end Go.Proofs.YtogmgfdihmacpaaGreatDoor
