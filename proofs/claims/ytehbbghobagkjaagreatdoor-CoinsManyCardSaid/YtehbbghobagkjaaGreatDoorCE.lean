/-
  Several parts in one text (CE).
-/
import Derived.Test.YtehbbghobagkjaaGreatDoorCR
import Derived.Test.YtehbbghobagkjaaGreatDoorCD
import Derived.Deep.AppendLies
import Derived.OwnWalk
import Derived.Test.YtehbbghobagkjaaGreatDoorRG
import Derived.Deep.LoopGhost
import Derived.Deep.RegionWith
import Derived.Deep.RegionHeld3
import Derived.WalkSpells
/-
  The reference of package coins, the fourth part: canonical.
-/
namespace Go.Proofs.YtehbbghobagkjaaGreatDoor
open Go.RowKit Go.Deep
set_option linter.unusedVariables false

theorem rc_tail (s : ByteArray) : (s.extract 1 s.size).data.toList = s.data.toList.drop 1 := by
  simp [ByteArray.data_extract]
  exact List.take_of_length_le (by simp)
theorem head_get {s : ByteArray} (h0 : 0 < s.size) : s.data.toList[0]? = some (s[0]'h0) := by
  rw [List.getElem?_eq_getElem (by rw [← size_eq]; exact h0)]
  rfl
/-- What the stripping keeps. -/
def CanR (b : ByteArray) (x : Value) : Prop := ∃ s : ByteArray, x = .string s ∧ s.size ≤ b.size ∧ Hid (strip s.data.toList = strip b.data.toList)
def sizeOfS : Value → Nat
  | .string s => s.size
  | _ => 0
theorem E_of_strip {s b : ByteArray} (h : strip s.data.toList = strip b.data.toList) (hs : strip s.data.toList = s.data.toList) : s = E (bval b.data.toList) := by
  rw [← E_strip (l := b.data.toList) rfl, ← h, hs]
set_option maxHeartbeats 1000000 in
set_option maxRecDepth 20000 in
theorem canonical_any (b : ByteArray) (w : World) (hb : b.size ≤ 100000) :
    Calls Tryz.prog 66 #[.string b] w fun e w' => e = .returned (.string (E (bval b.data.toList))) ∧ w' = w := by
  go_enter Tryz.func66, Tryz.ntmps66
  go_wp2
  go_loop [0] (fun x => CanR b x) (fun x => sizeOfS x)
  case atStart => exact ⟨b, rfl, Nat.le_refl _, rfl⟩
  case round =>
    obtain ⟨s, rfl, hs, HS⟩ := hrel
    by_cases h0 : 0 < s.size
    · have h0i : (0 : Int) < (s.size : Int) := by omega
      by_cases hz : s[0]'h0 = 0
      · have HN := Lib.hid (show strip (s.extract 1 s.size).data.toList = strip b.data.toList by
          rw [rc_tail, ← strip_drop_zero (k := 0) (by rw [head_get h0, hz])]
          exact HS.out)
        have hz2 : (((s[0]'h0).toNat : Int) == 0) = true := by rw [hz]; rfl
        have hsz : (s.extract 1 s.size).size = s.size - 1 := by rw [ByteArray.size_extract]; omega
        clear hz
        go_wp2
        go_round
        case rel => exact ⟨_, rfl, by omega, HN.out⟩
        case measure => simp [sizeOfS]; omega
      · have HR := Lib.hid (E_of_strip HS.out (strip_drop_stop (k := 0) (head_get h0) hz))
        have hz2 : (((s[0]'h0).toNat : Int) == 0) = false := by
          rw [beq_eq_false_iff_ne]
          intro q
          exact hz (UInt8.toNat_inj.1 (by show _ = 0; omega))
        clear hz
        go_wp2
        go_ret
        exact ⟨by rw [← HR.out]; rfl, rfl⟩
    · have HR := Lib.hid (E_of_strip HS.out (by rw [show s.data.toList = [] from List.eq_nil_of_length_eq_zero (by rw [← size_eq]; omega)]; rfl))
      have h0i : ¬ (0 : Int) < (s.size : Int) := by omega
      go_wp2
      go_ret
      exact ⟨by rw [← HR.out]; rfl, rfl⟩
end Go.Proofs.YtehbbghobagkjaaGreatDoor


/-
  The reference of package coins, the fifth part: Decimal.
-/
namespace Go.Proofs.YtehbbghobagkjaaGreatDoor
open Go.RowKit Go.Deep
set_option linter.unusedVariables false

/-- A numeral. -/
def decB (n : Nat) : ByteArray := ⟨(Lib.decDigits n).toArray⟩
theorem dec_digit {d : Nat} (h : d < 10) : (ByteArray.mk #[48, 49, 50, 51, 52, 53, 54, 55, 56, 57]).extract d (d + 1) = decB d := by
  unfold decB
  rw [Lib.decDigits_one h]
  have : d = 0 ∨ d = 1 ∨ d = 2 ∨ d = 3 ∨ d = 4 ∨ d = 5 ∨ d = 6 ∨ d = 7 ∨ d = 8 ∨ d = 9 := by omega
  rcases this with rfl | rfl | rfl | rfl | rfl | rfl | rfl | rfl | rfl | rfl <;> rfl
theorem dec_more {n : Nat} (h : ¬ n < 10) : decB (n / 10) ++ decB (n % 10) = decB n := by
  unfold decB
  rw [Lib.decDigits_one (i := n % 10) (by omega)]
  conv => rhs; rw [Lib.decDigits, dif_neg h]
  apply ByteArray.ext
  simp [ByteArray.data_append]
theorem decB_size (n : Nat) : (decB n).size ≤ n + 1 := by
  rw [size_eq]
  show (Lib.decDigits n).length ≤ n + 1
  induction n using Nat.strongRecOn with
  | ind n ih =>
    by_cases h : n < 10
    · rw [Lib.decDigits_one h]; simp
    · rw [Lib.decDigits, dif_neg h, List.length_append]
      have := ih (n / 10) (by omega)
      simp only [List.length_singleton]
      omega
set_option maxHeartbeats 2000000 in
set_option maxRecDepth 20000 in
theorem decimal6_any : ∀ (n : Nat) (w : World), n ≤ 4294967296 → Calls Tryz.prog 65 #[.int .i64 n] w fun e w' => e = .returned (.string (decB n)) ∧ Below w.heap.size w w' := by
  intro n
  induction n using Nat.strongRecOn with
  | ind n ih =>
    intro w hn
    have hge : ¬ (n : Int) < 0 := by omega
    by_cases h : n < 10
    · have hi : (n : Int) < 10 := by omega
      have hx := dec_digit h
      have ha : IntKind.i64.wrap ((n : Int) + 1) = ((n + 1 : Nat) : Int) := by rw [IntWalk.i64_in _ (by omega)]; omega
      have h10 : n + 1 ≤ 10 := by omega
      go_enter Tryz.func65, Tryz.ntmps65
      go_wp2
      go_ret
      exact ⟨rfl, Below.refl _ _⟩
    · have hi : ¬ (n : Int) < 10 := by omega
      have hq : (n : Int).tdiv 10 = ((n / 10 : Nat) : Int) := rfl
      have hr : (n : Int).tmod 10 = ((n % 10 : Nat) : Int) := rfl
      obtain ⟨q, hq2⟩ : ∃ q, q = n / 10 := ⟨_, rfl⟩
      obtain ⟨r, hr2⟩ : ∃ r, r = n % 10 := ⟨_, rfl⟩
      have IH := Lib.hid (fun W => ih q (by omega) W (by omega))
      have hm := dec_more h
      rw [← hq2] at hq hm
      rw [← hr2] at hr hm
      have hr10 : r < 10 := by omega
      have hx := dec_digit hr10
      have ha : IntKind.i64.wrap ((r : Int) + 1) = ((r + 1 : Nat) : Int) := by rw [IntWalk.i64_in _ (by omega)]; omega
      have hwq : IntKind.i64.wrap (q : Int) = (q : Int) := IntWalk.i64_in _ (by omega)
      have hs1 := decB_size q
      have hs2 := decB_size r
      have hsz : (decB q).size + (decB r).size ≤ 9223372036854775807 := by omega
      have HM := Lib.hid hm
      clear hm hq2 hr2 hs1 hs2 ih
      go_enter Tryz.func65, Tryz.ntmps65
      go_wp2
      go_region_with (first
        | (go_at_call 65; refine (IH.out _).mono ?_; rintro e w3 ⟨rfl, b3⟩))
      all_goals (
        go_wp2
        rw [HM.out]
        go_ret
        exact ⟨rfl, bel_of (Below.refl _ w).drew b3⟩)
end Go.Proofs.YtehbbghobagkjaaGreatDoor


/-
  The reference of package coins, the sixth part: an append of a whole list to nil; Values, Seed, Left.
-/
namespace Go.Proofs.YtehbbghobagkjaaGreatDoor
open Go.RowKit Go.Deep
set_option linter.unusedVariables false

theorem run_append_empty {P : Program} {w : World} (t ty e : TypeId) (i : TypeInfo) (ht : P.underlying t = some (.slice e)) (hi : P.info? e = some i) (p : Option Addr) (c : Nat) :
    (Builtin.append_ #[t, t] ty #[.slice none 0 0, .slice p 0 c]).run P w = .ok (.slice none 0 0) w := by
  cases p with
  | none => simp [Builtin.append_, run_underlying ht, sizeOf, typeInfo, hi, Builtin.lenOf, Builtin.firstCells]
  | some a => simp [Builtin.append_, run_underlying ht, sizeOf, typeInfo, hi, Builtin.lenOf, Builtin.firstCells, loadCells, loadCellsFrom]
theorem below_grown {w w' : World} (h : w.grownBy w' none) : Below w.heap.size w w' := (Below.refl _ w).grown h (Nat.le_refl _) (fun k hk => by cases hk)
/-- A list of the call's own: nil, or in a new block. -/
def NewV (B : Nat) (v : Value) : Prop := v = .slice none 0 0 ∨ ∃ g k c, v = .slice (some ⟨g, 0, none⟩) k c ∧ B ≤ g
theorem sv_of_owns {w : World} {B g k cap : Nat} {f : Nat → ByteArray} (h : w.ownsRow B 25 1 (.slice (some ⟨g, 0, none⟩) k cap) k (svC k f)) : SV w (.slice (some ⟨g, 0, none⟩) k cap) k f := by
  refine ⟨_, _, rfl, fun j hj => ⟨_, rfl, (h.lt g rfl).2, ?_⟩⟩
  exact h.cells (g := g) rfl j _ (by simp [svC, hj])
theorem wpList_append_sv {ops : Array Oper} {rest : List Oper} {o : Oper} {a : Act} {Q : Exit → Act → World → Prop} {w : World} (hgd : o.guard = none) (s x : Operand)
    (ho : o.op = .call { callee := .builtin .append, args := #[s, x], argTypes := #[22, 22] })
    (hs : a.eval s = .slice none 0 0) (v : Value) (k : Nat) (f : Nat → ByteArray) (hx : a.eval x = v) (hv : SV w v k f) (hk : k ≤ 1099511627776)
    (h : ∀ q c w', SV w' (.slice q k c) k f → Below w.heap.size w w' → NewV w.heap.size (.slice q k c) → wpList Tryz.prog ops Q rest (a.put o.dst (.slice q k c)) w') : wpList Tryz.prog ops Q (o :: rest) a w := by
  obtain ⟨i0, hi, hz0, hz1, hz2⟩ := info_parts Tryz.hinfS
  obtain ⟨p, cap, rfl, hc⟩ := hv
  by_cases h0 : k = 0
  · subst h0
    refine wpList_plain hgd fun K hK => ?_
    have hrun := run_append_empty (P := Tryz.prog) (w := w) 22 o.type 25 i0 Tryz.hundS hi p cap
    unfold Oper.wp
    simp [execOp, ho, resolve, invoke, builtin, hs, hx, hrun, Result.andThen]
    exact hK _ _ (h _ _ _ (SV.nil w f) (Below.refl _ _) (.inl rfl))
  · obtain ⟨ad, rfl, -, -⟩ := hc 0 (by omega)
    refine wpList_append_lies w hgd s x 22 ho w.heap.size 25 i0 _ 1 16 Tryz.hundS hi hz0 hz1 hz2 rfl (by decide) _ 0 [] hs (World.ownsRow_nil _ _ _ _) ad k cap (svC k f) hx (by rw [svC_length]; omega)
      (fun j u hj => ?_) (svC_one k f) (by omega) (by unfold maxLen; omega) (by omega) (Nat.le_refl _) w.heap.size rfl ?_
    · obtain ⟨hlt, rfl⟩ := svC_get hj
      obtain ⟨a2, e2, hb, hcell⟩ := hc j hlt
      obtain rfl : ad = a2 := Option.some.inj e2
      exact hcell
    · intro g c w' hown hgr hg hlt
      rw [Nat.zero_add, List.nil_append] at hown
      rw [Nat.zero_add]
      refine h _ _ _ (sv_of_owns hown) (below_grown hgr) (.inr ⟨g, k, c, rfl, ?_⟩)
      rcases hg with q | q
      · cases q
      · omega
theorem NewV.ne {B b : Nat} {v : Value} (h : NewV B v) (hb : b < B) : v = .slice none 0 0 ∨ ∃ g k c, v = .slice (some ⟨g, 0, none⟩) k c ∧ b ≠ g := by
  rcases h with h | ⟨g, k, c, h, hg⟩
  · exact .inl h
  · exact .inr ⟨g, k, c, h, by omega⟩
theorem SV.far {w : World} {v : Value} {k b : Nat} {f : Nat → ByteArray} (h : SV w v k f) (hv : v = .slice none 0 0 ∨ ∃ g k c, v = .slice (some ⟨g, 0, none⟩) k c ∧ b ≠ g) {p : Addr} (hp : p.block = b) (x : Value) : SV (w.setCell p x) v k f := by
  rcases hv with rfl | ⟨g, k', c, rfl, hb⟩
  · obtain ⟨p', cap, e, hc⟩ := h
    cases e
    exact SV.nil _ _
  · obtain ⟨q, c', e, hc⟩ := h
    obtain ⟨rfl, rfl, rfl⟩ : (some (⟨g, 0, none⟩ : Addr)) = q ∧ k' = k ∧ c = c' := by cases e; exact ⟨rfl, rfl, rfl⟩
    refine SV.set ⟨_, _, rfl, hc⟩ (by rw [hp]; exact hb) x
/-- A tape that the reference answers. -/
def RTapeP (k : Nat) (f : Nat → ByteArray) (S : ByteArray) (t : Int) (w : World) (e : Ending) (w' : World) : Prop :=
  ∃ (q : Option Addr) (c : Nat), e = .returned (.agg #[.slice q k c, .string S, .int .i64 t]) ∧ SV w' (.slice q k c) k f ∧ NewV w.heap.size (.slice q k c) ∧ Below w.heap.size w w'
theorem rv_end {w w2 : World} {k c b B2 : Nat} {q : Option Addr} {f : Nat → ByteArray} {S : ByteArray} {t : Int} (hb : b = w.heap.size) (hB : B2 = w.heap.size + 1) (b2 : Below w.heap.size w w2) (hV : SV w2 (.slice q k c) k f) (hn : NewV (w.heap.size + 1 + 1) (.slice q k c))
    {c0 c1 c2 d0 : Value} (hT : Three w2 B2 d0 (.string S) (.int .i64 t)) (hR : Three w2 b c0 c1 c2) :
    Hid (SV ((((w2.setCell ⟨B2, 0, none⟩ (.slice q k c)).setCell ⟨b, 0, none⟩ (.slice q k c)).setCell ⟨b, 1, none⟩ (.string S)).setCell ⟨b, 2, none⟩ (.int .i64 t)) (.slice q k c) k f ∧
      Below w.heap.size w ((((w2.setCell ⟨B2, 0, none⟩ (.slice q k c)).setCell ⟨b, 0, none⟩ (.slice q k c)).setCell ⟨b, 1, none⟩ (.string S)).setCell ⟨b, 2, none⟩ (.int .i64 t)) ∧
      Three ((((w2.setCell ⟨B2, 0, none⟩ (.slice q k c)).setCell ⟨b, 0, none⟩ (.slice q k c)).setCell ⟨b, 1, none⟩ (.string S)).setCell ⟨b, 2, none⟩ (.int .i64 t)) b (.slice q k c) (.string S) (.int .i64 t)) := by
  have n1 := hn.ne (b := B2) (by omega)
  have n2 := hn.ne (b := b) (by omega)
  refine ⟨(((hV.far n1 rfl _).far n2 rfl _).far n2 rfl _).far n2 rfl _, Below.set3 (b2.setCell (p := ⟨B2, 0, none⟩) (by show w.heap.size ≤ B2; omega) _) (by omega) _ _ _, ?_⟩
  refine Three.set3 (c0 := c0) (c1 := c1) (c2 := c2) ?_ _ _ _
  obtain ⟨q0, q1, q2, q3, q4, q5, q6⟩ := hR
  have hne : b ≠ B2 := by omega
  refine ⟨?_, ?_, ?_, ?_, ?_, ?_, ?_⟩
  · rw [World.cell?_setCell_far _ _ _ _ (Ne.symm hne)]; exact q0
  · rw [World.cell?_setCell_far _ _ _ _ (Ne.symm hne)]; exact q1
  · rw [World.cell?_setCell_far _ _ _ _ (Ne.symm hne)]; exact q2
  · simp [go_sem, q3]
  · simp [go_sem, q4]
  · simp [go_sem, q5]
  · rw [World.size_setCell]; exact q6
end Go.Proofs.YtehbbghobagkjaaGreatDoor


/-
  The reference of package coins, the seventh part: attempt.
-/
namespace Go.Proofs.YtehbbghobagkjaaGreatDoor
open Go.RowKit Go.Deep
set_option linter.unusedVariables false

/-- What the first loop of attempt knows. -/
def AttR (S : List UInt8) (t a size : Nat) (w : World) (y : Nat) (vs vb : Value) (wr : World) : Prop :=
  ∃ (k : Nat) (B : ByteArray), k + y = 5 ∧ vb = .int .i64 k ∧ vs = .string B ∧ B.size = 32 * k ∧ 32 * k < size + 32 ∧ B.data.toList = strmL S t a k ∧ Below w.heap.size w wr
/-- What the second loop knows. -/
def AttM (c0 h y : Nat) (vx vi : Value) (w wr : World) : Prop :=
  ∃ i : Nat, i = y ∧ vi = .int .i64 i ∧ i ≤ 7 ∧ 7 ≤ i + h ∧ vx = .int .i64 (c0 % 2 ^ (i + 1) : Nat) ∧ Below w.heap.size w wr
theorem att_next {S : List UInt8} {t a k : Nat} {B M : ByteArray} (h : B.data.toList = strmL S t a k) (hM : M = ⟨(blkL S t a k).toArray⟩) : (B ++ M).data.toList = strmL S t a (k + 1) := by
  subst hM
  show _ = strmL S t a k ++ blkL S t a k
  simp [h]
theorem att_step {c0 i : Nat} (hc : c0 < 256) (hi : i ≤ 7) : ∃ (X Q D : Int), Hid (((c0 % 2 ^ (i + 1) : Nat) : Int) = X) ∧ 0 ≤ X ∧ X < 256 ∧ wrap64 ((2 : Int) ^ i) = Q ∧ IntKind.i64.wrap (X - Q) = D ∧
    ((Q ≤ X ∧ Hid (((c0 % 2 ^ i : Nat) : Int) = D)) ∨ (¬ Q ≤ X ∧ Hid (((c0 % 2 ^ i : Nat) : Int) = X))) := by
  have hx : c0 % 2 ^ (i + 1) < 2 ^ (i + 1) := Nat.mod_lt _ (Nat.two_pow_pos _)
  have h256 : c0 % 2 ^ (i + 1) < 256 := Nat.lt_of_le_of_lt (Nat.mod_le _ _) hc
  have hlow := low_step hx
  rw [low_mod] at hlow
  have hp : 2 ^ i ≤ 2 ^ 7 := Nat.pow_le_pow_right (by decide) hi
  have hpi : ((2 ^ i : Nat) : Int) = (2 : Int) ^ i := by simp
  generalize c0 % 2 ^ (i + 1) = xx at *
  generalize c0 % 2 ^ i = yy at *
  generalize 2 ^ i = P at *
  refine ⟨(xx : Int), (P : Int), (xx : Int) - (P : Int), rfl, by omega, by omega, by rw [← hpi]; unfold wrap64; omega, IntWalk.i64_in _ (by omega), ?_⟩
  by_cases h : P ≤ xx
  · rw [if_pos h] at hlow
    exact .inl ⟨by omega, show (yy : Int) = (xx : Int) - (P : Int) by omega⟩
  · rw [if_neg h] at hlow
    exact .inr ⟨by omega, show (yy : Int) = (xx : Int) by omega⟩
theorem att_pred {i : Nat} (h : 1 ≤ i) : Value.int .i64 ((i : Int) - 1) = .int .i64 ((i - 1 : Nat) : Int) := by rw [show ((i - 1 : Nat) : Int) = (i : Int) - 1 by omega]
theorem att_up {i : Nat} (h : 1 ≤ i) : i - 1 + 1 = i := by omega
theorem one_byteS (W : World) (x : Nat) : (convert 69 9 (.slice (some ⟨W.heap.size, 0, none⟩) 1 1)).run Tryz.prog (W.alloc (.cells #[.int .u8 (x : Int)] 5)) = .ok (.string ⟨#[UInt8.ofNat x]⟩) (W.alloc (.cells #[.int .u8 (x : Int)] 5)) := by
  have := run_convert_bytes_arg (P := Tryz.prog) (W.alloc (.cells #[.int .u8 (x : Int)] 5)) 69 5 Tryz.hund69 Tryz.hund5 W.heap.size 0 1 1 [(x : Int)] rfl (fun i hi => by
    obtain rfl : i = 0 := by omega
    rw [Nat.zero_add]
    exact World.cell?_alloc_new W _ _ _) 9 Tryz.hund9
  rw [this]
  unfold strOfNums
  simp
theorem candM_eq {S : List UInt8} {t a bits size h : Nat} (hs : size = csize bits) (hh : h = 8 * size - bits) : candM S t a bits = maskF h ((strmL S t a (cblk bits)).take size) := by
  unfold candM candL
  rw [hh, hs]
theorem att_bytes {L : List UInt8} {B : ByteArray} {size h xx : Nat} (h0 : 0 < B.size) (hs1 : 1 ≤ size) (hsB : size ≤ B.size) (hB : B.data.toList = L) (hx : xx = (B[0]'h0).toNat % 2 ^ (8 - h)) :
    ((⟨#[UInt8.ofNat xx]⟩ : ByteArray) ++ B.extract 1 size).data.toList = maskF h (L.take size) := by
  subst hB
  have hd := head_get h0
  cases hl : B.data.toList with
  | nil => rw [hl] at hd; simp at hd
  | cons c l =>
    rw [hl] at hd
    simp at hd
    obtain ⟨m, rfl⟩ : ∃ m, size = m + 1 := ⟨size - 1, by omega⟩
    simp [ByteArray.data_extract, hl, maskF, maskB, hx, ← hd]
set_option maxHeartbeats 2000000 in
set_option maxRecDepth 100000 in
theorem attempt_any (S : ByteArray) (t a bits : Nat) (w : World) (hS : S.size ≤ 1099511627776) (ht : t ≤ 4294967295) (ha : a ≤ 255) (hb : 0 < bits) (hb2 : bits ≤ 1024) :
    Calls Tryz.prog 45 #[.string S, .int .i64 t, .int .i64 a, .int .i64 bits] w fun e w' => e = .returned (.string (E (candN S.data.toList t a bits))) ∧ Below w.heap.size w w' := by
  obtain ⟨size, hsize⟩ : ∃ size, size = csize bits := ⟨_, rfl⟩
  have hs8 : ((bits : Int) + 7) / 8 = (size : Int) := by rw [hsize]; unfold csize; omega
  have hs1 : 1 ≤ size := by rw [hsize]; unfold csize; omega
  have hs2 : size ≤ 128 := by rw [hsize]; unfold csize; omega
  obtain ⟨h, hh⟩ : ∃ h, h = 8 * size - bits := ⟨_, rfl⟩
  have hh7 : h ≤ 7 := by rw [hh, hsize]; unfold csize; omega
  have hhi : 8 * (size : Int) - (bits : Int) = (h : Int) := by rw [hh, hsize]; unfold csize; omega
  have HSZ := Lib.hid hsize
  have HH := Lib.hid hh
  obtain ⟨x, hx⟩ : ∃ x : ByteArray, x = ⟨(Lib.decDigits t).toArray⟩ := ⟨_, rfl⟩
  obtain ⟨y, hy⟩ : ∃ y : ByteArray, y = ⟨(Lib.decDigits a).toArray⟩ := ⟨_, rfl⟩
  have sx : x.size ≤ 11 := by rw [hx]; exact dec_size (by omega)
  have sy : y.size ≤ 11 := by rw [hy]; exact dec_size (by omega)
  have c1 := fun w => decimal6_any t w (by omega)
  have c2 := fun w => decimal6_any a w (by omega)
  rw [show decB t = x from hx.symm] at c1
  rw [show decB a = y from hy.symm] at c2
  have C1 := Lib.hid c1
  have C2 := Lib.hid c2
  have HX := Lib.hid hx
  have HY := Lib.hid hy
  have HS := Lib.hid hS
  have HT := Lib.hid ht
  have HA := Lib.hid ha
  have HB0 := Lib.hid hb
  clear hsize hh hx hy c1 c2 hS ht ha hb
  go_enter Tryz.func45, Tryz.ntmps45
  go_wp2
  rw [hs8]
  clear hs8
  go_loopg [10, 11] 5 (fun y vs vb wr => AttR S.data.toList t a size w y vs vb wr)
  case atStart => exact ⟨0, ⟨#[]⟩, rfl, rfl, rfl, rfl, by omega, rfl, Below.refl _ _⟩
  case round =>
    obtain ⟨k, B, hk, rfl, rfl, hBs, hks, hB, hbel⟩ := hrel
    have HBel := Lib.hid hbel
    have HB := Lib.hid hB
    have HK := Lib.hid hk
    clear hbel hB hk
    have hk4 : k ≤ 4 := by omega
    by_cases hlt : 32 * k < size
    · have hlti : (B.size : Int) < (size : Int) := by omega
      obtain ⟨z, hz⟩ : ∃ z : ByteArray, z = ⟨(Lib.decDigits k).toArray⟩ := ⟨_, rfl⟩
      have sz : z.size ≤ 11 := by rw [hz]; exact dec_size (by omega)
      have c3 := fun w => decimal6_any k w (by omega)
      rw [show decB k = z from hz.symm] at c3
      have C3 := Lib.hid c3
      obtain ⟨M, hM⟩ : ∃ M : ByteArray, M = ⟨(blkL S.data.toList t a k).toArray⟩ := ⟨_, rfl⟩
      have hMs : M.size = 32 := by rw [hM]; exact blkL_len _ _ _ _
      have CM := Lib.hid (fun W => (show Calls Tryz.prog 64 #[.string S, .string (x ++ (⟨#[46]⟩ : ByteArray) ++ y ++ (⟨#[46]⟩ : ByteArray) ++ z)] W fun e w' => e = .returned (.string M) ∧ Below W.heap.size W w' by
        have h := rmac_any S (x ++ (⟨#[46]⟩ : ByteArray) ++ y ++ (⟨#[46]⟩ : ByteArray) ++ z) W HS.out (by simp only [ByteArray.size_append]; have : (⟨#[46]⟩ : ByteArray).size = 1 := rfl; omega)
        rw [show (⟨(macL S.data.toList (x ++ (⟨#[46]⟩ : ByteArray) ++ y ++ (⟨#[46]⟩ : ByteArray) ++ z).data.toList).toArray⟩ : ByteArray) = M by rw [lab_text HX.out HY.out hz, hM]; rfl] at h
        exact h))
      have HM := Lib.hid hM
      clear hz c3 hM
      go_wp2_with fail
      refine (C1.out _).mono ?_; rintro e w1 ⟨rfl, b1⟩
      have B1 := Lib.hid (bel_of HBel.out b1); clear b1
      go_wp2_with fail
      refine (C2.out _).mono ?_; rintro e w2 ⟨rfl, b2⟩
      have B2 := Lib.hid (bel_of B1.out b2); clear b2 B1
      go_wp2_with fail
      refine (C3.out _).mono ?_; rintro e w3 ⟨rfl, b3⟩
      have B3 := Lib.hid (bel_of B2.out b3); clear b3 B2
      go_wp2_with fail
      refine (CM.out _).mono ?_; rintro e w4 ⟨rfl, b4⟩
      have B4 := Lib.hid (bel_of B3.out b4); clear b4 B3
      go_wp2
      go_roundg (gk - 1)
      case measure => have := HK.out; omega
      case rel => exact ⟨k + 1, B ++ M, by have := HK.out; omega, by go_num, rfl, by rw [ByteArray.size_append]; omega, by omega, att_next HB.out HM.out, B4.out⟩
    · have hlti : ¬ (B.size : Int) < (size : Int) := by omega
      have h0 : 0 < B.size := by omega
      have hkb : k = cblk bits := by unfold cblk; rw [← HSZ.out]; omega
      obtain ⟨c0, hc0⟩ : ∃ c0 : Nat, c0 = (B[0]'h0).toNat := ⟨_, rfl⟩
      have hc256 : c0 < 256 := by rw [hc0]; exact UInt8.toNat_lt _
      have hix : ((B[0]'h0).toNat : Int) = (c0 : Int) := by rw [hc0]
      have HC0 := Lib.hid hc0
      clear hc0
      go_wp2
      go_loopg [12, 13] 7 (fun y vx vi w' => AttM c0 h y vx vi w w')
      case atStart => exact ⟨7, rfl, rfl, by omega, by omega, by rw [Nat.mod_eq_of_lt (by omega)], HBel.out⟩
      case round =>
        obtain ⟨i, rfl, rfl, hi7, hih, rfl, hbel⟩ := hrel
        have HB2 := Lib.hid hbel; clear hbel
        by_cases hge : 8 ≤ i + h
        · have hle : 8 - (h : Int) ≤ (i : Int) := by omega
          obtain ⟨XX, Q, DD, HXX, hx0, hx256, hw1, hw3, hcase⟩ := att_step hc256 hi7
          rw [HXX.out]
          have hi1 : 1 ≤ i := by omega
          rcases hcase with ⟨hQx, HL⟩ | ⟨hQx, HL⟩
          · go_wp2
            go_roundg (i - 1)
            case measure => omega
            case rel => exact ⟨i - 1, rfl, att_pred hi1, by omega, by omega, by rw [att_up hi1, HL.out], HB2.out⟩
          · go_wp2
            go_roundg (i - 1)
            case measure => omega
            case rel => exact ⟨i - 1, rfl, att_pred hi1, by omega, by omega, by rw [att_up hi1, HL.out], HB2.out⟩
        · have hle : ¬ 8 - (h : Int) ≤ (i : Int) := by omega
          have hi1 : i + 1 = 8 - h := by omega
          obtain ⟨xx, hxx⟩ : ∃ xx, xx = c0 % 2 ^ (i + 1) := ⟨_, rfl⟩
          rw [← hxx]
          have hx256 : xx < 256 := by rw [hxx]; exact Nat.lt_of_le_of_lt (Nat.mod_le _ _) hc256
          have hsB : size ≤ B.size := by omega
          have HF := Lib.hid (show E (bval ((⟨#[UInt8.ofNat xx]⟩ : ByteArray) ++ B.extract 1 size).data.toList) = E (candN S.data.toList t a bits) by
            unfold candN
            rw [att_bytes h0 hs1 hsB HB.out (by rw [hxx, hi1, HC0.out]), hkb, ← candM_eq HSZ.out HH.out])
          have hcv := one_byteS wr xx
          have hcv2 : (convert 69 9 (.slice (some ⟨wr.heap.size, 0, none⟩) 1 1)).run Tryz.prog (wr.alloc (.cells #[.int .u8 (xx : Int)] 5)).drew = .ok (.string ⟨#[UInt8.ofNat xx]⟩) (wr.alloc (.cells #[.int .u8 (xx : Int)] 5)).drew := one_byteS wr.drew xx
          have CC := Lib.hid (fun W => canonical_any ((⟨#[UInt8.ofNat xx]⟩ : ByteArray) ++ B.extract 1 size) W (by rw [ByteArray.size_append, ByteArray.size_extract]; have : (⟨#[UInt8.ofNat xx]⟩ : ByteArray).size = 1 := rfl; omega))
          have hsz1 : (1 : Int) ≤ (size : Int) := by omega
          have hw8 : IntKind.u8.wrap (xx : Int) = (xx : Int) := IntWalk.u8_in _ (by omega)
          have hxs : ((⟨#[UInt8.ofNat xx]⟩ : ByteArray)).size = 1 := rfl
          clear hxx hi1
          obtain ⟨Y, hY⟩ : ∃ Y : ByteArray, Y = (⟨#[UInt8.ofNat xx]⟩ : ByteArray) := ⟨_, rfl⟩
          rw [← hY] at HF hcv hcv2 CC hxs
          obtain ⟨r, hr⟩ : ∃ r : ByteArray, r = E (bval (Y ++ B.extract 1 size).data.toList) := ⟨_, rfl⟩
          rw [← hr] at HF CC
          clear hY hr C1 C2 HX HY HT HA HK HS sx sy
          go_wp2_with fail
          go_region_with (first | (go_at_call 66; refine (CC.out _).mono ?_; rintro e wx ⟨rfl, rfl⟩))
          all_goals go_wp2
          all_goals go_ret
          all_goals exact ⟨by rw [← HF.out]; rfl, (HB2.out.drew).alloc (by exact HB2.out.size) _⟩
end Go.Proofs.YtehbbghobagkjaaGreatDoor


/-
  The reference of package coins, the eighth part: draw.
-/
namespace Go.Proofs.YtehbbghobagkjaaGreatDoor
open Go.RowKit Go.Deep
set_option linter.unusedVariables false

/-- The three boxes of draw, new. -/
def DrB (w : World) (v : Value) (S : ByteArray) (t t1 : Value) (W : World) : Prop :=
  Below w.heap.size w W ∧ Three W w.heap.size v (.string S) t ∧ Three W (w.heap.size + 1) (.slice none 0 0) (.string ⟨#[]⟩) (.int .i64 0) ∧ Three W (w.heap.size + 1 + 1) (.slice none 0 0) (.string S) t1
theorem dr_boxes (w : World) (v : Value) (S : ByteArray) (t t1 : Value) (T1 T2 T3 : TypeId) : DrB w v S t t1 (((w.alloc (.cells #[v, .string S, t] T1)).alloc (.cells #[.slice none 0 0, .string ⟨#[]⟩, .int .i64 0] T2)).alloc (.cells #[.slice none 0 0, .string S, t1] T3)) := by
  have b0 : Below w.heap.size w (w.alloc (.cells #[v, .string S, t] T1)) := (Below.refl _ _).alloc (Nat.le_refl _) _
  have b1 := b0.alloc b0.size (.cells #[.slice none 0 0, .string ⟨#[]⟩, .int .i64 0] T2)
  have b2 := b1.alloc b1.size (.cells #[.slice none 0 0, .string S, t1] T3)
  have e0 := ((Three.new w v (.string S) t T1 _ rfl).alloc (.cells #[.slice none 0 0, .string ⟨#[]⟩, .int .i64 0] T2)).alloc (.cells #[.slice none 0 0, .string S, t1] T3)
  have e1 := (Three.new (w.alloc (.cells #[v, .string S, t] T1)) (.slice none 0 0) (.string ⟨#[]⟩) (.int .i64 0) T2 _ rfl).alloc (.cells #[.slice none 0 0, .string S, t1] T3)
  have e2 := Three.new ((w.alloc (.cells #[v, .string S, t] T1)).alloc (.cells #[.slice none 0 0, .string ⟨#[]⟩, .int .i64 0] T2)) (.slice none 0 0) (.string S) t1 T3 _ rfl
  simp only [World.size_alloc] at e1 e2
  exact ⟨b2, e0, e1, e2⟩
/-- What draw knows behind its append. -/
def DrS (w : World) (k : Nat) (f : Nat → ByteArray) (v : Value) (q : Option Addr) (c : Nat) (S : ByteArray) (t t1 : Value) (W : World) : Prop :=
  Below w.heap.size w W ∧ Three W w.heap.size v (.string S) t ∧ Three W (w.heap.size + 1) (.slice none 0 0) (.string ⟨#[]⟩) (.int .i64 0) ∧ Three W (w.heap.size + 1 + 1) (.slice q k c) (.string S) t1 ∧ SV W v k f ∧ SV W (.slice q k c) k f ∧ NewV (w.heap.size + 1 + 1 + 1) (.slice q k c)
theorem Three.put0 {w : World} {b : Nat} {c0 c1 c2 : Value} (h : Three w b c0 c1 c2) (z : Value) : Three (w.setCell ⟨b, 0, none⟩ z) b z c1 c2 := by
  obtain ⟨q0, q1, q2, q3, q4, q5, q6⟩ := h
  refine ⟨?_, ?_, ?_, ?_, ?_, ?_, ?_⟩ <;> simp [go_sem, q0, q1, q2, q3, q4, q5, q6]
theorem Three.put0_far {w : World} {b g : Nat} {c0 c1 c2 : Value} (h : Three w g c0 c1 c2) (hne : b ≠ g) (z : Value) : Three (w.setCell ⟨b, 0, none⟩ z) g c0 c1 c2 := by
  obtain ⟨q0, q1, q2, q3, q4, q5, q6⟩ := h
  refine ⟨?_, ?_, ?_, ?_, ?_, ?_, ?_⟩
  · rw [World.cell?_setCell_far _ _ _ _ hne]; exact q0
  · rw [World.cell?_setCell_far _ _ _ _ hne]; exact q1
  · rw [World.cell?_setCell_far _ _ _ _ hne]; exact q2
  · simp [go_sem, q3]
  · simp [go_sem, q4]
  · simp [go_sem, q5]
  · rw [World.size_setCell]; exact q6
/-- A list that lay in memory before a block was made. -/
theorem SV.under {w W : World} {v : Value} {k b : Nat} {f : Nat → ByteArray} (h : SV w v k f) (hb : w.heap.size ≤ b) (b2 : Below w.heap.size w W) (x : Value) : SV (W.setCell ⟨b, 0, none⟩ x) v k f :=
  h.below (b2.setCell (p := ⟨b, 0, none⟩) hb x)
theorem drs_new {w W w2 : World} {k : Nat} {f : Nat → ByteArray} {p q : Option Addr} {cap c2 : Nat} {S : ByteArray} {t t1 : Value} (h : DrB w (.slice p k cap) S t t1 W) (b2 : Below W.heap.size W w2) (hV : SV w2 (.slice p k cap) k f) (hV2 : SV w2 (.slice q k c2) k f) (hn : NewV W.heap.size (.slice q k c2))
    (hV0 : SV w (.slice p k cap) k f) : DrS w k f (.slice p k cap) q c2 S t t1 (w2.setCell ⟨w.heap.size + 1 + 1, 0, none⟩ (.slice q k c2)) := by
  obtain ⟨hb, h1, h2, h3⟩ := h
  have hlt : w.heap.size + 1 + 1 < W.heap.size := h3.2.2.2.2.2.2
  refine ⟨(bel_of hb b2).setCell (p := ⟨w.heap.size + 1 + 1, 0, none⟩) (by show w.heap.size ≤ w.heap.size + 1 + 1; omega) _, (h1.below b2 rfl).put0_far (by omega) _, (h2.below b2 rfl).put0_far (by omega) _, (h3.below b2 rfl).put0 _, hV0.under (by omega) (bel_of hb b2) _, hV2.far (hn.ne hlt) rfl _, ?_⟩
  rcases hn with e | ⟨g, k', c, e, hg⟩
  · exact .inl e
  · exact .inr ⟨g, k', c, e, by omega⟩
theorem kc_far {w : World} {b : Nat} {a : Addr} {t : Nat} {v : Value} (hne : a.block ≠ b) (h : w.cell? (a.add t) = some v) (x : Value) : (w.setCell ⟨b, 0, none⟩ x).cell? (a.add t) = some v := by
  rw [World.cell?_setCell_far _ _ _ _ (by rw [add_blk]; exact Ne.symm hne)]; exact h
theorem DrS.next {w W V : World} {k : Nat} {f : Nat → ByteArray} {v : Value} {q : Option Addr} {c : Nat} {S : ByteArray} {t t1 : Value} (h : DrS w k f v q c S t t1 W) (b : Below W.heap.size W V) : DrS w k f v q c S t t1 V := by
  obtain ⟨h0, h1, h2, h3, h4, h5, h6⟩ := h
  exact ⟨bel_of h0 b, h1.below b rfl, h2.below b rfl, h3.below b rfl, h4.below b, h5.below b, h6⟩
theorem DrS.drawn {w W : World} {k : Nat} {f : Nat → ByteArray} {v : Value} {q : Option Addr} {c : Nat} {S : ByteArray} {t t1 : Value} (h : DrS w k f v q c S t t1 W) (m : Nat) : DrS w k f v q c S t t1 (W.drewN m) := by
  obtain ⟨h0, h1, h2, h3, h4, h5, h6⟩ := h
  exact ⟨bel_drewq h0 m, h1, h2, h3, h4, h5, h6⟩
theorem DrS.refuse {w W : World} {k : Nat} {f : Nat → ByteArray} {v : Value} {q : Option Addr} {c : Nat} {S : ByteArray} {t t1 : Value} (h : DrS w k f v q c S t t1 W) :
    Below w.heap.size w (((W.setCell ⟨w.heap.size + 1, 0, none⟩ (.slice none 0 0)).setCell ⟨w.heap.size + 1, 1, none⟩ (.string ⟨#[]⟩)).setCell ⟨w.heap.size + 1, 2, none⟩ (.int .i64 0)) ∧
      Three (((W.setCell ⟨w.heap.size + 1, 0, none⟩ (.slice none 0 0)).setCell ⟨w.heap.size + 1, 1, none⟩ (.string ⟨#[]⟩)).setCell ⟨w.heap.size + 1, 2, none⟩ (.int .i64 0)) (w.heap.size + 1) (.slice none 0 0) (.string ⟨#[]⟩) (.int .i64 0) :=
  ⟨Below.set3 h.1 (Nat.le_succ _) _ _ _, Three.set3 h.2.2.1 _ _ _⟩
theorem DrS.accept {w W : World} {k : Nat} {f : Nat → ByteArray} {v : Value} {q : Option Addr} {c : Nat} {S : ByteArray} {t t1 : Value} (h : DrS w k f v q c S t t1 W) :
    Below w.heap.size w (((W.setCell ⟨w.heap.size + 1, 0, none⟩ (.slice q k c)).setCell ⟨w.heap.size + 1, 1, none⟩ (.string S)).setCell ⟨w.heap.size + 1, 2, none⟩ t1) ∧
      SV (((W.setCell ⟨w.heap.size + 1, 0, none⟩ (.slice q k c)).setCell ⟨w.heap.size + 1, 1, none⟩ (.string S)).setCell ⟨w.heap.size + 1, 2, none⟩ t1) (.slice q k c) k f ∧
      Three (((W.setCell ⟨w.heap.size + 1, 0, none⟩ (.slice q k c)).setCell ⟨w.heap.size + 1, 1, none⟩ (.string S)).setCell ⟨w.heap.size + 1, 2, none⟩ t1) (w.heap.size + 1) (.slice q k c) (.string S) t1 :=
  ⟨Below.set3 h.1 (Nat.le_succ _) _ _ _, ((h.2.2.2.2.2.1.far (h.2.2.2.2.2.2.ne (b := w.heap.size + 1) (by omega)) rfl _).far (h.2.2.2.2.2.2.ne (b := w.heap.size + 1) (by omega)) rfl _).far (h.2.2.2.2.2.2.ne (b := w.heap.size + 1) (by omega)) rfl _, Three.set3 h.2.2.1 _ _ _⟩
/-- What the reference's draw answers. -/
def RDrawOk (x : ByteArray) (k : Nat) (f : Nat → ByteArray) (S : ByteArray) (t : Int) (w : World) (e : Ending) (w' : World) : Prop :=
  ∃ (q : Option Addr) (c : Nat), e = .returned (.tuple #[.string x, .agg #[.slice q k c, .string S, .int .i64 t], .int .i64 0]) ∧ SV w' (.slice q k c) k f ∧ NewV w.heap.size (.slice q k c) ∧ Below w.heap.size w w'
theorem newv_low {B C : Nat} {v : Value} (h : NewV B v) (hc : C ≤ B) : NewV C v := by
  rcases h with e | ⟨g, k', c, e, hg⟩
  · exact .inl e
  · exact .inr ⟨g, k', c, e, by omega⟩

set_option maxHeartbeats 4000000 in
set_option maxRecDepth 100000 in
theorem draw_no (v : Value) (k : Nat) (f : Nat → ByteArray) (S : ByteArray) (t : Nat) (n : ByteArray) (w : World) (hv : SV w v k f) (hk : k ≤ 1099511627776) (hwf : WF k f t) (hn : Can n) (hn0 : 0 < n.size) (hS : S.size ≤ 1099511627776) (hlt : t < k) (hcmp : ¬ V (f t) < V n) :
    Calls Tryz.prog 26 #[.agg #[v, .string S, .int .i64 t], .string n] w fun e w' => NoTape 2 w e w' := by
  obtain ⟨t1, ht1⟩ : ∃ t1 : Int, t1 = ((t + 1 : Nat) : Int) := ⟨_, rfl⟩
  have ht : t ≤ 2147483647 := by have := hwf.2.2; omega
  have hw1 : IntKind.i64.wrap ((t : Int) + 1) = t1 := by rw [ht1, IntWalk.i64_in _ (by omega)]; omega
  have HD0 := Lib.hid (dr_boxes w v S (.int .i64 t) (.int .i64 t1) 24 24 24)
  have HV := Lib.hid hv
  have HVB := Lib.hid (hv.below HD0.out.1)
  have HK := Lib.hid hk
  have HCN := Lib.hid hn
  have HN0 := Lib.hid hn0
  have HS := Lib.hid hS
  have HWF := Lib.hid hwf
  have HT := Lib.hid ht
  obtain ⟨p, cap, rfl, -⟩ := hv
  obtain ⟨q0, q1, q2, q3, q4, q5, q6⟩ := HD0.out.2.1
  clear hwf hn hn0 hS hk ht ht1
  have hkn : (t : Int) < (k : Int) := by omega
  obtain ⟨p', cap', e', hc2⟩ := HV.out
  obtain ⟨rfl, rfl⟩ : p = p' ∧ cap = cap' := by cases e'; exact ⟨rfl, rfl⟩
  obtain ⟨a, rfl, ha, hcell⟩ := hc2 t hlt
  obtain ⟨x, hx⟩ : ∃ x, x = f t := ⟨_, rfl⟩
  have hcx : Can x := by rw [hx]; exact HWF.out.1 t hlt
  rw [← hx] at hcell hcmp
  have HCX := Lib.hid hcx
  have HXX := Lib.hid hx
  have HC := Lib.hid hcell
  have HA := Lib.hid ha
  clear hc2 e' hx hcx hcell ha hlt
  have hsg : ∃ y : Int, y = sgn (V x) (V n) ∧ 0 ≤ y := ⟨_, rfl, sgn_ge hcmp⟩
  obtain ⟨y, hy, hy0⟩ := hsg
  have CC := Lib.hid (fun W => (show Calls Tryz.prog 44 #[.string x, .string n] W fun e w' => e = .returned (.int .i64 y) ∧ ∃ q, W.drewN q = w' by rw [hy]; exact rcmp_yes x n W HCX.out HCN.out))
  have hy1 : ¬ y < 0 := by omega
  clear hcmp hy
  go_enter Tryz.func26, Tryz.ntmps26
  go_wp2_with (at_builtin; go_must (refine wpList_append_sv rfl _ _ rfl rfl _ k f rfl HVB.out HK.out ?_; intro q c2 w2 hV2 b2 hn2; have HD := Lib.hid (drs_new (c2 := c2) (q := q) HD0.out b2 (HVB.out.below b2) hV2 hn2 HV.out); clear q0 q1 q2 q3 q4 q5 q6; obtain ⟨q0, q1, q2, q3, q4, q5, q6⟩ := HD0.out.2.1.below b2 rfl; obtain ⟨r0, r1, r2, r3, r4, r5, r6⟩ := HD0.out.2.2.1.below b2 rfl; obtain ⟨s0, s1, s2, s3, s4, s5, s6⟩ := HD0.out.2.2.2.below b2 rfl; have hcell := kc6 b2 (kc6 HD0.out.1 HC.out); have hlow : a.block ≠ w.heap.size + 1 + 1 := (by have := HA.out; omega); have HCL := Lib.hid (kc_far hlow hcell (.slice q k c2)); have hcell2 := HCL.out; clear hV2 b2 hn2 hlow))
  have hd := HD.out
  clear HD
  have hcl := HCL.out
  clear HCL hcell hcell2
  clear q0 q1 q2 q3 q4 q5 q6 r0 r1 r2 r3 r4 r5 r6 s0 s1 s2 s3 s4 s5 s6
  generalize World.setCell _ _ _ = W3 at hd hcl ⊢
  refine (CC.out _).mono ?_; rintro e wx ⟨rfl, m, rfl⟩
  have HD := Lib.hid (hd.drawn m)
  clear hd hcl
  obtain ⟨r0, r1, r2, r3, r4, r5, r6⟩ := HD.out.2.2.1
  go_wp2
  have he := HD.out.refuse
  have he2 := he
  clear HD
  generalize World.setCell _ _ _ = W9 at he2 ⊢
  obtain ⟨h2, m0, m1, m2, m3, m4, m5, m6⟩ := he2
  exact bodyPost_ret (v := .tuple #[.string ⟨#[]⟩, .agg #[.slice none 0 0, .string ⟨#[]⟩, .int .i64 0], .int .i64 2]) (by simp [results, Tryz.results26, go_sem, m0, m1, m2]) rfl ⟨rfl, h2⟩
set_option maxHeartbeats 4000000 in
set_option maxRecDepth 100000 in
theorem draw_yes (v : Value) (k : Nat) (f : Nat → ByteArray) (S : ByteArray) (t : Nat) (n : ByteArray) (w : World) (hv : SV w v k f) (hk : k ≤ 1099511627776) (hwf : WF k f t) (hn : Can n) (hn0 : 0 < n.size) (hS : S.size ≤ 1099511627776) (hlt : t < k) (hcmp : V (f t) < V n) :
    Calls Tryz.prog 26 #[.agg #[v, .string S, .int .i64 t], .string n] w fun e w' => RDrawOk (f t) k f S ((t + 1 : Nat) : Int) w e w' := by
  obtain ⟨t1, ht1⟩ : ∃ t1 : Int, t1 = ((t + 1 : Nat) : Int) := ⟨_, rfl⟩
  have ht : t ≤ 2147483647 := by have := hwf.2.2; omega
  have hw1 : IntKind.i64.wrap ((t : Int) + 1) = t1 := by rw [ht1, IntWalk.i64_in _ (by omega)]; omega
  rw [← ht1]
  have HD0 := Lib.hid (dr_boxes w v S (.int .i64 t) (.int .i64 t1) 24 24 24)
  have HV := Lib.hid hv
  have HVB := Lib.hid (hv.below HD0.out.1)
  have HK := Lib.hid hk
  have HCN := Lib.hid hn
  have HN0 := Lib.hid hn0
  have HS := Lib.hid hS
  have HWF := Lib.hid hwf
  have HT := Lib.hid ht
  obtain ⟨p, cap, rfl, -⟩ := hv
  obtain ⟨q0, q1, q2, q3, q4, q5, q6⟩ := HD0.out.2.1
  clear hwf hn hn0 hS hk ht ht1
  have hkn : (t : Int) < (k : Int) := by omega
  obtain ⟨p', cap', e', hc2⟩ := HV.out
  obtain ⟨rfl, rfl⟩ : p = p' ∧ cap = cap' := by cases e'; exact ⟨rfl, rfl⟩
  obtain ⟨a, rfl, ha, hcell⟩ := hc2 t hlt
  obtain ⟨x, hx⟩ : ∃ x, x = f t := ⟨_, rfl⟩
  have hcx : Can x := by rw [hx]; exact HWF.out.1 t hlt
  rw [← hx] at hcell hcmp ⊢
  have HCX := Lib.hid hcx
  have HXX := Lib.hid hx
  have HC := Lib.hid hcell
  have HA := Lib.hid ha
  clear hc2 e' hx hcx hcell ha hlt
  have CC := Lib.hid (fun W => (show Calls Tryz.prog 44 #[.string x, .string n] W fun e w' => e = .returned (.int .i64 (-1)) ∧ ∃ q, W.drewN q = w' by rw [← sgn_lt0 hcmp]; exact rcmp_yes x n W HCX.out HCN.out))
  clear hcmp
  go_enter Tryz.func26, Tryz.ntmps26
  go_wp2_with (at_builtin; go_must (refine wpList_append_sv rfl _ _ rfl rfl _ k f rfl HVB.out HK.out ?_; intro q c2 w2 hV2 b2 hn2; have HD := Lib.hid (drs_new (c2 := c2) (q := q) HD0.out b2 (HVB.out.below b2) hV2 hn2 HV.out); clear q0 q1 q2 q3 q4 q5 q6; obtain ⟨q0, q1, q2, q3, q4, q5, q6⟩ := HD0.out.2.1.below b2 rfl; obtain ⟨r0, r1, r2, r3, r4, r5, r6⟩ := HD0.out.2.2.1.below b2 rfl; obtain ⟨s0, s1, s2, s3, s4, s5, s6⟩ := HD0.out.2.2.2.below b2 rfl; have hcell := kc6 b2 (kc6 HD0.out.1 HC.out); have hlow : a.block ≠ w.heap.size + 1 + 1 := (by have := HA.out; omega); have HCL := Lib.hid (kc_far hlow hcell (.slice q k c2)); have hcell2 := HCL.out; clear hV2 b2 hn2 hlow))
  have hd := HD.out
  clear HD
  have hcl := HCL.out
  clear HCL hcell hcell2
  clear q0 q1 q2 q3 q4 q5 q6 r0 r1 r2 r3 r4 r5 r6 s0 s1 s2 s3 s4 s5 s6
  generalize World.setCell _ _ _ = W3 at hd hcl ⊢
  refine (CC.out _).mono ?_; rintro e wx ⟨rfl, m, rfl⟩
  have HD := Lib.hid (hd.drawn (m + 1))
  obtain ⟨q0, q1, q2, q3, q4, q5, q6⟩ := hd.2.1
  obtain ⟨r0, r1, r2, r3, r4, r5, r6⟩ := hd.2.2.1
  obtain ⟨s0, s1, s2, s3, s4, s5, s6⟩ := hd.2.2.2.1
  clear hd
  have he := HD.out.accept
  have HE := Lib.hid he
  have HNV := Lib.hid (newv_low HD.out.2.2.2.2.2.2 (show w.heap.size ≤ w.heap.size + 1 + 1 + 1 by omega))
  clear he
  go_wp2_with fail
  go_region
  clear q0 q1 q2 q3 q4 q5 q6 r0 r1 r2 r3 r4 r5 r6 s0 s1 s2 s3 s4 s5 s6 hcl
  go_wp2
  have he := HE.out
  clear HE
  generalize World.setCell _ _ _ = W9 at he ⊢
  obtain ⟨h2, h3, m0, m1, m2, -⟩ := he
  exact bodyPost_ret (v := .tuple #[.string x, .agg #[.slice q k c2, .string S, .int .i64 t1], .int .i64 0]) (by simp [results, Tryz.results26, go_sem, m0, m1, m2]) rfl ⟨_, _, rfl, h3, HNV.out, h2⟩
set_option maxHeartbeats 4000000 in
set_option maxRecDepth 100000 in
theorem draw_none (v : Value) (k : Nat) (f : Nat → ByteArray) (S : ByteArray) (t : Nat) (n : ByteArray) (w : World) (hv : SV w v k f) (hk : k ≤ 1099511627776) (hwf : WF k f t) (hn : Can n) (hn0 : 0 < n.size) (hS : S.size ≤ 1099511627776) (hlt : ¬ t < k) (hs : t = 2147483647 ∨ S.size = 0) :
    Calls Tryz.prog 26 #[.agg #[v, .string S, .int .i64 t], .string n] w fun e w' => NoTape 14 w e w' := by
  obtain ⟨t1, ht1⟩ : ∃ t1 : Int, t1 = ((t + 1 : Nat) : Int) := ⟨_, rfl⟩
  have ht : t ≤ 2147483647 := by have := hwf.2.2; omega
  have hw1 : IntKind.i64.wrap ((t : Int) + 1) = t1 := by rw [ht1, IntWalk.i64_in _ (by omega)]; omega
  have HD0 := Lib.hid (dr_boxes w v S (.int .i64 t) (.int .i64 t1) 24 24 24)
  have HV := Lib.hid hv
  have HVB := Lib.hid (hv.below HD0.out.1)
  have HK := Lib.hid hk
  have HCN := Lib.hid hn
  have HN0 := Lib.hid hn0
  have HS := Lib.hid hS
  have HWF := Lib.hid hwf
  have HT := Lib.hid ht
  obtain ⟨p, cap, rfl, -⟩ := hv
  obtain ⟨q0, q1, q2, q3, q4, q5, q6⟩ := HD0.out.2.1
  clear hwf hn hn0 hS hk ht ht1
  have hkn : ¬ (t : Int) < (k : Int) := by omega
  have hkn2 : ¬ t < k := hlt
  by_cases hs0 : S.size = 0
  · have hE := empty_of hs0
    clear hs
    go_enter Tryz.func26, Tryz.ntmps26
    go_wp2_with (at_builtin; go_must (refine wpList_append_sv rfl _ _ rfl rfl _ k f rfl HVB.out HK.out ?_; intro q c2 w2 hV2 b2 hn2; have HD := Lib.hid (drs_new (c2 := c2) (q := q) HD0.out b2 (HVB.out.below b2) hV2 hn2 HV.out); clear q0 q1 q2 q3 q4 q5 q6; obtain ⟨q0, q1, q2, q3, q4, q5, q6⟩ := HD0.out.2.1.below b2 rfl; obtain ⟨r0, r1, r2, r3, r4, r5, r6⟩ := HD0.out.2.2.1.below b2 rfl; obtain ⟨s0, s1, s2, s3, s4, s5, s6⟩ := HD0.out.2.2.2.below b2 rfl; clear hV2 b2 hn2))
    have he := HD.out.refuse
    have he2 := he
    clear HD
    generalize World.setCell _ _ _ = W9 at he2 ⊢
    obtain ⟨h2, m0, m1, m2, m3, m4, m5, m6⟩ := he2
    exact bodyPost_ret (v := .tuple #[.string ⟨#[]⟩, .agg #[.slice none 0 0, .string ⟨#[]⟩, .int .i64 0], .int .i64 14]) (by simp [results, Tryz.results26, go_sem, m0, m1, m2]) rfl ⟨rfl, h2⟩
  · have hE := not_empty_of hs0
    have hei : ((t : Int) == 2147483647) = true := by rcases hs with h | h; rw [h]; rfl; exact absurd h hs0
    clear hs
    go_enter Tryz.func26, Tryz.ntmps26
    go_wp2_with (at_builtin; go_must (refine wpList_append_sv rfl _ _ rfl rfl _ k f rfl HVB.out HK.out ?_; intro q c2 w2 hV2 b2 hn2; have HD := Lib.hid (drs_new (c2 := c2) (q := q) HD0.out b2 (HVB.out.below b2) hV2 hn2 HV.out); clear q0 q1 q2 q3 q4 q5 q6; obtain ⟨q0, q1, q2, q3, q4, q5, q6⟩ := HD0.out.2.1.below b2 rfl; obtain ⟨r0, r1, r2, r3, r4, r5, r6⟩ := HD0.out.2.2.1.below b2 rfl; obtain ⟨s0, s1, s2, s3, s4, s5, s6⟩ := HD0.out.2.2.2.below b2 rfl; clear hV2 b2 hn2))
    have he := HD.out.refuse
    have he2 := he
    clear HD
    generalize World.setCell _ _ _ = W9 at he2 ⊢
    obtain ⟨h2, m0, m1, m2, m3, m4, m5, m6⟩ := he2
    exact bodyPost_ret (v := .tuple #[.string ⟨#[]⟩, .agg #[.slice none 0 0, .string ⟨#[]⟩, .int .i64 0], .int .i64 14]) (by simp [results, Tryz.results26, go_sem, m0, m1, m2]) rfl ⟨rfl, h2⟩
/-- What the loop of draw knows. -/
def DrL (w : World) (k : Nat) (f : Nat → ByteArray) (v : Value) (q : Option Addr) (c : Nat) (S n : ByteArray) (t : Nat) (t1 : Value) (y : Nat) (vi : Value) (W : World) : Prop :=
  ∃ a : Nat, a + y = 256 ∧ vi = .int .i64 a ∧ (∀ j, j < a → ¬ candN S.data.toList t j (nbits (V n)) < V n) ∧ DrS w k f v q c S (.int .i64 t) t1 W
theorem dr_last {w W : World} {A B : Prop} {k : Nat} {f : Nat → ByteArray} {v : Value} {q : Option Addr} {c : Nat} {S : ByteArray} {t t1 : Value} (h : A ∧ B ∧ DrS w k f v q c S t t1 W) : DrS w k f v q c S t t1 W := h.2.2
theorem drs_cells {w W : World} {k : Nat} {f : Nat → ByteArray} {v : Value} {q : Option Addr} {c : Nat} {S : ByteArray} {t t1 : Value} (h : DrS w k f v q c S t t1 W) : W.cell? ⟨w.heap.size, 1, none⟩ = some (.string S) ∧ W.cell? ⟨w.heap.size, 2, none⟩ = some t ∧ DrS w k f v q c S t t1 W := ⟨h.2.1.2.1, h.2.1.2.2.1, h⟩
set_option maxHeartbeats 4000000 in
set_option maxRecDepth 100000 in
theorem draw_seed (v : Value) (k : Nat) (f : Nat → ByteArray) (S : ByteArray) (t : Nat) (n : ByteArray) (w : World) (hv : SV w v k f) (hk : k ≤ 1099511627776) (hwf : WF k f t) (hn : Can n) (hn0 : 0 < n.size) (hS : S.size ≤ 1099511627776) (hlt : ¬ t < k) (hs : ¬ t = 2147483647) (hS0 : S.size ≠ 0) :
    Calls Tryz.prog 26 #[.agg #[v, .string S, .int .i64 t], .string n] w fun e w' => (∀ x, firstN S.data.toList t (V n) 0 256 = some x → RDrawOk (E x) k f S ((t + 1 : Nat) : Int) w e w') ∧ (firstN S.data.toList t (V n) 0 256 = none → NoTape 14 w e w') := by
  obtain ⟨t1, ht1⟩ : ∃ t1 : Int, t1 = ((t + 1 : Nat) : Int) := ⟨_, rfl⟩
  have ht : t ≤ 2147483647 := by have := hwf.2.2; omega
  have hw1 : IntKind.i64.wrap ((t : Int) + 1) = t1 := by rw [ht1, IntWalk.i64_in _ (by omega)]; omega
  rw [← ht1]
  have HD0 := Lib.hid (dr_boxes w v S (.int .i64 t) (.int .i64 t1) 24 24 24)
  have HV := Lib.hid hv
  have HVB := Lib.hid (hv.below HD0.out.1)
  have HK := Lib.hid hk
  have HCN := Lib.hid hn
  have HN0 := Lib.hid hn0
  have HS := Lib.hid hS
  have HWF := Lib.hid hwf
  have HT := Lib.hid ht
  obtain ⟨p, cap, rfl, -⟩ := hv
  obtain ⟨q0, q1, q2, q3, q4, q5, q6⟩ := HD0.out.2.1
  clear hwf hn hn0 hS hk ht ht1
  have hkn : ¬ (t : Int) < (k : Int) := by omega
  have hkn2 : ¬ t < k := hlt
  have hE := not_empty_of hS0
  have hei : ((t : Int) == 2147483647) = false := beq_eq_false_iff_ne.2 (by omega)
  clear hs hS0
  go_enter Tryz.func26, Tryz.ntmps26
  go_wp2_with (at_builtin; go_must (refine wpList_append_sv rfl _ _ rfl rfl _ k f rfl HVB.out HK.out ?_; intro q c2 w2 hV2 b2 hn2; have HD := Lib.hid (drs_new (c2 := c2) (q := q) HD0.out b2 (HVB.out.below b2) hV2 hn2 HV.out); clear q0 q1 q2 q3 q4 q5 q6; obtain ⟨q0, q1, q2, q3, q4, q5, q6⟩ := HD0.out.2.1.below b2 rfl; obtain ⟨r0, r1, r2, r3, r4, r5, r6⟩ := HD0.out.2.2.1.below b2 rfl; obtain ⟨s0, s1, s2, s3, s4, s5, s6⟩ := HD0.out.2.2.2.below b2 rfl; clear hV2 b2 hn2))
  have hd := HD.out
  clear HD
  clear q0 q1 q2 q3 q4 q5 q6 r0 r1 r2 r3 r4 r5 r6 s0 s1 s2 s3 s4 s5 s6
  generalize World.setCell _ _ _ = W3 at hd ⊢
  have HD := Lib.hid hd
  clear hd
  go_loopg [8] 256 (fun y vi W => DrL w k f (.slice p k cap) q c2 S n t (.int .i64 t1) y vi W)
  case atStart => exact ⟨0, rfl, rfl, fun j hj => absurd hj (by omega), HD.out⟩
  case round =>
    obtain ⟨a, hay, rfl, hna, hd⟩ := hrel
    have HAY := Lib.hid hay
    have HNA := Lib.hid hna
    have HR := Lib.hid hd
    clear hay hna hd HD
    by_cases hlt2 : a < 256
    · have hai : (a : Int) < 256 := by omega
      obtain ⟨bb, hbb⟩ : ∃ bb, bb = nbits (V n) := ⟨_, rfl⟩
      have hb0 : 0 < bb := by rw [hbb]; exact nbits_pos HCN.out HN0.out
      have hb1 : bb ≤ 1024 := by rw [hbb]; exact nb_lim HCN.out
      obtain ⟨cc, hcc⟩ : ∃ cc, cc = candN S.data.toList t a bb := ⟨_, rfl⟩
      have hcan : Can (E cc) := by rw [hcc]; exact cand_can _ _ _ _ hb1
      have CBi := Lib.hid (fun W => (show Calls Tryz.prog 46 #[.string n] W fun e w' => e = .returned (.int .i64 bb) ∧ W = w' by rw [hbb]; exact rbitsv_yes n W HCN.out))
      have CAt := Lib.hid (fun W => (show Calls Tryz.prog 45 #[.string S, .int .i64 t, .int .i64 a, .int .i64 bb] W fun e w' => e = .returned (.string (E cc)) ∧ Below W.heap.size W w' by rw [hcc]; exact attempt_any S t a bb W HS.out (by have := HT.out; omega) (by omega) hb0 hb1))
      have HCC := Lib.hid (show cc = candN S.data.toList t a (nbits (V n)) by rw [hcc, hbb])
      clear hbb hcc hb0 hb1
      obtain ⟨q1, q2, -⟩ := drs_cells HR.out
      have HRD := Lib.hid (drs_cells (HR.out.drawn 1))
      go_wp2_with fail
      go_region_held3 (fun W => W.cell? ⟨w.heap.size, 1, none⟩ = some (.string S) ∧ W.cell? ⟨w.heap.size, 2, none⟩ = some (.int .i64 (t : Int)) ∧ DrS w k f (.slice p k cap) q c2 S (.int .i64 t) (.int .i64 t1) W) (first | exact HRD.out | exact drs_cells (DrS.next (dr_last (by assumption)) b99))
        (first
        | (go_at_call 46; ((refine (CBi.out _).mono ?_); rintro e wx ⟨rfl, rfl⟩))
        | (go_at_call 45; ((refine (CAt.out _).mono ?_); rintro e w99 ⟨rfl, b99⟩)))
      rename_i W6 hS6
      have HR6 := Lib.hid (dr_last hS6)
      clear hS6 HRD q1 q2
      by_cases hcl : cc < V n
      · have CC := Lib.hid (fun W => (show Calls Tryz.prog 44 #[.string (E cc), .string n] W fun e w' => e = .returned (.int .i64 (-1)) ∧ ∃ q, W.drewN q = w' by
          have h := rcmp_yes (E cc) n W hcan HCN.out
          rw [V_E, sgn_lt0 hcl] at h
          exact h))
        have HF := Lib.hid (show firstN S.data.toList t (V n) 0 256 = some cc by
          have h := first_from S.data.toList t (V n) 256 0 a hlt2 (fun j hj => by rw [Nat.zero_add]; exact HNA.out j hj) (by rw [Nat.zero_add, ← HCC.out]; exact hcl)
          rw [Nat.zero_add, ← HCC.out] at h
          exact h)
        clear hcl
        go_wp2_with fail
        refine (CC.out _).mono ?_; rintro e wx ⟨rfl, m, rfl⟩
        have hd := HR6.out
        have HD := Lib.hid (hd.drawn (m + 1))
        obtain ⟨r0, r1, r2, r3, r4, r5, r6⟩ := hd.2.2.1
        obtain ⟨s0, s1, s2, s3, s4, s5, s6⟩ := hd.2.2.2.1
        clear hd
        have he := HD.out.accept
        have HE := Lib.hid he
        have HNV := Lib.hid (newv_low HD.out.2.2.2.2.2.2 (show w.heap.size ≤ w.heap.size + 1 + 1 + 1 by omega))
        clear he
        go_wp2_with fail
        go_region
        clear r0 r1 r2 r3 r4 r5 r6 s0 s1 s2 s3 s4 s5 s6
        go_wp2
        have he := HE.out
        clear HE
        generalize World.setCell _ _ _ = W9 at he ⊢
        obtain ⟨h2, h3, m0, m1, m2, -⟩ := he
        exact bodyPost_ret (v := .tuple #[.string (E cc), .agg #[.slice q k c2, .string S, .int .i64 t1], .int .i64 0]) (by simp [results, Tryz.results26, go_sem, m0, m1, m2]) rfl ⟨fun x hx => by rw [HF.out] at hx; obtain rfl := Option.some.inj hx; exact ⟨_, _, rfl, h3, HNV.out, h2⟩, fun hx => by rw [HF.out] at hx; cases hx⟩
      · have CC := Lib.hid (fun W => rcmp_yes (E cc) n W hcan HCN.out)
        obtain ⟨y, hy, hy0⟩ : ∃ y : Int, y = sgn (V (E cc)) (V n) ∧ 0 ≤ y := ⟨_, rfl, sgn_ge (by rw [V_E]; exact hcl)⟩
        rw [← hy] at CC
        have hy1 : ¬ y < 0 := by omega
        have HCL := Lib.hid hcl
        clear hcl hy
        go_wp2_with fail
        refine (CC.out _).mono ?_; rintro e wx ⟨rfl, m, rfl⟩
        go_wp2
        go_roundg (gk - 1)
        case measure => have := HAY.out; omega
        case rel => exact ⟨a + 1, by have := HAY.out; omega, by go_num, fun j hj => by
          by_cases hja : j = a
          · rw [hja, ← HCC.out]; exact HCL.out
          · exact HNA.out j (by omega), HR6.out.drawn m⟩
    · obtain rfl : a = 256 := by have := HAY.out; omega
      have HF := Lib.hid (show firstN S.data.toList t (V n) 0 256 = none from first_none S.data.toList t (V n) 256 0 (fun j hj => by rw [Nat.zero_add]; exact HNA.out j hj))
      have HD := Lib.hid HR.out
      obtain ⟨r0, r1, r2, r3, r4, r5, r6⟩ := HD.out.2.2.1
      go_wp2
      have he2 := HD.out.refuse
      clear HD
      generalize World.setCell _ _ _ = W9 at he2 ⊢
      obtain ⟨h2, m0, m1, m2, m3, m4, m5, m6⟩ := he2
      exact bodyPost_ret (v := .tuple #[.string ⟨#[]⟩, .agg #[.slice none 0 0, .string ⟨#[]⟩, .int .i64 0], .int .i64 14]) (by simp [results, Tryz.results26, go_sem, m0, m1, m2]) rfl ⟨fun x hx => (by rw [HF.out] at hx; cases hx), fun _ => ⟨rfl, h2⟩⟩
/-- What draw answers, by what the next coin is. -/
theorem draw_any (v : Value) (k : Nat) (f : Nat → ByteArray) (S : ByteArray) (t : Nat) (n : ByteArray) (w : World) (hv : SV w v k f) (hk : k ≤ 40) (hwf : WF k f t) (hn : Can n) (hn0 : 0 < n.size) (hS : S.size ≤ 1099511627776)
    {x : ByteArray} {c : Int} (h : nextV k f S t n = .tuple #[.string x, .int .i64 c]) :
    Calls Tryz.prog 26 #[.agg #[v, .string S, .int .i64 t], .string n] w fun e w' => (c = 0 → RDrawOk x k f S ((t + 1 : Nat) : Int) w e w') ∧ (c ≠ 0 → x = ⟨#[]⟩ ∧ NoTape c w e w') := by
  unfold nextV at h
  by_cases h1 : t < k
  · rw [if_pos h1] at h
    by_cases h2 : V (f t) < V n
    · rw [if_pos h2, if_neg (by omega)] at h
      simp at h
      obtain ⟨rfl, rfl⟩ := h
      exact (draw_yes v k f S t n w hv (by omega) hwf hn hn0 hS h1 h2).mono fun e w' hh => ⟨fun _ => hh, fun q => absurd rfl q⟩
    · rw [if_neg h2] at h
      simp at h
      obtain ⟨rfl, rfl⟩ := h
      exact (draw_no v k f S t n w hv (by omega) hwf hn hn0 hS h1 h2).mono fun e w' hh => ⟨fun q => by omega, fun _ => ⟨rfl, hh⟩⟩
  · rw [if_neg h1] at h
    by_cases h3 : t = 2147483647 ∨ S.size = 0
    · rw [if_pos h3] at h
      simp at h
      obtain ⟨rfl, rfl⟩ := h
      exact (draw_none v k f S t n w hv (by omega) hwf hn hn0 hS h1 h3).mono fun e w' hh => ⟨fun q => by omega, fun _ => ⟨rfl, hh⟩⟩
    · rw [if_neg h3] at h
      refine (draw_seed v k f S t n w hv (by omega) hwf hn hn0 hS h1 (fun q => h3 (.inl q)) (fun q => h3 (.inr q))).mono fun e w' hh => ?_
      cases hx : firstN S.data.toList t (V n) 0 256 with
      | none =>
        rw [hx] at h
        simp [FBv] at h
        obtain ⟨rfl, rfl⟩ := h
        exact ⟨fun q => by omega, fun _ => ⟨rfl, hh.2 hx⟩⟩
      | some y =>
        rw [hx] at h
        simp [FBv] at h
        obtain ⟨rfl, rfl⟩ := h
        exact ⟨fun _ => hh.1 y hx, fun q => absurd rfl q⟩
end Go.Proofs.YtehbbghobagkjaaGreatDoor


/-
  The reference of package coins, the ninth part: Below.
-/
namespace Go.Proofs.YtehbbghobagkjaaGreatDoor
open Go.RowKit Go.Deep
set_option linter.unusedVariables false

set_option maxHeartbeats 2000000 in
set_option maxRecDepth 100000 in
theorem rbelow_bad (v : Value) (k : Nat) (f : Nat → ByteArray) (S : ByteArray) (t : Int) (n : ByteArray) (w : World) (hv : SV w v k f) (hk : k ≤ 9223372036854775807) {c : Int} (h : ChkT k f t n c) (hc : c ≠ 0) :
    Calls Tryz.prog 9 #[.agg #[v, .string S, .int .i64 t], .string n] w fun e w' => NoTape c w e w' := by
  have b1 := box2_below w (.cells #[v, .string S, .int .i64 t] 24) (.cells #[.slice none 0 0, .string ⟨#[]⟩, .int .i64 0] 24)
  have HB := Lib.hid b1
  have HV := Lib.hid (hv.below b1)
  have HT1 := Lib.hid (box2_second w (.slice none 0 0) (.string ⟨#[]⟩) (.int .i64 0) 24 (.cells #[v, .string S, .int .i64 t] 24))
  have HT0 := Lib.hid (box2_first w v (.string S) (.int .i64 t) 24 (.cells #[.slice none 0 0, .string ⟨#[]⟩, .int .i64 0] 24))
  obtain ⟨p, cap, rfl, -⟩ := hv
  obtain ⟨q0, q1, q2, q3, q4, q5, q6⟩ := HT0.out
  clear b1
  rcases h with ⟨rfl, h⟩ | ⟨rfl, hw, hn, h0⟩ | ⟨rfl, -⟩
  · by_cases hw : WF k f t
    · have hn : ¬ Can n := fun q => h ⟨hw, q⟩
      have HW := Lib.hid hw
      have HN := Lib.hid hn
      clear h hw hn hc
      go_enter Tryz.func9, Tryz.ntmps9
      go_wp2_with fail
      refine (good_yes _ k f S t _ HV.out hk HW.out).mono ?_; rintro e w1 ⟨rfl, b1⟩
      have HB2 := Lib.hid (bel_of HB.out b1)
      have HT2 := Lib.hid (HT1.out.below b1 rfl)
      have HT02 := Lib.hid (HT0.out.below b1 rfl)
      clear b1 HB HT1 q0 q1 q2 q3 q4 q5 q6
      go_wp2_with fail
      refine (rvalid_no n _ HN.out).mono ?_; rintro e wx ⟨rfl, rfl⟩
      obtain ⟨s0, s1, s2, s3, s4, s5, s6⟩ := HT2.out
      have HE := Lib.hid (And.intro (Below.set3 (b := w.heap.size + 1) HB2.out (Nat.le_succ _) (.slice none 0 0) (.string ⟨#[]⟩) (.int .i64 0)) (Three.set3 HT2.out (.slice none 0 0) (.string ⟨#[]⟩) (.int .i64 0)))
      clear HB2 HT2
      go_wp2
      have he := HE.out
      clear HE
      generalize World.setCell _ _ _ = W3 at he ⊢
      obtain ⟨h2, m0, m1, m2, m3, m4, m5, m6⟩ := he
      exact bodyPost_ret (v := .tuple #[.string ⟨#[]⟩, .agg #[.slice none 0 0, .string ⟨#[]⟩, .int .i64 0], .int .i64 3]) (by simp [results, Tryz.results9, go_sem, m0, m1, m2]) rfl ⟨rfl, h2⟩
    · have HW := Lib.hid hw
      clear h hw hc
      go_enter Tryz.func9, Tryz.ntmps9
      go_wp2_with fail
      refine (good_no _ k f S t _ HV.out hk HW.out).mono ?_; rintro e w1 ⟨rfl, b1⟩
      have HB2 := Lib.hid (bel_of HB.out b1)
      have HT2 := Lib.hid (HT1.out.below b1 rfl)
      have HT02 := Lib.hid (HT0.out.below b1 rfl)
      clear b1 HB HT1 q0 q1 q2 q3 q4 q5 q6
      obtain ⟨s0, s1, s2, s3, s4, s5, s6⟩ := HT2.out
      have HE := Lib.hid (And.intro (Below.set3 (b := w.heap.size + 1) HB2.out (Nat.le_succ _) (.slice none 0 0) (.string ⟨#[]⟩) (.int .i64 0)) (Three.set3 HT2.out (.slice none 0 0) (.string ⟨#[]⟩) (.int .i64 0)))
      clear HB2 HT2
      go_wp2
      have he := HE.out
      clear HE
      generalize World.setCell _ _ _ = W3 at he ⊢
      obtain ⟨h2, m0, m1, m2, m3, m4, m5, m6⟩ := he
      exact bodyPost_ret (v := .tuple #[.string ⟨#[]⟩, .agg #[.slice none 0 0, .string ⟨#[]⟩, .int .i64 0], .int .i64 3]) (by simp [results, Tryz.results9, go_sem, m0, m1, m2]) rfl ⟨rfl, h2⟩
  · have HW := Lib.hid hw
    have HN := Lib.hid hn
    have hE := empty_of h0
    clear hw hn h0 hc
    go_enter Tryz.func9, Tryz.ntmps9
    go_wp2_with fail
    refine (good_yes _ k f S t _ HV.out hk HW.out).mono ?_; rintro e w1 ⟨rfl, b1⟩
    have HB2 := Lib.hid (bel_of HB.out b1)
    have HT2 := Lib.hid (HT1.out.below b1 rfl)
    have HT02 := Lib.hid (HT0.out.below b1 rfl)
    clear b1 HB HT1 q0 q1 q2 q3 q4 q5 q6
    go_wp2_with fail
    refine (rvalid_yes n _ HN.out).mono ?_; rintro e wx ⟨rfl, rfl⟩
    obtain ⟨s0, s1, s2, s3, s4, s5, s6⟩ := HT2.out
    have HE := Lib.hid (And.intro (Below.set3 (b := w.heap.size + 1) HB2.out (Nat.le_succ _) (.slice none 0 0) (.string ⟨#[]⟩) (.int .i64 0)) (Three.set3 HT2.out (.slice none 0 0) (.string ⟨#[]⟩) (.int .i64 0)))
    clear HB2 HT2
    go_wp2
    have he := HE.out
    clear HE
    generalize World.setCell _ _ _ = W3 at he ⊢
    obtain ⟨h2, m0, m1, m2, m3, m4, m5, m6⟩ := he
    exact bodyPost_ret (v := .tuple #[.string ⟨#[]⟩, .agg #[.slice none 0 0, .string ⟨#[]⟩, .int .i64 0], .int .i64 11]) (by simp [results, Tryz.results9, go_sem, m0, m1, m2]) rfl ⟨rfl, h2⟩
  · exact absurd rfl hc
set_option maxHeartbeats 2000000 in
set_option maxRecDepth 100000 in
theorem rbelow_none (v : Value) (k : Nat) (f : Nat → ByteArray) (S : ByteArray) (t : Nat) (n : ByteArray) (w : World) (hv : SV w v k f) (hk40 : k ≤ 40) (hwf : WF k f t) (hn : Can n) (hn0 : 0 < n.size) (hS : S.size ≤ 1099511627776)
    {x : ByteArray} {c : Int} (h : nextV k f S t n = .tuple #[.string x, .int .i64 c]) (hc : c ≠ 0) :
    Calls Tryz.prog 9 #[.agg #[v, .string S, .int .i64 t], .string n] w fun e w' => NoTape c w e w' := by
  have CD := Lib.hid (fun v W hV => (show Calls Tryz.prog 26 #[.agg #[v, .string S, .int .i64 t], .string n] W fun e w' => NoTape c W e w' from (draw_any v k f S t n W hV hk40 hwf hn hn0 hS h).mono fun e w' hh => (hh.2 hc).2))
  have b1 := box2_below w (.cells #[v, .string S, .int .i64 t] 24) (.cells #[.slice none 0 0, .string ⟨#[]⟩, .int .i64 0] 24)
  have HB := Lib.hid b1
  have HV := Lib.hid (hv.below b1)
  have HT1 := Lib.hid (box2_second w (.slice none 0 0) (.string ⟨#[]⟩) (.int .i64 0) 24 (.cells #[v, .string S, .int .i64 t] 24))
  have HT0 := Lib.hid (box2_first w v (.string S) (.int .i64 t) 24 (.cells #[.slice none 0 0, .string ⟨#[]⟩, .int .i64 0] 24))
  obtain ⟨p, cap, rfl, -⟩ := hv
  obtain ⟨q0, q1, q2, q3, q4, q5, q6⟩ := HT0.out
  clear b1
  have HW := Lib.hid hwf
  have HN := Lib.hid hn
  have hE := not_empty_of (show n.size ≠ 0 by omega)
  have hk : k ≤ 9223372036854775807 := by omega
  clear hwf hn hn0 h hS
  go_enter Tryz.func9, Tryz.ntmps9
  go_wp2_with fail
  refine (good_yes _ k f S t _ HV.out hk HW.out).mono ?_; rintro e w1 ⟨rfl, b1⟩
  have HB2 := Lib.hid (bel_of HB.out b1)
  have HT2 := Lib.hid (HT1.out.below b1 rfl)
  have HT02 := Lib.hid (HT0.out.below b1 rfl)
  have HV2 := Lib.hid (HV.out.below b1)
  clear b1 HB HT1 HT0 HV q0 q1 q2 q3 q4 q5 q6
  obtain ⟨q0, q1, q2, q3, q4, q5, q6⟩ := HT02.out
  go_wp2_with fail
  refine (rvalid_yes n _ HN.out).mono ?_; rintro e wx ⟨rfl, rfl⟩
  go_wp2_with fail
  refine (CD.out _ _ HV2.out).mono ?_; rintro e w3 ⟨rfl, b3⟩
  have HB3 := Lib.hid (bel_of HB2.out b3)
  have HT3 := Lib.hid (HT2.out.below b3 rfl)
  clear b3 HB2 HT2 HT02 HV2 q0 q1 q2 q3 q4 q5 q6
  obtain ⟨s0, s1, s2, s3, s4, s5, s6⟩ := HT3.out
  have HE := Lib.hid (And.intro (Below.set3 (b := w.heap.size + 1) HB3.out (Nat.le_succ _) (.slice none 0 0) (.string ⟨#[]⟩) (.int .i64 0)) (Three.set3 HT3.out (.slice none 0 0) (.string ⟨#[]⟩) (.int .i64 0)))
  clear HB3 HT3
  go_wp2
  have he := HE.out
  clear HE
  generalize World.setCell _ _ _ = W3 at he ⊢
  obtain ⟨h2, m0, m1, m2, m3, m4, m5, m6⟩ := he
  exact bodyPost_ret (v := .tuple #[.string ⟨#[]⟩, .agg #[.slice none 0 0, .string ⟨#[]⟩, .int .i64 0], .int .i64 c]) (by simp [results, Tryz.results9, go_sem, m0, m1, m2]) rfl ⟨rfl, h2⟩
set_option maxHeartbeats 2000000 in
set_option maxRecDepth 100000 in
theorem rbelow_some (v : Value) (k : Nat) (f : Nat → ByteArray) (S : ByteArray) (t : Nat) (n : ByteArray) (w : World) (hv : SV w v k f) (hk40 : k ≤ 40) (hwf : WF k f t) (hn : Can n) (hn0 : 0 < n.size) (hS : S.size ≤ 1099511627776)
    {x : ByteArray} (h : nextV k f S t n = .tuple #[.string x, .int .i64 0]) :
    Calls Tryz.prog 9 #[.agg #[v, .string S, .int .i64 t], .string n] w fun e w' => RDrawOk x k f S ((t + 1 : Nat) : Int) w e w' := by
  obtain ⟨t1, ht1⟩ : ∃ t1 : Int, t1 = ((t + 1 : Nat) : Int) := ⟨_, rfl⟩
  have CD := Lib.hid (fun v W hV => (show Calls Tryz.prog 26 #[.agg #[v, .string S, .int .i64 t], .string n] W fun e w' => RDrawOk x k f S t1 W e w' by rw [ht1]; exact (draw_any v k f S t n W hV hk40 hwf hn hn0 hS h).mono fun e w' hh => hh.1 rfl))
  rw [← ht1]
  clear ht1
  have b1 := box2_below w (.cells #[v, .string S, .int .i64 t] 24) (.cells #[.slice none 0 0, .string ⟨#[]⟩, .int .i64 0] 24)
  have HB := Lib.hid b1
  have HV := Lib.hid (hv.below b1)
  have HT1 := Lib.hid (box2_second w (.slice none 0 0) (.string ⟨#[]⟩) (.int .i64 0) 24 (.cells #[v, .string S, .int .i64 t] 24))
  have HT0 := Lib.hid (box2_first w v (.string S) (.int .i64 t) 24 (.cells #[.slice none 0 0, .string ⟨#[]⟩, .int .i64 0] 24))
  obtain ⟨p, cap, rfl, -⟩ := hv
  obtain ⟨q0, q1, q2, q3, q4, q5, q6⟩ := HT0.out
  clear b1
  have HW := Lib.hid hwf
  have HN := Lib.hid hn
  have hE := not_empty_of (show n.size ≠ 0 by omega)
  have hk : k ≤ 9223372036854775807 := by omega
  clear hwf hn hn0 h hS
  go_enter Tryz.func9, Tryz.ntmps9
  go_wp2_with fail
  refine (good_yes _ k f S t _ HV.out hk HW.out).mono ?_; rintro e w1 ⟨rfl, b1⟩
  have HB2 := Lib.hid (bel_of HB.out b1)
  have HT2 := Lib.hid (HT1.out.below b1 rfl)
  have HT02 := Lib.hid (HT0.out.below b1 rfl)
  have HV2 := Lib.hid (HV.out.below b1)
  clear b1 HB HT1 HT0 HV q0 q1 q2 q3 q4 q5 q6
  obtain ⟨q0, q1, q2, q3, q4, q5, q6⟩ := HT02.out
  go_wp2_with fail
  refine (rvalid_yes n _ HN.out).mono ?_; rintro e wx ⟨rfl, rfl⟩
  go_wp2_with fail
  refine (CD.out _ _ HV2.out).mono ?_; rintro e w3 ⟨q, c3, rfl, hs3, hn3, b3⟩
  have HB3 := Lib.hid (bel_of HB2.out b3)
  have HT3 := Lib.hid (HT2.out.below b3 rfl)
  have hlow : w.heap.size + 1 < w1.heap.size := HT2.out.2.2.2.2.2.2
  have hne := hn3.ne hlow
  have HE := Lib.hid (And.intro (Below.set3 (b := w.heap.size + 1) HB3.out (Nat.le_succ _) (.slice q k c3) (.string S) (.int .i64 t1)) (And.intro (((hs3.far hne (p := ⟨w.heap.size + 1, 0, none⟩) rfl (.slice q k c3)).far hne (p := ⟨w.heap.size + 1, 1, none⟩) rfl (.string S)).far hne (p := ⟨w.heap.size + 1, 2, none⟩) rfl (.int .i64 t1)) (Three.set3 HT3.out (.slice q k c3) (.string S) (.int .i64 t1))))
  have HNV := Lib.hid (newv_low hn3 (show w.heap.size ≤ w1.heap.size by omega))
  obtain ⟨s0, s1, s2, s3, s4, s5, s6⟩ := HT3.out
  clear b3 hs3 hn3 hlow hne HB2 HT2 HT02 HV2 HB3 HT3 q0 q1 q2 q3 q4 q5 q6
  go_wp2
  have he := HE.out
  clear HE
  generalize World.setCell _ _ _ = W3 at he ⊢
  obtain ⟨h2, h3, m0, m1, m2, m3, m4, m5, m6⟩ := he
  exact bodyPost_ret (v := .tuple #[.string x, .agg #[.slice q k c3, .string S, .int .i64 t1], .int .i64 0]) (by simp [results, Tryz.results9, go_sem, m0, m1, m2]) rfl ⟨_, _, rfl, h3, HNV.out, h2⟩
end Go.Proofs.YtehbbghobagkjaaGreatDoor

