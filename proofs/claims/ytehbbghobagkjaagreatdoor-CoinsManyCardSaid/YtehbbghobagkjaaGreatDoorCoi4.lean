/-
  Contracts of package coins, the fourth part: candidates, firstBelow.
-/
import Derived.Test.YtehbbghobagkjaaGreatDoorCoi3
namespace Go.Proofs.YtehbbghobagkjaaGreatDoor
open Go.RowKit Go.Deep Go.Shelf
set_option linter.unusedVariables false
attribute [local go_sem] Oper.semAt_some

/-- A canonical string. -/
abbrev CanS := { s : ByteArray // Can s }
theorem cand_can (S : List UInt8) (t a bits : Nat) (h : bits ≤ 1024) : Can (E (candN S t a bits)) := can_E (candN_lt S t a bits h)
def candE (S : List UInt8) (t bits : Nat) (h : bits ≤ 1024) (a : Nat) : CanS := ⟨E (candN S t a bits), cand_can S t a bits h⟩
/-- The first k candidates. -/
def candK (S : List UInt8) (t bits : Nat) (h : bits ≤ 1024) (k : Nat) : List CanS := (List.range k).map (candE S t bits h)
theorem candK_succ (S : List UInt8) (t bits : Nat) (h : bits ≤ 1024) (k : Nat) : candK S t bits h (k + 1) = candK S t bits h k ++ [candE S t bits h k] := by simp [candK, List.range_succ]
theorem candK_len (S : List UInt8) (t bits : Nat) (h : bits ≤ 1024) (k : Nat) : (candK S t bits h k).length = k := by simp [candK]

theorem candidates_any (S : ByteArray) (t b : Int) (w : World) :
    Calls Tryz.prog 42 #[.string S, .int .i64 t, .int .i64 b] w fun e w' =>
      e = .returned (.func (.func 61) #[] #[.pointer (some ⟨w.heap.size, 0, none⟩), .pointer (some ⟨w.heap.size + 1, 0, none⟩), .pointer (some ⟨w.heap.size + 1 + 1, 0, none⟩)]) ∧
      w' = ((w.alloc (.cells #[.string S] 9)).alloc (.cells #[.int .i64 t] 3)).alloc (.cells #[.int .i64 b] 3) := by
  go_enter Tryz.func42, Tryz.ntmps42
  go_wp2
  go_ret
  exact ⟨rfl, rfl⟩

/-- The boxes of the iterator, and the table, in the world wb. -/
def CandB (wb : World) (Bs Bt Bb : Nat) (S : ByteArray) (t bits : Nat) : Prop :=
  wb.cell? ⟨Bs, 0, none⟩ = some (.string S) ∧ wb.cell? ⟨Bt, 0, none⟩ = some (.int .i64 t) ∧ wb.cell? ⟨Bb, 0, none⟩ = some (.int .i64 bits) ∧ TabW wb ∧
  S.size ≤ 1099511627776 ∧ t ≤ 4294967295 ∧ 0 < bits
theorem CandB.lt {wb : World} {Bs Bt Bb : Nat} {S : ByteArray} {t bits : Nat} (h : CandB wb Bs Bt Bb S t bits) : Bs < wb.heap.size ∧ Bt < wb.heap.size ∧ Bb < wb.heap.size := by
  obtain ⟨h1, h2, h3, -⟩ := h
  refine ⟨?_, ?_, ?_⟩
  · obtain ⟨o, ho, -⟩ := cells_of_cell h1; exact (Array.getElem?_eq_some_iff.1 ho).1
  · obtain ⟨o, ho, -⟩ := cells_of_cell h2; exact (Array.getElem?_eq_some_iff.1 ho).1
  · obtain ⟨o, ho, -⟩ := cells_of_cell h3; exact (Array.getElem?_eq_some_iff.1 ho).1

set_option maxRecDepth 100000 in
set_option maxHeartbeats 4000000 in
theorem cands1_in (m : Nat) (hm : 1 ≤ m) (l : Nat) (wb : World) (Bs Bt Bb : Nat) (S : ByteArray) (t bits : Nat) (h1024 : bits ≤ 1024) (hB : CandB wb Bs Bt Bb S t bits)
    (J Jx : List CanS → World → Prop) (W : World) (hWb : Below wb.heap.size wb W) (hJa : AbidesFrom W.heap.size J)
    (hY : ∀ pre (x : CanS) V, J pre V → pre.length < 256 → YieldAt Fence.wide (m - 1) Tryz.prog l #[.string x.1] V fun e V' => (e = .returned (.bool true) ∧ J (pre ++ [x]) V' ∧ Below wb.heap.size V V') ∨ (e = .returned (.bool false) ∧ Jx (pre ++ [x]) V'))
    (hJ0 : J [] W) :
    CallsIn Fence.wide m Tryz.prog 61 #[.func (.yield l) #[] #[], .pointer (some ⟨Bs, 0, none⟩), .pointer (some ⟨Bt, 0, none⟩), .pointer (some ⟨Bb, 0, none⟩)] W fun e V =>
      (∃ v, e = .returned v) ∧ ((∃ ys, ys = candK S.data.toList t bits h1024 256 ∧ J ys V) ∨ (∃ pre, (∃ k, k ≤ 256 ∧ pre = candK S.data.toList t bits h1024 k) ∧ Jx pre V)) := by
  obtain ⟨hls, hlt, hlb⟩ := hB.lt
  obtain ⟨hcs0, hct0, hcb0, htab, hS, ht, hb0⟩ := hB
  have HT := Lib.hid htab; clear htab
  have HS := Lib.hid hS; clear hS
  have Ht := Lib.hid ht; clear ht
  have Hb0 := Lib.hid hb0; clear hb0
  have HCS := Lib.hid hcs0; clear hcs0
  have HCT := Lib.hid hct0; clear hct0
  have HCB := Lib.hid hcb0; clear hcb0
  have H1024 := Lib.hid h1024
  refine callsIn_of_wp Tryz.func61 rfl trivial ?_ rfl
  simp only [Tryz.ntmps61, List.size_toArray, List.length_cons, List.length_nil, Nat.reduceAdd, Nat.reduceSub, Array.replicate_succ, Array.replicate_zero, List.push_toArray, List.append_toArray, List.nil_append, List.cons_append]
  gi_wp2
  gi_loopg [6] 256 (fun y va wr => ∃ k : Nat, k + y = 256 ∧ va = .int .i64 k ∧ Hid (J (candK S.data.toList t bits h1024 k) wr) ∧ Hid (Below wb.heap.size wb wr))
  case atStart => exact ⟨0, rfl, rfl, hJ0, hWb⟩
  case round =>
    obtain ⟨k, hk, rfl, HJ, HW⟩ := hrel
    have hlt2 : k < 256 ∨ k = 256 := by omega
    rcases hlt2 with hlt2 | rfl
    · have hcs : wr.cell? ⟨Bs, 0, none⟩ = some (.string S) := (HW.out.cell (p := ⟨Bs, 0, none⟩) hls).trans HCS.out
      have hct : wr.cell? ⟨Bt, 0, none⟩ = some (.int .i64 t) := (HW.out.cell (p := ⟨Bt, 0, none⟩) hlt).trans HCT.out
      have hcb : wr.cell? ⟨Bb, 0, none⟩ = some (.int .i64 bits) := (HW.out.cell (p := ⟨Bb, 0, none⟩) hlb).trans HCB.out
      have HTR := Lib.hid (HT.out.below HW.out)
      have hlti : (k : Int) < 256 := by omega
      have HN := Lib.hid (candK_succ S.data.toList t bits h1024 k)
      obtain ⟨X, hX⟩ : ∃ X : CanS, X = candE S.data.toList t bits h1024 k := ⟨_, rfl⟩
      rw [← hX] at HN
      have c1 := fun V h => candidate_any S t k bits V HS.out Ht.out (by omega) Hb0.out H1024.out h
      rw [show E (candN S.data.toList t k bits) = X.1 by rw [hX]; rfl] at c1
      have C1 := Lib.hid c1; clear c1 hX
      obtain ⟨x, hx⟩ : ∃ x, x = X.1 := ⟨_, rfl⟩
      rw [← hx] at C1
      have HYX := fun V h => hY (candK S.data.toList t bits h1024 k) X V h (by rw [candK_len]; exact hlt2)
      rw [← hx] at HYX
      have HYX := Lib.hid HYX
      clear hx hY
      gi_wp2
      refine ⟨trivial, (callsIn_wide.2 (C1.out _ HTR.out)).mono ?_⟩
      rintro e w1 ⟨rfl, b1⟩
      have HJ1 := Lib.hid (hJa _ wr w1 none HJ.out (grown_of_below b1) (fun r e => by cases e))
      have HW1 := Lib.hid (HW.out.trans (b1.mono HW.out.size))
      obtain ⟨fn, tmps, assign, body, hy, hR⟩ := HYX.out w1 HJ1.out
      gi_wp2
      refine hR.mono ?_
      rintro e W3 (⟨rfl, hJ3, hk3⟩ | ⟨rfl, hJx3⟩)
      · have HJ3 := Lib.hid hJ3
        have HW3 := Lib.hid (HW1.out.trans hk3)
        clear hy hR hJ3 hk3
        gi_wp2
        go_roundg (gk - 1)
        case measure => omega
        case rel => exact ⟨k + 1, by omega, by go_num, by rw [HN.out]; exact HJ3.out, HW3.out⟩
      · clear hy hR
        gi_wp2
        refine bodyPost_ret (results_none rfl _ _ _) rfl ?_
        exact ⟨⟨_, rfl⟩, .inr ⟨_, ⟨k + 1, by omega, HN.out.symm⟩, hJx3⟩⟩
    · gi_wp2
      go_end0
      exact ⟨⟨_, rfl⟩, .inl ⟨_, rfl, HJ.out⟩⟩
theorem cands_stops (m : Nat) (hm : 1 ≤ m) (wb : World) (Bs Bt Bb : Nat) (S : ByteArray) (t bits : Nat) (h1024 : bits ≤ 1024) (hB : CandB wb Bs Bt Bb S t bits) (w : World) (hw : Below wb.heap.size wb w) :
    SeqStopsK Fence.wide m Tryz.prog 61 #[.pointer (some ⟨Bs, 0, none⟩), .pointer (some ⟨Bt, 0, none⟩), .pointer (some ⟨Bb, 0, none⟩)] (fun x : CanS => #[Value.string x.1]) (Below wb.heap.size)
      (fun ys => ys = candK S.data.toList t bits h1024 256) (fun pre => ∃ k, k ≤ 256 ∧ pre = candK S.data.toList t bits h1024 k) 256 w :=
  fun l J Jx W hW hJ _ hY hJ0 => cands1_in m hm l wb Bs Bt Bb S t bits h1024 hB J Jx W (hw.trans (hW.mono hw.size)) hJ hY hJ0

theorem nbq_bytes {n k : Nat} (h : n < 256 ^ k) : nbits n ≤ 8 * k := by
  have h2 : n < 2 ^ (8 * k) := by rw [Nat.pow_mul]; exact h
  unfold nbits
  split
  · omega
  · rename_i h0
    have := (Nat.log2_lt h0).2 h2
    omega
theorem nb_lim {s : ByteArray} (h : Can s) : nbits (V s) ≤ 1024 := by
  have h1 := h.1
  have := nbq_bytes (V_lt s)
  omega
/-! ### firstBelow -/
theorem first_from (S : List UInt8) (t n : Nat) : ∀ (d a k : Nat), k < d → (∀ j, j < k → ¬ candN S t (a + j) (nbits n) < n) → candN S t (a + k) (nbits n) < n → firstN S t n a d = some (candN S t (a + k) (nbits n)) := by
  intro d
  induction d with
  | zero => intro a k h; omega
  | succ d ih =>
    intro a k hk hno hyes
    cases k with
    | zero =>
      show (if candN S t a (nbits n) < n then _ else _) = _
      rw [Nat.add_zero] at hyes
      rw [if_pos hyes]; rfl
    | succ k =>
      have h0 := hno 0 (by omega)
      rw [Nat.add_zero] at h0
      show (if candN S t a (nbits n) < n then _ else firstN S t n (a + 1) d) = _
      rw [if_neg h0, ih (a + 1) k (by omega) (fun j hj => by rw [show a + 1 + j = a + (j + 1) by omega]; exact hno (j + 1) (by omega)) (by rw [show a + 1 + k = a + (k + 1) by omega]; exact hyes), show a + 1 + k = a + (k + 1) by omega]
theorem first_none (S : List UInt8) (t n : Nat) : ∀ (d a : Nat), (∀ j, j < d → ¬ candN S t (a + j) (nbits n) < n) → firstN S t n a d = none := by
  intro d
  induction d with
  | zero => intro a _; rfl
  | succ d ih =>
    intro a hno
    have h0 := hno 0 (by omega)
    rw [Nat.add_zero] at h0
    show (if candN S t a (nbits n) < n then _ else firstN S t n (a + 1) d) = _
    rw [if_neg h0]
    exact ih (a + 1) fun j hj => by rw [show a + 1 + j = a + (j + 1) by omega]; exact hno (j + 1) (by omega)
theorem first_found {S : List UInt8} {t n : Nat} {h : nbits n ≤ 1024} {k : Nat} {ini : List CanS} {x : CanS} (hk : k ≤ 256) (e : ini ++ [x] = candK S t (nbits n) h k) (hno : ∀ y, y ∈ ini → ¬ V y.1 < n) (hx : V x.1 < n) :
    firstN S t n 0 256 = some (V x.1) := by
  cases k with
  | zero => simp [candK] at e
  | succ k =>
    rw [candK_succ] at e
    obtain ⟨e1, e2⟩ := List.append_inj' e rfl
    have e3 : x = candE S t (nbits n) h k := by simpa using e2
    have hv : V x.1 = candN S t k (nbits n) := by rw [e3]; exact V_E _
    rw [hv] at hx ⊢
    have := first_from S t n 256 0 k (by omega) (fun j hj => by
      have hm : candE S t (nbits n) h j ∈ ini := by rw [e1]; unfold candK; exact List.mem_map.2 ⟨j, List.mem_range.2 hj, rfl⟩
      have := hno _ hm
      rw [show V (candE S t (nbits n) h j).1 = candN S t j (nbits n) from V_E _] at this
      rw [Nat.zero_add]; exact this) (by rw [Nat.zero_add]; exact hx)
    rw [Nat.zero_add] at this
    exact this
theorem first_no {S : List UInt8} {t n : Nat} {h : nbits n ≤ 1024} (hno : ∀ y, y ∈ candK S t (nbits n) h 256 → ¬ V y.1 < n) : firstN S t n 0 256 = none :=
  first_none S t n 256 0 fun j hj => by
    have hm : candE S t (nbits n) h j ∈ candK S t (nbits n) h 256 := by unfold candK; exact List.mem_map.2 ⟨j, List.mem_range.2 hj, rfl⟩
    have := hno _ hm
    rw [show V (candE S t (nbits n) h j).1 = candN S t j (nbits n) from V_E _] at this
    rw [Nat.zero_add]; exact this
/-- What firstBelow answers. -/
def FBv : Option Nat → Value
  | some x => .tuple #[.string (E x), .int .i64 0]
  | none => .tuple #[.string ⟨#[]⟩, .int .i64 14]
/-- What its loop keeps, and what it leaves. -/
def FbI (w : World) (B2 B4 B5 : Nat) (n : ByteArray) (pre : List CanS) (W : World) : Prop :=
  ((Boxed W B2 25 (.string n) ∧ Boxed W B4 25 (.string ⟨#[]⟩) ∧ Boxed W B5 28 (.int .i64 0)) ∧ Below w.heap.size w W) ∧ (∀ y, y ∈ pre → ¬ V y.1 < V n)
def FbX (w : World) (B2 B4 B5 : Nat) (n : ByteArray) (c : Code) (pre : List CanS) (W : World) : Prop :=
  ((∃ (ini : List CanS) (x : CanS), pre = ini ++ [x] ∧ (∀ y, y ∈ ini → ¬ V y.1 < V n) ∧ V x.1 < V n ∧ Boxed W B4 25 (.string x.1) ∧ Boxed W B5 28 (.int .i64 0)) ∧ Below w.heap.size w W) ∧ c = .ret
theorem fbI_own {w : World} {B2 B4 B5 m : Nat} {n : ByteArray} (hm : w.heap.size ≤ m) : OwnFrom m (FbI w B2 B4 B5 n) := by
  refine OwnFrom.and (OwnFrom.and (Own.from (fun s X Y row hs hg hr => ⟨?_, ?_, ?_⟩) _) (ownFrom_below (Nat.le_refl _) hm)) (fun _ _ _ _ hs _ _ => hs)
  · exact boxed_own B2 25 (fun _ : List CanS => Value.string n) s X Y row hs.1 hg hr
  · exact boxed_own B4 25 (fun _ : List CanS => Value.string ⟨#[]⟩) s X Y row hs.2.1 hg hr
  · exact boxed_own B5 28 (fun _ : List CanS => Value.int .i64 0) s X Y row hs.2.2 hg hr
theorem fbX_own {w : World} {B2 B4 B5 m : Nat} {n : ByteArray} (hm : w.heap.size ≤ m) (c : Code) : OwnFrom m (FbX w B2 B4 B5 n c) := by
  refine OwnFrom.and (OwnFrom.and (Own.from (fun s X Y row hs hg hr => ?_) _) (ownFrom_below (Nat.le_refl _) hm)) (fun _ _ _ _ hs _ _ => hs)
  obtain ⟨ini, x, h1, h2, h3, h4, h5⟩ := hs
  exact ⟨ini, x, h1, h2, h3, boxed_own B4 25 (fun _ : List CanS => Value.string x.1) s X Y row h4 hg hr, boxed_own B5 28 (fun _ : List CanS => Value.int .i64 0) s X Y row h5 hg hr⟩
theorem fb_start (w : World) (n : ByteArray) : FbI w w.heap.size (w.heap.size + 1) (w.heap.size + 1 + 1) n []
    (((w.alloc (.cells #[.string n] 25)).alloc (.cells #[.string ⟨#[]⟩] 25)).alloc (.cells #[.int .i64 0] 28)) := by
  have e0 := Boxed.new w 25 (.string n)
  have e1 := Boxed.new (w.alloc (.cells #[.string n] 25)) 25 (.string ⟨#[]⟩)
  have e2 := Boxed.new ((w.alloc (.cells #[.string n] 25)).alloc (.cells #[.string ⟨#[]⟩] 25)) 28 (.int .i64 0)
  simp only [World.size_alloc] at e1 e2
  exact ⟨⟨⟨(e0.alloc _).alloc _, e1.alloc _, e2⟩, (((Below.refl _ w).alloc (Nat.le_refl _) _).alloc (by simp) _).alloc (by simp; omega) _⟩, fun y hy => by simp at hy⟩

set_option maxRecDepth 100000 in
set_option maxHeartbeats 4000000 in
theorem firstBelow_any (n : ByteArray) (hn : Can n) (wb : World) (Bs Bt Bb : Nat) (S : ByteArray) (t : Nat) (hB : CandB wb Bs Bt Bb S t (nbits (V n))) (w : World) (hw : Below wb.heap.size wb w) :
    Calls Tryz.prog 41 #[.string n, .func (.func 61) #[] #[.pointer (some ⟨Bs, 0, none⟩), .pointer (some ⟨Bt, 0, none⟩), .pointer (some ⟨Bb, 0, none⟩)]] w fun e w' =>
      e = .returned (FBv (firstN S.data.toList t (V n) 0 256)) ∧ Below w.heap.size w w' := by
  refine (callsIn_wide (n := 9)).1 ?_
  have h1024 : nbits (V n) ≤ 1024 := nb_lim hn
  have HN := Lib.hid hn; clear hn
  have HB := Lib.hid hB; clear hB
  have HW := Lib.hid hw; clear hw
  refine callsIn_of_wp_marks Tryz.func41 rfl trivial ?_ rfl
  simp only [Tryz.ntmps41, List.size_toArray, List.length_cons, List.length_nil, Nat.reduceAdd, Nat.reduceSub, Array.replicate_succ, Array.replicate_zero, List.push_toArray, List.append_toArray, List.nil_append, List.cons_append]
  gi_wp2
  have hst := fb_start w n
  have hsz0 : (((w.alloc (.cells #[.string n] 25)).alloc (.cells #[.string ⟨#[]⟩] 25)).alloc (.cells #[.int .i64 0] 28)).heap.size = w.heap.size + 3 := by simp
  have hb0 : Below w.heap.size w (((w.alloc (.cells #[.string n] 25)).alloc (.cells #[.string ⟨#[]⟩] 25)).alloc (.cells #[.int .i64 0] 28)) := hst.1.2
  generalize World.alloc (World.alloc (World.alloc w _) _) _ = W0 at *
  refine wpIn_rangeFunc_ownF rfl (by omega) (gf := 61) (lb := #[.pointer (some ⟨Bs, 0, none⟩), .pointer (some ⟨Bt, 0, none⟩), .pointer (some ⟨Bb, 0, none⟩)]) rfl trivial (enters_of Tryz.func61 (by kernel_rfl) rfl)
    (cands_stops 8 (by omega) wb Bs Bt Bb S t (nbits (V n)) h1024 HB.out W0 (HW.out.trans (hb0.mono HW.out.size)))
    belowK_t (belowK_b (by have := HW.out.size; have := hb0.size; omega)) (Below.refl _ _) (fun _ => rfl)
    (FbI w w.heap.size (w.heap.size + 1) (w.heap.size + 1 + 1) n) (FbX w w.heap.size (w.heap.size + 1) (w.heap.size + 1 + 1) n) (fbI_own (by omega)) (fun c => fbX_own (by omega) c) hst
    (fun x => { tmps := #[.string n, .func (.func 61) #[] #[.pointer (some ⟨Bs, 0, none⟩), .pointer (some ⟨Bt, 0, none⟩), .pointer (some ⟨Bb, 0, none⟩)], .pointer (some ⟨w.heap.size, 0, none⟩), undef, .pointer (some ⟨w.heap.size + 1, 0, none⟩), .pointer (some ⟨w.heap.size + 1 + 1, 0, none⟩), .string x.1, .func (.func 61) #[] #[.pointer (some ⟨Bs, 0, none⟩), .pointer (some ⟨Bt, 0, none⟩), .pointer (some ⟨Bb, 0, none⟩)], .string x.1, undef, undef, undef, undef, undef], defers := [] }) ?assign ?body ?done ?stop
  case assign =>
    intro l x W K hK
    gi_wp2
    exact hK
  case body =>
    rintro l pre x W ⟨⟨⟨h2, h4, h5⟩, hB⟩, hno⟩ hlen
    clear hst
    obtain ⟨x, hx⟩ := x
    dsimp only
    have hc2 := h2.cell
    have hc4 := h4.cell
    have hf4 := h4.frozen
    have hc5 : ∀ u, (W.setCell ⟨w.heap.size + 1, 0, none⟩ u).cell? ⟨w.heap.size + 1 + 1, 0, none⟩ = some (.int .i64 0) := fun u => (h5.other (by omega) u).cell
    have hf5 : ∀ u, (W.setCell ⟨w.heap.size + 1, 0, none⟩ u).frozen? ⟨w.heap.size + 1 + 1, 0, none⟩ = false := fun u => (h5.other (by omega) u).frozen
    have HX := Lib.hid hx
    have HNO := Lib.hid hno; clear hno
    gi_wp2
    refine ⟨trivial, (CallsIn.inRound l (callsIn_wide.2 (cmp_yes x n _ HX.out HN.out))).mono ?_⟩
    rintro e wx ⟨rfl, rfl⟩
    by_cases hlt : V x < V n
    · have hs : sgn (V x) (V n) = -1 := by unfold sgn; rw [if_pos hlt]
      have HLT := Lib.hid hlt; clear hlt
      rw [hs]
      gi_wp2
      refine ⟨(KeepsOthers.setCell _ _ _).trans (KeepsOthers.setCell _ _ _), ⟨⟨pre, ⟨x, hx⟩, rfl, HNO.out, HLT.out, (h4.set _).other (by omega) _, (h5.other (by omega) _).set _⟩, (hB.setCell (p := ⟨w.heap.size + 1, 0, none⟩) (by show w.heap.size ≤ w.heap.size + 1; omega) _).setCell (p := ⟨w.heap.size + 1 + 1, 0, none⟩) (by show w.heap.size ≤ w.heap.size + 1 + 1; omega) _⟩, rfl⟩
    · obtain ⟨z, hz, hz0⟩ : ∃ z : Int, sgn (V x) (V n) = z ∧ 0 ≤ z := ⟨_, rfl, by unfold sgn; rw [if_neg hlt]; split <;> omega⟩
      have HLT := Lib.hid hlt; clear hlt
      rw [hz]
      clear hz
      gi_wp2
      exact ⟨KeepsOthers.refl _, Below.refl _ _, ⟨⟨h2, h4, h5⟩, hB⟩, fun y hy => by
        rcases List.mem_append.1 hy with q | q
        · exact HNO.out y q
        · rw [List.mem_singleton] at q; rw [q]; exact HLT.out⟩
  case done =>
    rintro D ys W hD rfl ⟨⟨⟨h2, h4, h5⟩, hB⟩, hno⟩ hK
    clear hst
    have hc4 := h4.cell
    have hf4 := h4.frozen
    have hc5 : ∀ u, (W.setCell ⟨w.heap.size + 1, 0, none⟩ u).cell? ⟨w.heap.size + 1 + 1, 0, none⟩ = some (.int .i64 0) := fun u => (h5.other (by omega) u).cell
    have hf5 : ∀ u, (W.setCell ⟨w.heap.size + 1, 0, none⟩ u).frozen? ⟨w.heap.size + 1 + 1, 0, none⟩ = false := fun u => (h5.other (by omega) u).frozen
    have HF := Lib.hid (first_no hno); clear hno
    gi_wp2
    have j4 := (h4.set (.string ⟨#[]⟩)).other (B' := w.heap.size + 1 + 1) (by omega) (.int .i64 14)
    have j5 := (h5.other (B' := w.heap.size + 1) (by omega) (.string ⟨#[]⟩)).set (.int .i64 14)
    have hbel := (hB.setCell (p := ⟨w.heap.size + 1, 0, none⟩) (by show w.heap.size ≤ w.heap.size + 1; omega) (.string ⟨#[]⟩)).setCell (p := ⟨w.heap.size + 1 + 1, 0, none⟩) (by show w.heap.size ≤ w.heap.size + 1 + 1; omega) (.int .i64 14)
    have hK' := ((KeepsOthers.setCell W ⟨w.heap.size + 1, 0, none⟩ (.string ⟨#[]⟩)).trans (KeepsOthers.setCell _ ⟨w.heap.size + 1 + 1, 0, none⟩ (.int .i64 14))).same D _ hK rfl
    refine ⟨by simp, .inl ⟨_, _, rfl, run_takeDeferred hK', ?_⟩⟩
    have d4 := cell_kept j4.cell (grownBy_putObj' _ D (.deferred none)) (fun r e => by cases e; exact ⟨_, hK', rfl⟩)
    have d5 := cell_kept j5.cell (grownBy_putObj' _ D (.deferred none)) (fun r e => by cases e; exact ⟨_, hK', rfl⟩)
    refine ⟨.tuple #[.string ⟨#[]⟩, .int .i64 14], ?_, by rw [HF.out]; rfl, hbel.trans (belowK_b (w := w) (Nat.le_refl _) _ D _ _ (by omega) hK' rfl rfl)⟩
    simp [results, Tryz.results41, go_sem, d4, d5]
  case stop =>
    rintro D c pre W hD ⟨k, hk, hpk⟩ ⟨⟨⟨ini, x, rfl, hno, hx, h4, h5⟩, hB⟩, rfl⟩ hK
    clear hst
    have HF := Lib.hid (first_found hk hpk hno hx)
    gi_wp2
    refine ⟨by simp, .inl ⟨_, _, rfl, run_takeDeferred hK, ?_⟩⟩
    have d4 := cell_kept h4.cell (grownBy_putObj' _ D (.deferred none)) (fun r e => by cases e; exact ⟨_, hK, rfl⟩)
    have d5 := cell_kept h5.cell (grownBy_putObj' _ D (.deferred none)) (fun r e => by cases e; exact ⟨_, hK, rfl⟩)
    refine ⟨.tuple #[.string x.1, .int .i64 0], ?_, by rw [HF.out]; show _ = Ending.returned (.tuple #[.string (E (V x.1)), .int .i64 0]); rw [E_V x.2], hB.trans (belowK_b (w := w) (Nat.le_refl _) _ D _ _ (by omega) hK rfl rfl)⟩
    simp [results, Tryz.results41, go_sem, d4, d5]
end Go.Proofs.YtehbbghobagkjaaGreatDoor
