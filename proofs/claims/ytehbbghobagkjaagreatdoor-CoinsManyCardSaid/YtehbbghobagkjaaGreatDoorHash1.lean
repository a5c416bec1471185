/-
  Contracts of package hash, the first part: words of 32 bits.
-/
import Derived.Test.YtehbbghobagkjaaGreatDoorSha
import Derived.Test.YtehbbghobagkjaaGreatDoorChecked
import Derived.WalkKit
import Derived.WalkSpells
import Derived.WalkLawsBesides
import Derived.Lib.Hide
import Derived.IntWalk
import Derived.Deep.QuietTactic
import Derived.BigQuiet
import Derived.Deep.WholeRow
import Derived.Great.BuildSlice
import Derived.Laws.BitsAllLaws
namespace Go.Proofs.YtehbbghobagkjaaGreatDoor
open Go.RowKit
set_option linter.unusedVariables false

theorem hret {k : IntKind} {a b : Int} (h : a = b) : Ending.returned (.int k a) = .returned (.int k b) := by rw [h]
theorem b_xor (a b : Nat) : bits .xor .u32 (a : Int) (b : Int) = ((xr a b : Nat) : Int) := by
  show IntKind.u32.wrap ((BitVec.ofInt 32 (a : Int) ^^^ BitVec.ofInt 32 (b : Int)).toNat : Int) = _
  rw [BitVec.toNat_xor, BitVec.ofInt_natCast, BitVec.ofInt_natCast, BitVec.toNat_ofNat, BitVec.toNat_ofNat, IntKind.wrap_u32', ← Nat.xor_mod_two_pow]
  unfold xr; omega
theorem b_and (a b : Nat) : bits .and .u32 (a : Int) (b : Int) = ((an a b : Nat) : Int) := by
  show IntKind.u32.wrap ((BitVec.ofInt 32 (a : Int) &&& BitVec.ofInt 32 (b : Int)).toNat : Int) = _
  rw [BitVec.toNat_and, BitVec.ofInt_natCast, BitVec.ofInt_natCast, BitVec.toNat_ofNat, BitVec.toNat_ofNat, IntKind.wrap_u32', ← Nat.and_mod_two_pow]
  unfold an; omega
theorem b_or (a b : Nat) : bits .or .u32 (a : Int) (b : Int) = ((og a b : Nat) : Int) := by
  show IntKind.u32.wrap ((BitVec.ofInt 32 (a : Int) ||| BitVec.ofInt 32 (b : Int)).toNat : Int) = _
  rw [BitVec.toNat_or, BitVec.ofInt_natCast, BitVec.ofInt_natCast, BitVec.toNat_ofNat, BitVec.toNat_ofNat, IntKind.wrap_u32', ← Nat.or_mod_two_pow]
  unfold og; omega
theorem b_not (a : Nat) : bits .xor .u32 4294967295 (a : Int) = ((nt a : Nat) : Int) := b_xor 4294967295 a
theorem b_not2 (a : Nat) : bits .xor .u32 (if IntKind.u32.signed = true then -1 else IntKind.u32.max) (a : Int) = ((nt a : Nat) : Int) := b_xor 4294967295 a
theorem b_add (a b : Nat) : IntKind.u32.wrap ((a : Int) + (b : Int)) = ((pl a b : Nat) : Int) := by
  rw [IntKind.wrap_u32']; unfold pl; omega
theorem og_comm (a b : Nat) : og a b = og b a := by unfold og; rw [Nat.or_comm]
theorem and31 (n m : Nat) (h1 : 1 ≤ n) (h2 : n + m = 32) (h3 : 1 ≤ m) : bits .and .u64 (IntKind.u64.wrap (-(n : Int))) 31 = (m : Int) := by
  have := u64_and_nat (18446744073709551616 - n) 31 (by omega) (by omega)
  rw [IntKind.wrap_u64, show (-(n : Int)) % 18446744073709551616 = ((18446744073709551616 - n : Nat) : Int) by omega]
  rw [show (31 : Int) = ((31 : Nat) : Int) from rfl, this, show (31 : Nat) = 2 ^ 5 - 1 from rfl, Nat.and_two_pow_sub_one_eq_mod]
  omega

theorem rot_spell (x n m : Nat) (h : n + m = 32) : bits .or .u32 ((x : Int) * 2 ^ m % 4294967296) ((x : Int) / 2 ^ (32 - m)) = ((rot x n : Nat) : Int) := by
  have e1 : ((x : Int) * 2 ^ m % 4294967296) = ((x * 2 ^ m % 4294967296 : Nat) : Int) := by simp
  have e2 : ((x : Int) / 2 ^ (32 - m)) = ((x / 2 ^ (32 - m) : Nat) : Int) := by simp
  rw [e1, e2, b_or, show 32 - m = n by omega, show m = 32 - n by omega]; rfl

theorem rot_spell2 (x n : Nat) (h : n ≤ 32) : bits .or .u32 ((x : Int) / 2 ^ n) ((x : Int) * 2 ^ (32 - n) % 4294967296) = ((rot x n : Nat) : Int) := by
  have e1 : ((x : Int) * 2 ^ (32 - n) % 4294967296) = ((x * 2 ^ (32 - n) % 4294967296 : Nat) : Int) := by simp
  have e2 : ((x : Int) / 2 ^ n) = ((x / 2 ^ n : Nat) : Int) := by simp
  rw [e1, e2, b_or, og_comm]; rfl
set_option maxHeartbeats 400000 in
theorem rotl_any (x n m : Nat) (w : World) (h1 : 1 ≤ n) (h2 : n + m = 32) (h3 : 1 ≤ m) :
    Calls Tryz.prog 115 #[.int .u32 x, .int .i64 (-(n : Int))] w fun e w' => e = .returned (.int .u32 (rot x n : Nat)) ∧ w = w' := by
  have hb := and31 n m h1 h2 h3
  have hm : m ≤ 31 := by omega
  have hm1 : (m : Int) ≤ 31 := by omega
  have H2 := Lib.hid h2; clear h2
  go_enter Tryz.func115, Tryz.ntmps115
  go_wp2
  go_ret
  exact ⟨hret (rot_spell x n m H2.out), rfl⟩
set_option maxHeartbeats 400000 in
theorem right_any (x n m : Nat) (w : World) (h1 : 1 ≤ n) (h2 : n + m = 32) (h3 : 1 ≤ m) :
    Calls Tryz.prog 109 #[.int .u32 x, .int .i64 (n : Int)] w fun e w' => e = .returned (.int .u32 (rot x n : Nat)) ∧ w = w' := by
  have hn : (n : Int) ≤ 31 := by omega
  have H2 := Lib.hid h2; clear h2
  go_enter Tryz.func109, Tryz.ntmps109
  go_wp2_with fail
  refine (rotl_any x n m _ h1 H2.out h3).mono ?_; rintro e w' ⟨rfl, rfl⟩
  go_wp2
  go_ret
  exact ⟨rfl, rfl⟩
theorem right_at (x n m : Nat) (i : Int) (w : World) (h1 : 1 ≤ n) (h2 : n + m = 32) (h3 : 1 ≤ m) (hi : (n : Int) = i) :
    Calls Tryz.prog 109 #[.int .u32 x, .int .i64 i] w fun e w' => e = .returned (.int .u32 (rot x n : Nat)) ∧ w = w' := by
  subst hi; exact right_any x n m w h1 h2 h3
set_option maxHeartbeats 400000 in
theorem rright_any (x n m : Nat) (w : World) (h1 : 1 ≤ n) (h2 : n + m = 32) (h3 : 1 ≤ m) :
    Calls Tryz.prog 93 #[.int .u32 x, .int .i64 (n : Int)] w fun e w' => e = .returned (.int .u32 (rot x n : Nat)) ∧ ∃ q, w.drewN q = w' := by
  have hn : (n : Int) ≤ 31 := by omega
  have hn0 : (0 : Int) ≤ (n : Int) := by omega
  have hn1 : n ≤ 31 := by omega
  have hn2 : (0 : Int) ≤ 32 - (n : Int) := by omega
  have hn3 : IntKind.i64.wrap (32 - (n : Int)) = 32 - (n : Int) := IntWalk.i64_in _ (by omega)
  have hn4 : (32 - (n : Int)).toNat = 32 - n := by omega
  have H2 := Lib.hid h2; clear h2
  go_enter Tryz.func93, Tryz.ntmps93
  go_wp2
  go_quiet (fail)
  go_wp2
  go_ret
  exact ⟨hret (rot_spell2 x n (by have := H2.out; omega)), _, rfl⟩
theorem rright_at (x n m : Nat) (i : Int) (w : World) (h1 : 1 ≤ n) (h2 : n + m = 32) (h3 : 1 ≤ m) (hi : (n : Int) = i) :
    Calls Tryz.prog 93 #[.int .u32 x, .int .i64 i] w fun e w' => e = .returned (.int .u32 (rot x n : Nat)) ∧ ∃ q, w.drewN q = w' := by
  subst hi; exact rright_any x n m w h1 h2 h3
theorem right_z (x : Nat) (i : Int) (w : World) (h1 : 1 ≤ i) (h2 : i ≤ 31) :
    Calls Tryz.prog 109 #[.int .u32 x, .int .i64 i] w fun e w' => e = .returned (.int .u32 (rot x i.toNat : Nat)) ∧ w = w' :=
  right_at x i.toNat (32 - i.toNat) i w (by omega) (by omega) (by omega) (by omega)
theorem rright_z (x : Nat) (i : Int) (w : World) (h1 : 1 ≤ i) (h2 : i ≤ 31) :
    Calls Tryz.prog 93 #[.int .u32 x, .int .i64 i] w fun e w' => e = .returned (.int .u32 (rot x i.toNat : Nat)) ∧ ∃ q, w.drewN q = w' :=
  rright_at x i.toNat (32 - i.toNat) i w (by omega) (by omega) (by omega) (by omega)
theorem q_left {P : Program} {f : FuncId} {args : Array Value} {w : World} {n : Nat} {v : Value}
    (h : Calls P f args (w.drewN n) fun e w' => e = .returned v ∧ w.drewN n = w') : Calls P f args (w.drewN n) fun e w'' => e = .returned v ∧ ∃ m, w'' = w.drewN m :=
  h.mono fun _ _ ⟨he, hm⟩ => ⟨he, n, hm.symm⟩
theorem q_some {P : Program} {f : FuncId} {args : Array Value} {w : World} {n : Nat} {v : Value}
    (h : Calls P f args (w.drewN n) fun e w' => e = .returned v ∧ ∃ q, (w.drewN n).drewN q = w') : Calls P f args (w.drewN n) fun e w'' => e = .returned v ∧ ∃ m, w'' = w.drewN m :=
  h.mono fun _ _ ⟨he, m, hm⟩ => ⟨he, n + m, by rw [← hm, World.drewN_drewN]⟩
theorem gen_world {p : World → Prop} {W : World} (S : World → Prop) (h1 : S W) (h2 : ∀ w', S w' → p w') : p W := h2 W h1
theorem wpList_store_fresh {P : Program} {ops : Array Oper} {rest : List Oper} {o : Oper} {a : Act} {w : World} {Q : Exit → Act → World → Prop} (hgd : o.guard = none) (ty : TypeId) (x y : Operand) (ho : o.op = .store ty x y)
    (cells : Array Value) (hx : a.eval x = .pointer (some ⟨w.heap.size, 0, none⟩)) (hy : a.eval y = .agg cells)
    (t : TypeId) (old : Array Value) (hi : (P.info? ty).map (·.size) = some cells.size)
    (hold : old.size = cells.size) (h1 : cells.all (·.oneCell') = true)
    (h : wpList P ops Q rest (a.put o.dst undef) (w.alloc (.cells cells t))) : wpList P ops Q (o :: rest) a (w.alloc (.cells old t)) :=
  wpList_store_row hgd ty x y ho w.heap.size cells hx hy t old (heap_alloc_last w _) hi hold h1 (by rw [World.setRow_alloc_new]; exact h)
/-- Eight words as cells. -/
def stC (s : St) : Array Value := #[.int .u32 (s.a : Nat), .int .u32 (s.b : Nat), .int .u32 (s.c : Nat), .int .u32 (s.d : Nat), .int .u32 (s.e : Nat), .int .u32 (s.f : Nat), .int .u32 (s.g : Nat), .int .u32 (s.h : Nat)]
/-- n words as cells. -/
def rowC (n : Nat) (f : Nat → Nat) : Array Value := ((List.range n).map fun i => Value.int .u32 (f i : Nat)).toArray
theorem rowC_size (n : Nat) (f : Nat → Nat) : (rowC n f).size = n := by simp [rowC]
theorem rowC_get (n : Nat) (f : Nat → Nat) (i : Nat) (h : i < n) : (rowC n f)[i]? = some (.int .u32 (f i : Nat)) := by simp [rowC, h]
theorem Tryz.und115a : Tryz.prog.underlying 115 = some (.array 8 103) := by kernel_rfl
theorem Tryz.und121a : Tryz.prog.underlying 121 = some (.array 64 103) := by kernel_rfl
theorem Tryz.siz115a : (Tryz.prog.info? 115).map (·.size) = some 8 := by kernel_rfl
theorem Tryz.siz121a : (Tryz.prog.info? 121).map (·.size) = some 64 := by kernel_rfl
set_option maxHeartbeats 400000 in
theorem start_any (w : World) :
    Calls Tryz.prog 97 #[] w fun e w' => e = .returned (.agg (stC st0)) ∧ Below w.heap.size w w' := by
  go_enter Tryz.func97, Tryz.ntmps97
  go_wp2
  exact bodyPost_ret (v := .agg (stC st0)) (results_cell_row rfl _ _ w.heap.size 115 (stC st0) (0, 0) _ rfl (heap_alloc_last w _) Tryz.und115a rfl Tryz.siz115a) rfl ⟨rfl, (Below.refl _ _).alloc (Nat.le_refl _) _⟩
def kInts : List Int := kTab.map Int.ofNat
def kRow : Array Value := (kInts.map (Value.int .u32)).toArray
theorem kRow_get (i : Nat) (h : i < 64) : kRow[i]? = some (.int .u32 (kTab.getD i 0 : Nat)) := by
  have h' : i < kTab.length := h
  simp [kRow, kInts, List.getElem?_map, List.getElem?_eq_getElem h', List.getD_eq_getElem?_getD]
theorem kRow_size : kRow.size = 64 := by kernel_rfl
theorem kRow_one : kRow.all (·.oneCell') = true := by kernel_rfl
set_option maxHeartbeats 400000 in
set_option maxRecDepth 100000 in
theorem constants_any (w : World) :
    Calls Tryz.prog 108 #[] w fun e w' => e = .returned (.agg kRow) ∧ Below w.heap.size w w' := by
  go_enter Tryz.func108, Tryz.ntmps108
  go_wp2_with (first | (refine wpList_buildFlatArr rfl 121 103 64 _ rfl .u32 kInts Tryz.und121a (by kernel_rfl) (by kernel_rfl) (by kernel_rfl) ?_) | (refine wpList_store_row rfl 121 _ _ rfl w.heap.size kRow rfl rfl 121 _ (heap_alloc_last w _) (by kernel_rfl) (by kernel_rfl) kRow_one ?_))
  rw [World.setRow_alloc_new]
  exact bodyPost_ret (v := .agg kRow) (results_cell_row rfl _ _ w.heap.size 121 kRow (0, 0) _ rfl (heap_alloc_last w _) Tryz.und121a rfl (by kernel_rfl)) rfl ⟨rfl, (Below.refl _ _).alloc (Nat.le_refl _) _⟩
end Go.Proofs.YtehbbghobagkjaaGreatDoor
