/-
  SHA-256 and HMAC in plain arithmetic of natural numbers, and the three examples of the chapter, calculated.
-/
import Init
namespace Go.Proofs.YtehbbghobagkjaaGreatDoor
set_option linter.unusedVariables false
/-! Words of 32 bits. -/
def xr (a b : Nat) : Nat := (a ^^^ b) % 4294967296
def an (a b : Nat) : Nat := (a &&& b) % 4294967296
def og (a b : Nat) : Nat := (a ||| b) % 4294967296
def pl (a b : Nat) : Nat := (a + b) % 4294967296
def nt (a : Nat) : Nat := xr 4294967295 a
def rot (x n : Nat) : Nat := og ((x * 2 ^ (32 - n)) % 4294967296) (x / 2 ^ n)
/-- The state. -/
structure St where
  a : Nat
  b : Nat
  c : Nat
  d : Nat
  e : Nat
  f : Nat
  g : Nat
  h : Nat
def t1 (s : St) (k w : Nat) : Nat := pl (pl (pl (pl s.h (xr (xr (rot s.e 6) (rot s.e 11)) (rot s.e 25))) (xr (an s.e s.f) (an (nt s.e) s.g))) k) w
def t2 (s : St) : Nat := pl (xr (xr (rot s.a 2) (rot s.a 13)) (rot s.a 22)) (xr (xr (an s.a s.b) (an s.a s.c)) (an s.b s.c))
def rnd (k w : Nat) (s : St) : St := ⟨pl (t1 s k w) (t2 s), s.a, s.b, s.c, pl s.d (t1 s k w), s.e, s.f, s.g⟩
def rnds (K W : Nat → Nat) : Nat → St → St
  | 0, s => s
  | n + 1, s => rnd (K n) (W n) (rnds K W n s)
def addS (s t : St) : St := ⟨pl s.a t.a, pl s.b t.b, pl s.c t.c, pl s.d t.d, pl s.e t.e, pl s.f t.f, pl s.g t.g, pl s.h t.h⟩
def sig0 (x : Nat) : Nat := xr (xr (rot x 7) (rot x 18)) (x / 8)
def sig1 (y : Nat) : Nat := xr (xr (rot y 17) (rot y 19)) (y / 1024)
/-- The words of a schedule, one behind the other. -/
def grow : Nat → List Nat → List Nat
  | 0, l => l
  | n + 1, l => let m := grow n l; m ++ [pl (pl (pl (m.getD n 0) (sig0 (m.getD (n + 1) 0))) (m.getD (n + 9) 0)) (sig1 (m.getD (n + 14) 0))]
def bv (l : List UInt8) : Nat := l.foldl (fun n c => n * 256 + c.toNat) 0
def words16 (l : List UInt8) : List Nat := (List.range 16).map fun i => bv ((l.drop (4 * i)).take 4)
def sched (l : List UInt8) : List Nat := grow 48 (words16 l)
def kTab : List Nat := [
    0x428a2f98, 0x71374491, 0xb5c0fbcf, 0xe9b5dba5, 0x3956c25b, 0x59f111f1, 0x923f82a4, 0xab1c5ed5,
    0xd807aa98, 0x12835b01, 0x243185be, 0x550c7dc3, 0x72be5d74, 0x80deb1fe, 0x9bdc06a7, 0xc19bf174,
    0xe49b69c1, 0xefbe4786, 0x0fc19dc6, 0x240ca1cc, 0x2de92c6f, 0x4a7484aa, 0x5cb0a9dc, 0x76f988da,
    0x983e5152, 0xa831c66d, 0xb00327c8, 0xbf597fc7, 0xc6e00bf3, 0xd5a79147, 0x06ca6351, 0x14292967,
    0x27b70a85, 0x2e1b2138, 0x4d2c6dfc, 0x53380d13, 0x650a7354, 0x766a0abb, 0x81c2c92e, 0x92722c85,
    0xa2bfe8a1, 0xa81a664b, 0xc24b8b70, 0xc76c51a3, 0xd192e819, 0xd6990624, 0xf40e3585, 0x106aa070,
    0x19a4c116, 0x1e376c08, 0x2748774c, 0x34b0bcb5, 0x391c0cb3, 0x4ed8aa4a, 0x5b9cca4f, 0x682e6ff3,
    0x748f82ee, 0x78a5636f, 0x84c87814, 0x8cc70208, 0x90befffa, 0xa4506ceb, 0xbef9a3f7, 0xc67178f2]
def comp (s : St) (blk : List UInt8) : St := addS (rnds (fun i => kTab.getD i 0) (fun i => (sched blk).getD i 0) 64 s) s
def st0 : St := ⟨0x6a09e667, 0xbb67ae85, 0x3c6ef372, 0xa54ff53a, 0x510e527f, 0x9b05688c, 0x1f83d9ab, 0x5be0cd19⟩
def absb : Nat → St → List UInt8 → St
  | 0, s, _ => s
  | n + 1, s, l => comp (absb n s l) ((l.drop (64 * n)).take 64)
def w4 (x : Nat) : List UInt8 := [UInt8.ofNat (x / 16777216 % 256), UInt8.ofNat (x / 65536 % 256), UInt8.ofNat (x / 256 % 256), UInt8.ofNat (x % 256)]
def outS (s : St) : List UInt8 := w4 s.a ++ w4 s.b ++ w4 s.c ++ w4 s.d ++ w4 s.e ++ w4 s.f ++ w4 s.g ++ w4 s.h
def be8 (k n : Nat) : List UInt8 := (List.range k).map fun i => UInt8.ofNat (n / 256 ^ (k - 1 - i) % 256)
def padz (n : Nat) : Nat := (119 - n % 64) % 64
def padT (n : Nat) : List UInt8 := [128] ++ List.replicate (padz n) 0 ++ be8 8 (8 * n)
def pad (l : List UInt8) : List UInt8 := l ++ padT l.length
def shaL (l : List UInt8) : List UInt8 := outS (absb ((pad l).length / 64) st0 (pad l))

/-! The same, calculated at once. -/
def fc {α : Type} (n : Nat) (f : Nat → α) : α := Nat.rec (f 0) (fun m _ => f (Nat.succ m)) n
theorem fc_eq {α : Type} (n : Nat) (f : Nat → α) : fc n f = f n := by cases n <;> rfl
def rndsE : List Nat → List Nat → Nat → Nat → Nat → Nat → Nat → Nat → Nat → Nat → St
  | k :: K, w :: W, a, b, c, d, e, f, g, h => fc (t1 ⟨a, b, c, d, e, f, g, h⟩ k w) fun t => fc (pl t (t2 ⟨a, b, c, d, e, f, g, h⟩)) fun x => fc (pl d t) fun y => rndsE K W x a b c y e f g
  | _, _, a, b, c, d, e, f, g, h => ⟨a, b, c, d, e, f, g, h⟩
def growE : Nat → List Nat → List Nat
  | 0, l => l
  | n + 1, l => fc (pl (pl (pl (l.getD 15 0) (sig0 (l.getD 14 0))) (l.getD 6 0)) (sig1 (l.getD 1 0))) fun x => growE n (x :: l)
def forceL : List Nat → (List Nat → List Nat) → List Nat
  | [], k => k []
  | x :: l, k => fc x fun y => forceL l fun m => k (y :: m)
def forceS {α : Type} (s : St) (k : Nat → Nat → Nat → Nat → Nat → Nat → Nat → Nat → α) : α :=
  match s with
  | ⟨a, b, c, d, e, f, g, h⟩ => fc a fun a => fc b fun b => fc c fun c => fc d fun d => fc e fun e => fc f fun f => fc g fun g => fc h fun h => k a b c d e f g h
def compE (s : St) (W : List Nat) : St := forceS s fun a b c d e f g h => forceS (rndsE kTab W a b c d e f g h) fun a1 b1 c1 d1 e1 f1 g1 h1 =>
  forceS ⟨pl a1 a, pl b1 b, pl c1 c, pl d1 d, pl e1 e, pl f1 f, pl g1 g, pl h1 h⟩ St.mk
def schedE (l : List UInt8) : List Nat := forceL (growE 48 (forceL (words16 l) List.reverse)) List.reverse

def absbE : Nat → St → List UInt8 → St
  | 0, s, _ => s
  | n + 1, s, l => absbE n (compE s (schedE (l.take 64))) (l.drop 64)
def shaE (l : List UInt8) : List UInt8 := forceS (absbE ((pad l).length / 64) st0 (pad l)) fun a b c d e f g h => outS ⟨a, b, c, d, e, f, g, h⟩

theorem forceL_eq : ∀ (l : List Nat) (k : List Nat → List Nat), forceL l k = k l
  | [], k => rfl
  | x :: l, k => by rw [forceL, fc_eq, forceL_eq l]
theorem forceS_eq {α : Type} (s : St) (k : Nat → Nat → Nat → Nat → Nat → Nat → Nat → Nat → α) : forceS s k = k s.a s.b s.c s.d s.e s.f s.g s.h := by
  cases s; simp only [forceS, fc_eq]
theorem rndsE_eq (K W : List Nat) (s : St) (hw : W.length = K.length) : ∀ m n, n + m = K.length →
    rndsE (K.drop n) (W.drop n) (rnds (fun i => K.getD i 0) (fun i => W.getD i 0) n s).a (rnds (fun i => K.getD i 0) (fun i => W.getD i 0) n s).b (rnds (fun i => K.getD i 0) (fun i => W.getD i 0) n s).c (rnds (fun i => K.getD i 0) (fun i => W.getD i 0) n s).d (rnds (fun i => K.getD i 0) (fun i => W.getD i 0) n s).e (rnds (fun i => K.getD i 0) (fun i => W.getD i 0) n s).f (rnds (fun i => K.getD i 0) (fun i => W.getD i 0) n s).g (rnds (fun i => K.getD i 0) (fun i => W.getD i 0) n s).h = rnds (fun i => K.getD i 0) (fun i => W.getD i 0) K.length s
  | 0, n, h => by
    obtain rfl : n = K.length := by omega
    rw [List.drop_length]
    rfl
  | m + 1, n, h => by
    have hk : n < K.length := by omega
    have hw' : n < W.length := by omega
    rw [List.drop_eq_getElem_cons hk, List.drop_eq_getElem_cons hw']
    simp only [rndsE, fc_eq]
    have e := rndsE_eq K W s hw m (n + 1) (by omega)
    simp only [rnds, rnd, List.getD_eq_getElem?_getD, List.getElem?_eq_getElem hk, List.getElem?_eq_getElem hw', Option.getD_some] at e ⊢
    exact e
theorem grow_length (l : List Nat) : ∀ n, (grow n l).length = l.length + n
  | 0 => rfl
  | n + 1 => by simp only [grow, List.length_append, grow_length l n]; rfl
theorem rev_getD (m : List Nat) (i : Nat) (h : i < m.length) : m.reverse.getD i 0 = m.getD (m.length - 1 - i) 0 := by
  have h2 : m.length - 1 - i < m.length := by omega
  simp [List.getD_eq_getElem?_getD, h, List.getElem?_eq_getElem h2]
theorem growE_eq (l : List Nat) (hl : l.length = 16) : ∀ m n, growE m (grow n l).reverse = (grow (n + m) l).reverse
  | 0, n => rfl
  | m + 1, n => by
    have hg := grow_length l n
    rw [growE, fc_eq, rev_getD _ _ (by omega), rev_getD _ _ (by omega), rev_getD _ _ (by omega), rev_getD _ _ (by omega),
      show (grow n l).length - 1 - 15 = n by omega, show (grow n l).length - 1 - 14 = n + 1 by omega, show (grow n l).length - 1 - 6 = n + 9 by omega, show (grow n l).length - 1 - 1 = n + 14 by omega]
    have e := growE_eq l hl m (n + 1)
    rw [show n + (m + 1) = n + 1 + m by omega, ← e]
    congr 1
    simp only [grow, List.reverse_append, List.reverse_cons, List.reverse_nil, List.nil_append, List.singleton_append]
theorem words16_length (l : List UInt8) : (words16 l).length = 16 := by simp [words16]
theorem sched_length (l : List UInt8) : (sched l).length = 64 := by simp [sched, grow_length, words16_length]
theorem schedE_eq (l : List UInt8) : schedE l = sched l := by
  have e := growE_eq (words16 l) (words16_length l) 48 0
  simp only [schedE, forceL_eq]
  rw [show (words16 l).reverse = (grow 0 (words16 l)).reverse from rfl, e, List.reverse_reverse]
  rfl
theorem compE_eq (s : St) (l : List UInt8) : compE s (sched l) = comp s l := by
  have e := rndsE_eq kTab (sched l) s (by rw [sched_length]; rfl) 64 0 rfl
  simp only [compE, forceS_eq]
  rw [show rndsE kTab (sched l) s.a s.b s.c s.d s.e s.f s.g s.h = _ from e]
  rfl
theorem absbE_eq (s : St) (l : List UInt8) : ∀ n k, absbE n (absb k s l) (l.drop (64 * k)) = absb (k + n) s l
  | 0, k => rfl
  | n + 1, k => by
    have e := absbE_eq s l n (k + 1)
    rw [absbE, schedE_eq, compE_eq, List.drop_drop, show 64 * k + 64 = 64 * (k + 1) by omega, show k + (n + 1) = k + 1 + n by omega, ← e]
    rfl
theorem shaE_eq (l : List UInt8) : shaE l = shaL l := by
  have e := absbE_eq st0 (pad l) ((pad l).length / 64) 0
  simp only [shaE, forceS_eq, shaL]
  rw [show absbE ((pad l).length / 64) st0 (pad l) = _ from e, Nat.zero_add]
theorem absb_front (s : St) (A B : List UInt8) : ∀ k, 64 * k ≤ A.length → absb k s (A ++ B) = absb k s A
  | 0, _ => rfl
  | k + 1, h => by
    simp only [absb]
    rw [absb_front s A B k (by omega), List.drop_append_of_le_length (by omega), List.take_append_of_le_length (by simp; omega)]
theorem absb_append (s : St) (A B : List UInt8) (m : Nat) (hm : A.length = 64 * m) : ∀ n, absb (m + n) s (A ++ B) = absb n (absb m s A) B
  | 0 => absb_front s A B m (by omega)
  | n + 1 => by
    rw [← Nat.add_assoc]
    simp only [absb]
    rw [absb_append s A B m hm n, show 64 * (m + n) = A.length + 64 * n by omega, ← List.drop_drop, List.drop_left]
theorem bv_foldl (l : List UInt8) (a : Nat) : l.foldl (fun n c => n * 256 + c.toNat) a = a * 256 ^ l.length + bv l := by
  unfold bv
  induction l generalizing a with
  | nil => simp
  | cons c l ih =>
    simp only [List.foldl_cons, List.length_cons]
    rw [ih, ih (0 * 256 + c.toNat), Nat.zero_mul, Nat.zero_add, Nat.add_mul, Nat.pow_succ, Nat.mul_assoc, Nat.mul_comm 256, Nat.add_assoc]
theorem bv_snoc (l : List UInt8) (c : UInt8) : bv (l ++ [c]) = bv l * 256 + c.toNat := by simp [bv]
theorem bv_cons (c : UInt8) (l : List UInt8) : bv (c :: l) = c.toNat * 256 ^ l.length + bv l := by
  have := bv_foldl l (0 * 256 + c.toNat)
  rw [Nat.zero_mul, Nat.zero_add] at this
  rw [← this]; simp [bv]
theorem bv_lt : ∀ l : List UInt8, bv l < 256 ^ l.length
  | [] => by simp [bv]
  | c :: l => by
    have ih := bv_lt l
    have hc := c.toNat_lt
    have h1 := Nat.mul_le_mul_right (256 ^ l.length) (show c.toNat + 1 ≤ 256 by omega)
    rw [bv_cons, List.length_cons, Nat.pow_succ]
    rw [Nat.add_mul] at h1
    omega
/-- The words of the first k bytes of a block. -/
def pw (l : List UInt8) (k j : Nat) : Nat := bv (((l.take k).drop (4 * j)).take 4)
theorem pw_zero (l : List UInt8) (j : Nat) : pw l 0 j = 0 := by simp [pw, bv]
theorem pw_full (l : List UInt8) (hl : l.length = 64) (j : Nat) : pw l 64 j = (words16 l).getD j 0 := by
  have ht : l.take 64 = l := List.take_of_length_le (by omega)
  by_cases h : j < 16
  · simp [pw, words16, ht, List.getD_eq_getElem?_getD, h]
  · have : (l.drop (4 * j)) = [] := List.drop_of_length_le (by omega)
    simp [pw, words16, ht, List.getD_eq_getElem?_getD, h, this, bv]
theorem pw_other (l : List UInt8) (k j : Nat) (hk : k < l.length) (h : j ≠ k / 4) : pw l (k + 1) j = pw l k j := by
  unfold pw
  rw [List.take_succ_eq_append_getElem hk]
  by_cases h1 : 4 * j ≤ k
  · have h2 : 4 ≤ ((l.take k).drop (4 * j)).length := by simp; omega
    rw [List.drop_append_of_le_length (by simp; omega), List.take_append_of_le_length h2]
  · rw [List.drop_of_length_le (by simp; omega), List.drop_of_length_le (by simp; omega)]
theorem pw_at (l : List UInt8) (k : Nat) (hk : k < l.length) : pw l (k + 1) (k / 4) = pw l k (k / 4) * 256 + l[k].toNat := by
  unfold pw
  have h1 : ((l.take k).drop (4 * (k / 4))).length ≤ 3 := by simp; omega
  rw [List.take_succ_eq_append_getElem hk, List.drop_append_of_le_length (by simp; omega), List.take_of_length_le (by simp at h1 ⊢; omega), List.take_of_length_le (l := (l.take k).drop (4 * (k / 4))) (by omega), bv_snoc]
theorem pw_lt (l : List UInt8) (k : Nat) : pw l k (k / 4) < 16777216 := by
  unfold pw
  refine Nat.lt_of_lt_of_le (bv_lt _) ?_
  exact Nat.le_trans (Nat.pow_le_pow_right (by omega) (show _ ≤ 3 by simp; omega)) (by decide)
theorem pw_lt32 (l : List UInt8) (k j : Nat) : pw l k j < 4294967296 := by
  unfold pw
  refine Nat.lt_of_lt_of_le (bv_lt _) ?_
  exact Nat.le_trans (Nat.pow_le_pow_right (by omega) (show _ ≤ 4 by simp; omega)) (by decide)
theorem pl_lt (a b : Nat) : pl a b < 4294967296 := Nat.mod_lt _ (by decide)
theorem xr_lt (a b : Nat) : xr a b < 4294967296 := Nat.mod_lt _ (by decide)
theorem an_lt (a b : Nat) : an a b < 4294967296 := Nat.mod_lt _ (by decide)
theorem og_lt (a b : Nat) : og a b < 4294967296 := Nat.mod_lt _ (by decide)
theorem rot_lt (a b : Nat) : rot a b < 4294967296 := og_lt _ _
theorem words16_lt (l : List UInt8) (j : Nat) : (words16 l).getD j 0 < 4294967296 := by
  by_cases h : j < 16
  · simp only [words16, List.getD_eq_getElem?_getD]
    simp [h]
    refine Nat.lt_of_lt_of_le (bv_lt _) ?_
    exact Nat.le_trans (Nat.pow_le_pow_right (by omega) (show _ ≤ 4 by simp; omega)) (by decide)
  · simp [words16, List.getD_eq_getElem?_getD, h]
theorem grow_succ (n : Nat) (l : List Nat) : grow (n + 1) l = grow n l ++ [pl (pl (pl ((grow n l).getD n 0) (sig0 ((grow n l).getD (n + 1) 0))) ((grow n l).getD (n + 9) 0)) (sig1 ((grow n l).getD (n + 14) 0))] := by
  rw [grow]
theorem getD_snoc (m : List Nat) (x : Nat) (i : Nat) (h : i = m.length) : (m ++ [x]).getD i 0 = x := by subst h; simp [List.getD_eq_getElem?_getD]
theorem getD_snoc_ne (m : List Nat) (x : Nat) (i : Nat) (h : i ≠ m.length) : (m ++ [x]).getD i 0 = m.getD i 0 := by
  rw [List.getD_eq_getElem?_getD, List.getD_eq_getElem?_getD, List.getElem?_append]
  split
  · rfl
  · rw [List.getElem?_singleton, if_neg (by omega), List.getElem?_eq_none (by omega)]
theorem grow_getD_lt (l : List Nat) (h : ∀ j, l.getD j 0 < 4294967296) (n : Nat) : ∀ j, (grow n l).getD j 0 < 4294967296 := by
  induction n with
  | zero => intro j; rw [grow]; exact h j
  | succ n ih =>
    intro j
    rw [grow_succ]
    by_cases e : j = (grow n l).length
    · rw [getD_snoc _ _ _ e]; exact pl_lt _ _
    · rw [getD_snoc_ne _ _ _ e]; exact ih j
/-- The words of a schedule behind n steps. -/
def gw (l : List UInt8) (n j : Nat) : Nat := (grow n (words16 l)).getD j 0
theorem gw_lt (l : List UInt8) (n j : Nat) : gw l n j < 4294967296 := grow_getD_lt _ (words16_lt l) n j
theorem gw_other (l : List UInt8) (n j : Nat) (h : j ≠ n + 16) : gw l (n + 1) j = gw l n j := by
  have hl := grow_length (words16 l) n
  rw [words16_length] at hl
  unfold gw
  rw [grow_succ, getD_snoc_ne _ _ _ (by omega)]
theorem gw_at (l : List UInt8) (n : Nat) : gw l (n + 1) (n + 16) = pl (pl (pl (gw l n n) (sig0 (gw l n (n + 1)))) (gw l n (n + 9))) (sig1 (gw l n (n + 14))) := by
  have hl := grow_length (words16 l) n
  rw [words16_length] at hl
  unfold gw
  rw [grow_succ, getD_snoc _ _ _ (by omega)]
theorem gw_all (l : List UInt8) (j : Nat) : gw l 48 j = (sched l).getD j 0 := rfl
theorem gw_zero (l : List UInt8) (j : Nat) : gw l 0 j = (words16 l).getD j 0 := rfl
def OkS (s : St) : Prop := s.a < 4294967296 ∧ s.b < 4294967296 ∧ s.c < 4294967296 ∧ s.d < 4294967296 ∧ s.e < 4294967296 ∧ s.f < 4294967296 ∧ s.g < 4294967296 ∧ s.h < 4294967296
theorem rnd_ok {s : St} (k w : Nat) (h : OkS s) : OkS (rnd k w s) := ⟨pl_lt _ _, h.1, h.2.1, h.2.2.1, pl_lt _ _, h.2.2.2.2.1, h.2.2.2.2.2.1, h.2.2.2.2.2.2.1⟩
theorem rnds_ok {K W : Nat → Nat} {s : St} (h : OkS s) : ∀ n, OkS (rnds K W n s)
  | 0 => h
  | n + 1 => rnd_ok _ _ (rnds_ok h n)
theorem addS_ok (s t : St) : OkS (addS s t) := ⟨pl_lt _ _, pl_lt _ _, pl_lt _ _, pl_lt _ _, pl_lt _ _, pl_lt _ _, pl_lt _ _, pl_lt _ _⟩
theorem st0_ok : OkS st0 := by unfold OkS st0; decide
theorem absb_ok {s : St} (l : List UInt8) (h : OkS s) : ∀ n, OkS (absb n s l)
  | 0 => h
  | n + 1 => addS_ok _ _
theorem kTab_lt (j : Nat) : kTab.getD j 0 < 4294967296 := by
  by_cases h : j < 64
  · exact (by decide +kernel : ∀ j, j < 64 → kTab.getD j 0 < 4294967296) j h
  · rw [List.getD_eq_getElem?_getD, List.getElem?_eq_none (by simp [kTab]; omega)]; simp
theorem be8_length (k n : Nat) : (be8 k n).length = k := by simp [be8]
theorem padT_length (n : Nat) : (padT n).length = 9 + padz n := by simp [padT, be8_length]; omega
theorem pad_length (l : List UInt8) : (pad l).length = l.length + 9 + padz l.length := by simp [pad, padT_length]; omega
theorem pad_mod (n : Nat) : (n + 9 + padz n) % 64 = 0 := by unfold padz; omega
theorem w4_length (x : Nat) : (w4 x).length = 4 := rfl
theorem outS_length (s : St) : (outS s).length = 32 := rfl
theorem shaL_length (l : List UInt8) : (shaL l).length = 32 := rfl
theorem sha_split (l : List UInt8) : shaL l = outS (absb ((l.drop (l.length - l.length % 64) ++ padT l.length).length / 64) (absb ((l.length - l.length % 64) / 64) st0 (l.take (l.length - l.length % 64))) (l.drop (l.length - l.length % 64) ++ padT l.length)) := by
  have hp := pad_mod l.length
  have e : pad l = l.take (l.length - l.length % 64) ++ (l.drop (l.length - l.length % 64) ++ padT l.length) := by
    rw [← List.append_assoc, List.take_append_drop]; rfl
  have hl := pad_length l
  have h1 : (l.take (l.length - l.length % 64)).length = 64 * ((l.length - l.length % 64) / 64) := by simp; omega
  rw [← absb_append _ _ _ _ h1, ← e]
  unfold shaL
  congr 2
  have h2 : (l.drop (l.length - l.length % 64) ++ padT l.length).length = l.length % 64 + 9 + padz l.length := by
    rw [List.length_append, padT_length, List.length_drop]; omega
  rw [h2, hl]; omega
/-! Codes. -/
def hd (n : Nat) : UInt8 := if n < 10 then UInt8.ofNat (48 + n) else UInt8.ofNat (87 + n)
def hexL (l : List UInt8) : List UInt8 := l.flatMap fun c => [hd (c.toNat / 16), hd (c.toNat % 16)]
def maskL (k : List UInt8) (x : UInt8) : List UInt8 := (List.range 64).map fun i => k.getD i 0 ^^^ x
def shortK (k : List UInt8) : List UInt8 := if 64 < k.length then shaL k else k
def macL (k s : List UInt8) : List UInt8 := shaL (maskL (shortK k) 92 ++ shaL (maskL (shortK k) 54 ++ s))
theorem maskL_length (k : List UInt8) (x : UInt8) : (maskL k x).length = 64 := by simp [maskL]
theorem hexL_length (l : List UInt8) : (hexL l).length = 2 * l.length := by
  induction l with
  | nil => rfl
  | cons c l ih => simp only [hexL, List.flatMap_cons, List.length_append, List.length_cons] at ih ⊢; rw [ih]; simp; omega
def forceB : List UInt8 → (List UInt8 → List UInt8) → List UInt8
  | [], k => k []
  | x :: l, k => fc x.toNat fun y => forceB l fun m => k (UInt8.ofNat y :: m)
theorem forceB_eq : ∀ (l : List UInt8) (k : List UInt8 → List UInt8), forceB l k = k l
  | [], k => rfl
  | x :: l, k => by rw [forceB, fc_eq, forceB_eq l, UInt8.ofNat_toNat]
def hexE (l : List UInt8) : List UInt8 := forceB (shaE l) hexL
theorem hexE_eq (l : List UInt8) : hexE l = hexL (shaL l) := by rw [hexE, forceB_eq, shaE_eq]
def macE (k s : List UInt8) : List UInt8 := forceB (shaE (maskL k 54 ++ s)) fun m => forceB (shaE (maskL k 92 ++ m)) hexL
theorem macE_eq (k s : List UInt8) (h : k.length ≤ 64) : macE k s = hexL (macL k s) := by
  unfold macE macL shortK; rw [if_neg (by omega), forceB_eq, forceB_eq, shaE_eq, shaE_eq]
set_option maxRecDepth 1000000 in
theorem ex_abc : hexL (shaL [97, 98, 99]) = [98, 97, 55, 56, 49, 54, 98, 102, 56, 102, 48, 49, 99, 102, 101, 97, 52, 49, 52, 49, 52, 48, 100, 101, 53, 100, 97, 101, 50, 50, 50, 51, 98, 48, 48, 51, 54, 49, 97, 51, 57, 54, 49, 55, 55, 97, 57, 99, 98, 52, 49, 48, 102, 102, 54, 49, 102, 50, 48, 48, 49, 53, 97, 100] := by
  rw [← hexE_eq]; decide +kernel
set_option maxRecDepth 1000000 in
theorem ex_nil : hexL (shaL []) = [101, 51, 98, 48, 99, 52, 52, 50, 57, 56, 102, 99, 49, 99, 49, 52, 57, 97, 102, 98, 102, 52, 99, 56, 57, 57, 54, 102, 98, 57, 50, 52, 50, 55, 97, 101, 52, 49, 101, 52, 54, 52, 57, 98, 57, 51, 52, 99, 97, 52, 57, 53, 57, 57, 49, 98, 55, 56, 53, 50, 98, 56, 53, 53] := by
  rw [← hexE_eq]; decide +kernel
set_option maxRecDepth 1000000 in
theorem ex_jefe : hexL (macL [74, 101, 102, 101] [119, 104, 97, 116, 32, 100, 111, 32, 121, 97, 32, 119, 97, 110, 116, 32, 102, 111, 114, 32, 110, 111, 116, 104, 105, 110, 103, 63]) = [53, 98, 100, 99, 99, 49, 52, 54, 98, 102, 54, 48, 55, 53, 52, 101, 54, 97, 48, 52, 50, 52, 50, 54, 48, 56, 57, 53, 55, 53, 99, 55, 53, 97, 48, 48, 51, 102, 48, 56, 57, 100, 50, 55, 51, 57, 56, 51, 57, 100, 101, 99, 53, 56, 98, 57, 54, 52, 101, 99, 51, 56, 52, 51] := by
  rw [← macE_eq _ _ (by simp)]; decide +kernel
end Go.Proofs.YtehbbghobagkjaaGreatDoor
