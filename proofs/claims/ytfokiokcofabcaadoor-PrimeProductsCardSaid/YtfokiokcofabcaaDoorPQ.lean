/-
  Several parts in one text (PQ).
-/
import Derived.Test.YtfokiokcofabcaaDoorQR
/-
  Number theory: Fermat's little theorem; primes pass the strong test; a divisor as a base fails it.
-/
namespace Go.Proofs.YtfokiokcofabcaaDoor.QR
set_option linter.unusedVariables false

/-! ### Fermat -/
def prodL : List Nat → Nat
  | [] => 1
  | x :: l => x * prodL l
theorem prodL_erase {a : Nat} : ∀ {l : List Nat}, a ∈ l → prodL l = a * prodL (l.erase a) := by
  intro l
  induction l with
  | nil => intro h; cases h
  | cons x l ih =>
    intro h
    by_cases e : x = a
    · subst e; rw [List.erase_cons_head, prodL]
    · rw [List.erase_cons_tail (by simpa using e), prodL, prodL]
      rcases List.mem_cons.1 h with q | q
      · exact absurd q.symm e
      · rw [ih q, Nat.mul_left_comm]
def fact : Nat → Nat
  | 0 => 1
  | n + 1 => (n + 1) * fact n
theorem prodL_fact : ∀ (n : Nat) (l : List Nat), l.Nodup → (∀ x, x ∈ l → 1 ≤ x ∧ x ≤ n) → l.length = n → prodL l = fact n := by
  intro n
  induction n with
  | zero => intro l _ _ h; rw [List.eq_nil_of_length_eq_zero h]; rfl
  | succ n ih =>
    intro l hl h hn
    have hm : n + 1 ∈ l := pigeon hl h hn ⟨by omega, Nat.le_refl _⟩
    rw [prodL_erase hm, fact, ih (l.erase (n + 1)) (hl.erase _) (fun x hx => ?_) (by rw [List.length_erase_of_mem hm, hn]; rfl)]
    have h3 := (List.Nodup.mem_erase_iff hl).1 hx
    have h4 := h x h3.2
    have h5 := h3.1
    omega
theorem fact_mod {p : Nat} (hp : Pr p) : ∀ n, n < p → fact n % p ≠ 0 := by
  intro n
  induction n with
  | zero => intro _; have := hp.1; rw [fact, Nat.mod_eq_of_lt (by omega)]; omega
  | succ n ih =>
    intro h
    rw [fact]
    exact nz_mul hp (by rw [Nat.mod_eq_of_lt h]; omega) (ih (by omega))
theorem prodL_map (a p : Nat) : ∀ l : List Nat, prodL (l.map fun x => a * x % p) % p = a ^ l.length * prodL l % p := by
  intro l
  induction l with
  | nil => rfl
  | cons x l ih =>
    rw [List.map_cons, prodL, prodL, List.length_cons, Nat.mul_mod, ih, Nat.mod_mod, ← Nat.mul_mod, Nat.pow_succ]
    congr 1
    simp only [Nat.mul_assoc, Nat.mul_left_comm]
theorem fermat {p a : Nat} (hp : Pr p) (ha : ¬ p ∣ a) : a ^ (p - 1) % p = 1 := by
  have hp2 := hp.1
  have n0 : ((List.range (p - 1)).map fun i => i + 1).Nodup := nodup_map List.nodup_range fun x _ y _ e => by omega
  have hm : ∀ x, x ∈ ((List.range (p - 1)).map fun i => i + 1) → 1 ≤ x ∧ x ≤ p - 1 := by
    intro x hx
    obtain ⟨i, hi, rfl⟩ := List.mem_map.1 hx
    have := List.mem_range.1 hi
    omega
  obtain ⟨L, hL⟩ : ∃ L, L = (List.range (p - 1)).map fun i => i + 1 := ⟨_, rfl⟩
  have hlen : L.length = p - 1 := by rw [hL]; simp
  rw [← hL] at n0 hm
  have n1 : (L.map fun x => a * x % p).Nodup := nodup_map n0 fun x hx y hy e => mul_cancel hp ha (by have := hm x hx; omega) (by have := hm y hy; omega) e
  have hm1 : ∀ x, x ∈ (L.map fun x => a * x % p) → 1 ≤ x ∧ x ≤ p - 1 := by
    intro x hx
    obtain ⟨i, hi, rfl⟩ := List.mem_map.1 hx
    have h1 := hm i hi
    have : a * i % p ≠ 0 := nz_mul hp (fun e => ha (Nat.dvd_of_mod_eq_zero e)) (by rw [Nat.mod_eq_of_lt (by omega)]; omega)
    have := Nat.mod_lt (a * i) (show 0 < p by omega)
    show 1 ≤ a * i % p ∧ a * i % p ≤ p - 1
    omega
  have e1 := prodL_fact (p - 1) L n0 hm hlen
  have e2 := prodL_fact (p - 1) _ n1 hm1 (by rw [List.length_map, hlen])
  have e3 := prodL_map a p L
  rw [e1, e2, hlen] at e3
  have hf := fact_mod hp (p - 1) (by omega)
  have e4 : fact (p - 1) * (a ^ (p - 1) % p) % p = fact (p - 1) * 1 % p := by
    rw [Nat.mul_mod_mod, Nat.mul_comm, ← e3, Nat.mul_one]
  exact mul_cancel hp (fun d => hf (Nat.mod_eq_zero_of_dvd d)) (Nat.mod_lt _ (by omega)) (by omega) e4
/-! ### The strong test -/
/-- The powers of a: the first one is 1, or one of the first s squarings is n - 1. -/
def Passes (n a d s : Nat) : Prop := a % n = 0 ∨ a ^ d % n = 1 ∨ ∃ i, i < s ∧ a ^ (2 ^ i * d) % n = n - 1
theorem root_one {p x : Nat} (hp : Pr p) (hx : x < p) (h : x * x % p = 1) : x = 1 ∨ x = p - 1 := by
  have hp2 := hp.1
  rcases Nat.lt_trichotomy x 1 with q | q | q
  · have : x = 0 := by omega
    subst this
    rw [Nat.zero_mul, Nat.zero_mod] at h; cases h
  · exact .inl q
  · rcases sq_eq hp q (by rw [h]; exact (Nat.mod_eq_of_lt (by omega))) with d | d
    · have := Nat.le_of_dvd (by omega) d; omega
    · have := Nat.le_of_dvd (by omega) d; exact .inr (by omega)
theorem prime_passes {p a d s : Nat} (hp : Pr p) (hs : p - 1 = 2 ^ s * d) : Passes p a d s := by
  have hp2 := hp.1
  by_cases ha : p ∣ a
  · exact .inl (Nat.mod_eq_zero_of_dvd ha)
  · have hf := fermat hp ha
    rw [hs] at hf
    have key : ∀ s, a ^ (2 ^ s * d) % p = 1 → a ^ d % p = 1 ∨ ∃ i, i < s ∧ a ^ (2 ^ i * d) % p = p - 1 := by
      intro s
      induction s with
      | zero => intro h; rw [Nat.pow_zero, Nat.one_mul] at h; exact .inl h
      | succ s ih =>
        intro h
        have e : a ^ (2 ^ (s + 1) * d) = a ^ (2 ^ s * d) * a ^ (2 ^ s * d) := by
          rw [← Nat.pow_add]; congr 1; rw [Nat.pow_succ, Nat.mul_right_comm, Nat.mul_two]
        rw [e, Nat.mul_mod] at h
        rcases root_one hp (Nat.mod_lt _ (by omega)) h with q | q
        · rcases ih q with r | ⟨i, hi, r⟩
          · exact .inl r
          · exact .inr ⟨i, by omega, r⟩
        · exact .inr ⟨s, by omega, q⟩
    exact .inr (key s hf)
/-- A greater number that a base divides fails the test to that base. -/
theorem divisor_fails {n l d s : Nat} (hl : 2 ≤ l) (hd : l ∣ n) (hlt : l < n) (hd0 : 0 < d) : ¬ Passes n l d s := by
  have pw : ∀ e, 0 < e → l ∣ l ^ e % n := by
    intro e he
    refine (Nat.dvd_mod_iff hd).2 ?_
    obtain ⟨k, rfl⟩ : ∃ k, e = k + 1 := ⟨e - 1, by omega⟩
    exact ⟨l ^ k, by rw [Nat.pow_succ, Nat.mul_comm]⟩
  rintro (h | h | ⟨i, hi, h⟩)
  · rw [Nat.mod_eq_of_lt hlt] at h; omega
  · have := pw d hd0
    rw [h] at this
    have := Nat.le_of_dvd (by omega) this
    omega
  · have h2 := pw (2 ^ i * d) (Nat.mul_pos (Nat.pow_pos (by omega)) hd0)
    rw [h] at h2
    have h3 : l ∣ n - (n - 1) := Nat.dvd_sub hd h2
    have : n - (n - 1) = 1 := by omega
    rw [this] at h3
    have := Nat.le_of_dvd (by omega) h3
    omega
/-! ### Orders, Pocklington -/
theorem pow_one_mul {r a e k : Nat} (h : a ^ e % r = 1 % r) : a ^ (e * k) % r = 1 % r := by
  rw [Nat.pow_mul, Nat.pow_mod, h, ← Nat.pow_mod, Nat.one_pow]
/-- The least positive exponent. -/
theorem order_exists {r a N : Nat} (hN : 0 < N) (h : a ^ N % r = 1 % r) : ∃ o, 0 < o ∧ a ^ o % r = 1 % r ∧ ∀ e, a ^ e % r = 1 % r → o ∣ e := by
  have hex : ∃ o, (0 < o ∧ a ^ o % r = 1 % r) ∧ ∀ e, e < o → ¬ (0 < e ∧ a ^ e % r = 1 % r) := by
    have key : ∀ n, (∃ m, m < n ∧ (0 < m ∧ a ^ m % r = 1 % r)) → ∃ o, (0 < o ∧ a ^ o % r = 1 % r) ∧ ∀ e, e < o → ¬ (0 < e ∧ a ^ e % r = 1 % r) := by
      intro n
      induction n with
      | zero => rintro ⟨m, h, _⟩; omega
      | succ n ih =>
        rintro ⟨m, h1, h2⟩
        by_cases hl : ∃ m, m < n ∧ (0 < m ∧ a ^ m % r = 1 % r)
        · exact ih hl
        · refine ⟨m, h2, fun e he q => hl ⟨e, by omega, q⟩⟩
    exact key (N + 1) ⟨N, by omega, hN, h⟩
  obtain ⟨o, ⟨h1, h2⟩, h3⟩ := hex
  refine ⟨o, h1, h2, fun e he => ?_⟩
  have hm : a ^ (e % o) % r = 1 % r := by
    have e1 : a ^ e = a ^ (o * (e / o)) * a ^ (e % o) := by rw [← Nat.pow_add, Nat.div_add_mod]
    rw [e1, Nat.mul_mod, pow_one_mul h2, ← Nat.mul_mod, Nat.one_mul] at he
    exact he
  rcases Nat.eq_zero_or_pos (e % o) with z | z
  · exact Nat.dvd_of_mod_eq_zero z
  · exact absurd ⟨z, hm⟩ (h3 _ (Nat.mod_lt _ h1))
/-- Pocklington: each prime factor of n is greater than F. -/
theorem pocklington {n a F r : Nat} (hn : 2 ≤ n) (hF : F ∣ n - 1) (h1 : a ^ (n - 1) % n = 1)
    (hq : ∀ q, Pr q → q ∣ F → Nat.gcd (a ^ ((n - 1) / q) % n - 1) n = 1 ∧ a ^ ((n - 1) / q) % n ≠ 0)
    (hr : Pr r) (hrn : r ∣ n) : F < r := by
  have hr2 := hr.1
  have hN : 0 < n - 1 := by omega
  have hone : 1 % r = 1 := Nat.mod_eq_of_lt (by omega)
  have h2 : a ^ (n - 1) % r = 1 % r := by rw [← Nat.mod_mod_of_dvd _ hrn, h1]
  obtain ⟨o, ho, ho1, ho2⟩ := order_exists hN h2
  have hra : ¬ r ∣ a := by
    intro d
    obtain ⟨k, hk⟩ : ∃ k, n - 1 = k + 1 := ⟨n - 1 - 1, by omega⟩
    have : a ^ (n - 1) % r = 0 := Nat.mod_eq_zero_of_dvd (Nat.dvd_trans d ⟨a ^ k, by rw [hk, Nat.pow_succ, Nat.mul_comm]⟩)
    omega
  have hor : o ∣ r - 1 := ho2 _ (by rw [fermat hr hra, hone])
  obtain ⟨c, hc⟩ := ho2 _ h2
  have hc0 : 0 < c := by rcases Nat.eq_zero_or_pos c with z | z; · rw [z, Nat.mul_zero] at hc; omega
                         · exact z
  have hcop : Nat.gcd F c = 1 := by
    rcases Nat.lt_or_ge 1 (Nat.gcd F c) with z | z
    · exfalso
      obtain ⟨q, hqp, hqd⟩ := exists_prime _ z
      have hqF := Nat.dvd_trans hqd (Nat.gcd_dvd_left F c)
      obtain ⟨c', hc'⟩ := Nat.dvd_trans hqd (Nat.gcd_dvd_right F c)
      have hq2 := hqp.1
      have e1 : (n - 1) / q = o * c' := by
        rw [hc, hc', Nat.mul_left_comm, Nat.mul_div_cancel_left _ (by omega)]
      have e2 : a ^ ((n - 1) / q) % r = 1 := by rw [e1, pow_one_mul ho1, hone]
      obtain ⟨g1, g2⟩ := hq q hqp hqF
      obtain ⟨x, hx⟩ : ∃ x, x = a ^ ((n - 1) / q) % n := ⟨_, rfl⟩
      rw [← hx] at g1 g2
      have e3 : x % r = 1 := by rw [hx, Nat.mod_mod_of_dvd _ hrn, e2]
      have d : r ∣ x - 1 := Nat.dvd_of_mod_eq_zero (Nat.sub_mod_eq_zero_of_mod_eq (by rw [e3, hone]))
      have := Nat.dvd_gcd d hrn
      rw [g1] at this
      have := Nat.le_of_dvd (by omega) this
      omega
    · have : 0 < Nat.gcd F c := Nat.gcd_pos_of_pos_right _ hc0
      omega
  have hFo : F ∣ o := Nat.Coprime.dvd_of_dvd_mul_right hcop (by rw [← hc]; exact hF)
  have := Nat.le_of_dvd (by omega) (Nat.dvd_trans hFo hor)
  omega
theorem pocklington_prime {n a F : Nat} (hn : 2 ≤ n) (hF : F ∣ n - 1) (h1 : a ^ (n - 1) % n = 1)
    (hq : ∀ q, Pr q → q ∣ F → Nat.gcd (a ^ ((n - 1) / q) % n - 1) n = 1 ∧ a ^ ((n - 1) / q) % n ≠ 0) (hFn : n < F * F) : Pr n := by
  refine ⟨hn, fun d hd => ?_⟩
  rcases Nat.lt_or_ge d 2 with z | z
  · have : d ≠ 0 := by rintro rfl; have := Nat.eq_zero_of_zero_dvd hd; omega
    exact .inl (by omega)
  · refine .inr ?_
    refine Classical.byContradiction fun hne => ?_
    obtain ⟨k, hk⟩ := hd
    have hk2 : 2 ≤ k := by
      rcases Nat.lt_or_ge k 2 with y | y
      · have : k = 0 ∨ k = 1 := by omega
        rcases this with rfl | rfl
        · omega
        · rw [Nat.mul_one] at hk; exact absurd hk.symm hne
      · exact y
    obtain ⟨r, hr, hrd⟩ := exists_prime d z
    obtain ⟨s, hs, hsk⟩ := exists_prime k hk2
    have f1 := pocklington hn hF h1 hq hr (Nat.dvd_trans hrd ⟨k, hk⟩)
    have f2 := pocklington hn hF h1 hq hs (Nat.dvd_trans hsk ⟨d, by rw [Nat.mul_comm]; exact hk⟩)
    have g1 := Nat.le_of_dvd (by omega) hrd
    have g2 := Nat.le_of_dvd (by omega) hsk
    have : F * F ≤ d * k := Nat.mul_le_mul (by omega) (by omega)
    omega
end Go.Proofs.YtfokiokcofabcaaDoor.QR


/-
  Number theory: small primes by trial division, the Mersenne primes of at most 127 bits by Pocklington.
-/
namespace Go.Proofs.YtfokiokcofabcaaDoor.QR
set_option linter.unusedVariables false

/-! ### Powers modulo n, strictly -/
noncomputable def powm (n f : Nat) : Nat → Nat → Nat :=
  Nat.rec (fun _ _ => Nat.mod 1 n) (fun _ ih a e =>
    fcq (Nat.mod (Nat.mul a a) n) fun b => fcq (Nat.div e 2) fun d => fcq (ih b d) fun h =>
      cond (Nat.beq (Nat.mod e 2) 1) (Nat.mod (Nat.mul a h) n) h) f
theorem powm_succ (n f a e : Nat) : powm n (f + 1) a e = cond (Nat.beq (e % 2) 1) (a * powm n f (a * a % n) (e / 2) % n) (powm n f (a * a % n) (e / 2)) := by
  show fcq (a * a % n) (fun b => fcq (e / 2) fun d => fcq (powm n f b d) fun h => cond (Nat.beq (e % 2) 1) (a * h % n) h) = _
  rw [fcq_eq, fcq_eq, fcq_eq]
theorem powm_eq (n : Nat) : ∀ f a e, e < 2 ^ f → powm n f a e = a ^ e % n := by
  intro f
  induction f with
  | zero => intro a e h; have : e = 0 := by rw [Nat.pow_zero] at h; omega
            subst this; rfl
  | succ f ih =>
    intro a e h
    have h2 : e / 2 < 2 ^ f := by rw [Nat.pow_succ] at h; omega
    have e1 : (a * a % n) ^ (e / 2) % n = a ^ (2 * (e / 2)) % n := by
      rw [← Nat.pow_mod, Nat.pow_mul, Nat.pow_two]
    rw [powm_succ, ih _ _ h2, e1]
    rcases Nat.mod_two_eq_zero_or_one e with z | z
    · rw [z]; show a ^ (2 * (e / 2)) % n = _; rw [show 2 * (e / 2) = e from by omega]
    · rw [z]; show a * (a ^ (2 * (e / 2)) % n) % n = _
      rw [Nat.mul_mod_mod, ← Nat.pow_succ', show (2 * (e / 2)).succ = e from by omega]

/-! ### Small primes -/
noncomputable def tri (n k : Nat) : Nat → Bool := Nat.rec (fun _ => true) (fun _ ih d => fcq (Nat.succ d) fun d' => cond (Nat.beq (Nat.mod n d) 0) false (ih d')) k
theorem tri_succ (n k d : Nat) : tri n (k + 1) d = cond (Nat.beq (n % d) 0) false (tri n k (d + 1)) := by
  show fcq (d + 1) (fun d' => cond (Nat.beq (n % d) 0) false (tri n k d')) = _
  rw [fcq_eq]
theorem tri_spec (n : Nat) : ∀ k d, tri n k d = true → ∀ x, d ≤ x → x < d + k → ¬ x ∣ n := by
  intro k
  induction k with
  | zero => intro d _ x h1 h2; omega
  | succ k ih =>
    intro d h x h1 h2
    rw [tri_succ] at h
    cases hb : Nat.beq (n % d) 0 with
    | true => rw [hb] at h; exact absurd h (by simp)
    | false =>
      rw [hb] at h
      rcases Nat.eq_or_lt_of_le h1 with rfl | z
      · intro hd
        rw [Nat.mod_eq_zero_of_dvd hd] at hb
        exact absurd hb (by simp)
      · exact ih _ h x z (by omega)
theorem trial {n k : Nat} (hn : 2 ≤ n) (hk : n < (k + 2) * (k + 2)) (h : tri n k 2 = true) : Pr n := by
  refine ⟨hn, fun d hd => ?_⟩
  obtain ⟨c, hc⟩ := hd
  rcases Nat.lt_or_ge d 2 with z | z
  · have : d ≠ 0 := by rintro rfl; rw [Nat.zero_mul] at hc; omega
    exact .inl (by omega)
  rcases Nat.lt_or_ge c 2 with y | y
  · have : c ≠ 0 := by rintro rfl; rw [Nat.mul_zero] at hc; omega
    have : c = 1 := by omega
    subst this
    exact .inr (by rw [Nat.mul_one] at hc; exact hc.symm)
  exfalso
  have g1 : k + 2 ≤ d := by
    rcases Nat.lt_or_ge d (2 + k) with w | w
    · exact absurd ⟨c, hc⟩ (tri_spec n k 2 h d z w)
    · omega
  have g2 : k + 2 ≤ c := by
    rcases Nat.lt_or_ge c (2 + k) with w | w
    · exact absurd ⟨d, by rw [Nat.mul_comm]; exact hc⟩ (tri_spec n k 2 h c y w)
    · omega
  have := Nat.mul_le_mul g1 g2
  omega

/-! ### A prime by its certificate -/
theorem dvd_prd {q : Nat} (hq : Pr q) : ∀ {L : List Nat}, (∀ p, p ∈ L → Pr p) → q ∣ prodL L → q ∈ L := by
  intro L
  induction L with
  | nil => intro _ h; have := Nat.le_of_dvd (by decide) h; have := hq.1; rw [show prodL [] = 1 from rfl] at *; omega
  | cons p L ih =>
    intro hL h
    rw [show prodL (p :: L) = p * prodL L from rfl] at h
    rcases hq.dvd_mul h with z | z
    · rcases (hL p (by simp)).2 q z with w | w
      · have := hq.1; omega
      · rw [w]; simp
    · exact List.mem_cons_of_mem _ (ih (fun r hr => hL r (List.mem_cons_of_mem _ hr)) z)
noncomputable def certL (n f a : Nat) (L : List Nat) : Bool :=
  List.rec true (fun q _ ih => fcq (powm n f a (Nat.div (Nat.sub n 1) q)) fun x => cond (Nat.beq (Nat.gcd (Nat.sub x 1) n) 1) (cond (Nat.beq x 0) false ih) false) L
theorem certL_cons (n f a q : Nat) (L : List Nat) : certL n f a (q :: L) = cond (Nat.beq (Nat.gcd (powm n f a ((n - 1) / q) - 1) n) 1) (cond (Nat.beq (powm n f a ((n - 1) / q)) 0) false (certL n f a L)) false := by
  show fcq (powm n f a ((n - 1) / q)) (fun x => cond (Nat.beq (Nat.gcd (x - 1) n) 1) (cond (Nat.beq x 0) false (certL n f a L)) false) = _
  rw [fcq_eq]
theorem certL_spec {n f a : Nat} (hf : n - 1 < 2 ^ f) : ∀ {L : List Nat}, certL n f a L = true → ∀ q, q ∈ L → Nat.gcd (a ^ ((n - 1) / q) % n - 1) n = 1 ∧ a ^ ((n - 1) / q) % n ≠ 0 := by
  intro L
  induction L with
  | nil => intro _ q h; exact absurd h (by simp)
  | cons p L ih =>
    intro h q hq
    rw [certL_cons, powm_eq n f a _ (Nat.lt_of_le_of_lt (Nat.div_le_self _ _) hf)] at h
    cases h1 : Nat.beq (Nat.gcd (a ^ ((n - 1) / p) % n - 1) n) 1 with
    | false => rw [h1] at h; exact absurd h (by simp)
    | true =>
      cases h2 : Nat.beq (a ^ ((n - 1) / p) % n) 0 with
      | true => rw [h1, h2] at h; exact absurd h (by simp)
      | false =>
        rw [h1, h2] at h
        rcases List.mem_cons.mp hq with rfl | z
        · refine ⟨Nat.eq_of_beq_eq_true h1, fun e => ?_⟩
          rw [e] at h2; exact absurd h2 (by simp)
        · exact ih h q z
theorem certified {n a : Nat} (f : Nat) (L : List Nat) (hn : 2 ≤ n) (hf : n - 1 < 2 ^ f) (hL : ∀ p, p ∈ L → Pr p)
    (hd : Nat.mod (n - 1) (prodL L) = 0) (h1 : Nat.beq (powm n f a (n - 1)) 1 = true) (hc : certL n f a L = true) (hl : Nat.blt n (prodL L * prodL L) = true) : Pr n := by
  have e1 := Nat.eq_of_beq_eq_true h1
  rw [powm_eq n f a _ hf] at e1
  refine pocklington_prime hn (Nat.dvd_of_mod_eq_zero hd) e1 (fun q hq hqF => certL_spec hf hc q (dvd_prd hq hL hqF)) ?_
  exact Nat.le_of_ble_eq_true hl
theorem pr2 : Pr 2 := trial (k := 0) (by decide) (by decide) (by decide +kernel)
theorem pr3 : Pr 3 := trial (k := 0) (by decide) (by decide) (by decide +kernel)
theorem pr5 : Pr 5 := trial (k := 1) (by decide) (by decide) (by decide +kernel)
theorem pr7 : Pr 7 := trial (k := 1) (by decide) (by decide) (by decide +kernel)
theorem pr11 : Pr 11 := trial (k := 2) (by decide) (by decide) (by decide +kernel)
theorem pr13 : Pr 13 := trial (k := 2) (by decide) (by decide) (by decide +kernel)
theorem pr17 : Pr 17 := trial (k := 3) (by decide) (by decide) (by decide +kernel)
theorem pr19 : Pr 19 := trial (k := 3) (by decide) (by decide) (by decide +kernel)
theorem pr23 : Pr 23 := trial (k := 3) (by decide) (by decide) (by decide +kernel)
theorem pr29 : Pr 29 := trial (k := 4) (by decide) (by decide) (by decide +kernel)
theorem pr31 : Pr 31 := trial (k := 4) (by decide) (by decide) (by decide +kernel)
theorem pr37 : Pr 37 := trial (k := 5) (by decide) (by decide) (by decide +kernel)
theorem pr41 : Pr 41 := trial (k := 5) (by decide) (by decide) (by decide +kernel)
theorem pr43 : Pr 43 := trial (k := 5) (by decide) (by decide) (by decide +kernel)
theorem pr61 : Pr 61 := trial (k := 6) (by decide) (by decide) (by decide +kernel)
theorem pr73 : Pr 73 := trial (k := 7) (by decide) (by decide) (by decide +kernel)
theorem pr89 : Pr 89 := trial (k := 8) (by decide) (by decide) (by decide +kernel)
theorem pr107 : Pr 107 := trial (k := 9) (by decide) (by decide) (by decide +kernel)
theorem pr127 : Pr 127 := trial (k := 10) (by decide) (by decide) (by decide +kernel)
theorem pr151 : Pr 151 := trial (k := 11) (by decide) (by decide) (by decide +kernel)
theorem pr337 : Pr 337 := trial (k := 17) (by decide) (by decide) (by decide +kernel)
theorem pr353 : Pr 353 := trial (k := 17) (by decide) (by decide) (by decide +kernel)
theorem pr397 : Pr 397 := trial (k := 18) (by decide) (by decide) (by decide +kernel)
theorem pr683 : Pr 683 := trial (k := 25) (by decide) (by decide) (by decide +kernel)
theorem pr5419 : Pr 5419 := trial (k := 72) (by decide) (by decide) (by decide +kernel)
theorem pr6361 : Pr 6361 := trial (k := 78) (by decide) (by decide) (by decide +kernel)
theorem pr8191 : Pr 8191 := trial (k := 89) (by decide) (by decide) (by decide +kernel)
theorem pr69431 : Pr 69431 := trial (k := 262) (by decide) (by decide) (by decide +kernel)
theorem pr92737 : Pr 92737 := trial (k := 303) (by decide) (by decide) (by decide +kernel)
theorem pr131071 : Pr 131071 := trial (k := 361) (by decide) (by decide) (by decide +kernel)
theorem pr524287 : Pr 524287 := trial (k := 723) (by decide) (by decide) (by decide +kernel)
theorem pr20394401 : Pr 20394401 := trial (k := 4515) (by decide) (by decide) (by decide +kernel)
theorem mer31 : Pr (2 ^ 31 - 1) := by
  refine certified (a := 7) 31 [2, 3, 3, 7, 11, 31, 151] (by decide) (by decide) ?_ (by decide +kernel) (by decide +kernel) (by decide +kernel) (by decide +kernel)
  intro p hp
  simp only [List.mem_cons, List.not_mem_nil, or_false] at hp
  rcases hp with rfl | rfl | rfl | rfl | rfl | rfl | rfl
  · exact pr2
  · exact pr3
  · exact pr3
  · exact pr7
  · exact pr11
  · exact pr31
  · exact pr151
theorem mer61 : Pr (2 ^ 61 - 1) := by
  refine certified (a := 29) 61 [2, 3, 3, 5, 5, 7, 11, 13, 31, 41, 61] (by decide) (by decide) ?_ (by decide +kernel) (by decide +kernel) (by decide +kernel) (by decide +kernel)
  intro p hp
  simp only [List.mem_cons, List.not_mem_nil, or_false] at hp
  rcases hp with rfl | rfl | rfl | rfl | rfl | rfl | rfl | rfl | rfl | rfl | rfl
  · exact pr2
  · exact pr3
  · exact pr3
  · exact pr5
  · exact pr5
  · exact pr7
  · exact pr11
  · exact pr13
  · exact pr31
  · exact pr41
  · exact pr61
theorem mer89 : Pr (2 ^ 89 - 1) := by
  refine certified (a := 3) 89 [2, 3, 5, 17, 23, 89, 353, 397, 683] (by decide) (by decide) ?_ (by decide +kernel) (by decide +kernel) (by decide +kernel) (by decide +kernel)
  intro p hp
  simp only [List.mem_cons, List.not_mem_nil, or_false] at hp
  rcases hp with rfl | rfl | rfl | rfl | rfl | rfl | rfl | rfl | rfl
  · exact pr2
  · exact pr3
  · exact pr5
  · exact pr17
  · exact pr23
  · exact pr89
  · exact pr353
  · exact pr397
  · exact pr683
theorem mer107 : Pr (2 ^ 107 - 1) := by
  refine certified (a := 3) 107 [2, 3, 107, 6361, 69431, 20394401] (by decide) (by decide) ?_ (by decide +kernel) (by decide +kernel) (by decide +kernel) (by decide +kernel)
  intro p hp
  simp only [List.mem_cons, List.not_mem_nil, or_false] at hp
  rcases hp with rfl | rfl | rfl | rfl | rfl | rfl
  · exact pr2
  · exact pr3
  · exact pr107
  · exact pr6361
  · exact pr69431
  · exact pr20394401
theorem mer127 : Pr (2 ^ 127 - 1) := by
  refine certified (a := 43) 127 [2, 3, 3, 3, 7, 7, 19, 43, 73, 127, 337, 5419, 92737] (by decide) (by decide) ?_ (by decide +kernel) (by decide +kernel) (by decide +kernel) (by decide +kernel)
  intro p hp
  simp only [List.mem_cons, List.not_mem_nil, or_false] at hp
  rcases hp with rfl | rfl | rfl | rfl | rfl | rfl | rfl | rfl | rfl | rfl | rfl | rfl | rfl
  · exact pr2
  · exact pr3
  · exact pr3
  · exact pr3
  · exact pr7
  · exact pr7
  · exact pr19
  · exact pr43
  · exact pr73
  · exact pr127
  · exact pr337
  · exact pr5419
  · exact pr92737
end Go.Proofs.YtfokiokcofabcaaDoor.QR


/-
  What layer 4 computes, in plain numbers: the strong test over a list of bases, the twelve bases, the factors by trial division.
-/
namespace Go.Proofs.YtfokiokcofabcaaDoor.QR
set_option linter.unusedVariables false

/-! ### The strong test -/
theorem two_odd_unique : ∀ {s t d e : Nat}, 2 ^ s * d = 2 ^ t * e → d % 2 = 1 → e % 2 = 1 → s = t ∧ d = e := by
  intro s
  induction s with
  | zero =>
    intro t d e h hd he
    cases t with
    | zero => rw [Nat.pow_zero, Nat.one_mul, Nat.one_mul] at h; exact ⟨rfl, h⟩
    | succ t => exfalso; rw [Nat.pow_zero, Nat.one_mul, Nat.pow_succ, Nat.mul_comm (2 ^ t) 2, Nat.mul_assoc] at h; omega
  | succ s ih =>
    intro t d e h hd he
    cases t with
    | zero => exfalso; rw [Nat.pow_zero, Nat.one_mul, Nat.pow_succ, Nat.mul_comm (2 ^ s) 2, Nat.mul_assoc] at h; omega
    | succ t =>
      rw [Nat.pow_succ, Nat.mul_comm (2 ^ s) 2, Nat.mul_assoc, Nat.pow_succ, Nat.mul_comm (2 ^ t) 2, Nat.mul_assoc] at h
      obtain ⟨h1, h2⟩ := ih (t := t) (d := d) (e := e) (by omega) hd he
      exact ⟨by omega, h2⟩
theorem odd_part : ∀ n, 0 < n → ∃ s d, n = 2 ^ s * d ∧ d % 2 = 1 := by
  intro n
  induction n using Nat.strongRecOn with
  | _ n ih =>
    intro h
    rcases Nat.mod_two_eq_zero_or_one n with z | z
    · obtain ⟨s, d, e, ho⟩ := ih (n / 2) (by omega) (by omega)
      refine ⟨s + 1, d, ?_, ho⟩
      rw [Nat.pow_succ, Nat.mul_comm (2 ^ s) 2, Nat.mul_assoc, ← e]; omega
    · exact ⟨0, n, by rw [Nat.pow_zero, Nat.one_mul], z⟩
/-- n passes the strong test to the base a, n - 1 being 2^s d. -/
def PassN (n a : Nat) : Prop := ∃ s d, n - 1 = 2 ^ s * d ∧ d % 2 = 1 ∧ Passes n a d s
theorem PassN_iff {n a s d : Nat} (h : n - 1 = 2 ^ s * d) (ho : d % 2 = 1) : PassN n a ↔ Passes n a d s := by
  constructor
  · rintro ⟨t, e, h2, ho2, hp⟩
    obtain ⟨rfl, rfl⟩ := two_odd_unique (h.symm.trans h2) ho ho2
    exact hp
  · exact fun hp => ⟨s, d, h, ho, hp⟩
theorem Passes_mod {n a d s : Nat} : Passes n (a % n) d s ↔ Passes n a d s := by
  unfold Passes
  rw [Nat.mod_mod, ← Nat.pow_mod]
  simp only [← Nat.pow_mod]
theorem PassN_mod {n a : Nat} : PassN n (a % n) ↔ PassN n a := by
  unfold PassN; simp only [Passes_mod]
/-- What the strong test over the bases L reports about n. -/
def StrongOk (n : Nat) (L : List Nat) : Prop := n = 2 ∨ (n % 2 = 1 ∧ n ≠ 1 ∧ ∀ a, a ∈ L → PassN n a)
theorem StrongOk_one {n a : Nat} : StrongOk n [a] ↔ n = 2 ∨ (n % 2 = 1 ∧ n ≠ 1 ∧ PassN n a) := by
  unfold StrongOk; simp
theorem prime_StrongOk {p : Nat} (hp : Pr p) (L : List Nat) : StrongOk p L := by
  rcases Nat.mod_two_eq_zero_or_one p with z | z
  · left
    rcases hp.2 2 (Nat.dvd_of_mod_eq_zero z) with w | w
    · omega
    · exact w.symm
  · have := hp.1
    refine .inr ⟨z, by omega, fun a _ => ?_⟩
    obtain ⟨s, d, e, ho⟩ := odd_part (p - 1) (by omega)
    exact ⟨s, d, e, ho, prime_passes hp e⟩
theorem divisor_not {n l : Nat} {L : List Nat} (hl : 2 ≤ l) (hd : l ∣ n) (hlt : l < n) (hL : l ∈ L) (h2 : n ≠ 2) : ¬ StrongOk n L := by
  rintro (h | ⟨ho, h1, h⟩)
  · exact h2 h
  · obtain ⟨s, d, e, hod, hp⟩ := h l hL
    exact divisor_fails hl hd hlt (by omega) hp

/-! ### The twelve bases -/
def first12 : List Nat := [2, 3, 5, 7, 11, 13, 17, 19, 23, 29, 31, 37]
theorem first12_prime {p : Nat} (h : p ∈ first12) : Pr p := by
  unfold first12 at h
  simp only [List.mem_cons, List.not_mem_nil, or_false] at h
  rcases h with rfl | rfl | rfl | rfl | rfl | rfl | rfl | rfl | rfl | rfl | rfl | rfl
  · exact pr2
  · exact pr3
  · exact pr5
  · exact pr7
  · exact pr11
  · exact pr13
  · exact pr17
  · exact pr19
  · exact pr23
  · exact pr29
  · exact pr31
  · exact pr37
/-- The reference: first the twelve primes as divisors, then as bases. -/
def RefIs (n : Nat) : Prop := 2 ≤ n ∧ (n ∈ first12 ∨ ((∀ l, l ∈ first12 → n % l ≠ 0) ∧ ∀ l, l ∈ first12 → StrongOk n [l]))
theorem is_iff (n : Nat) : RefIs n ↔ StrongOk n first12 := by
  constructor
  · rintro ⟨h2, h | ⟨h1, h3⟩⟩
    · exact prime_StrongOk (first12_prime h) _
    · have ho : n % 2 = 1 := by have := h1 2 (by decide); omega
      refine .inr ⟨ho, by omega, fun a ha => ?_⟩
      rcases StrongOk_one.mp (h3 a ha) with e | ⟨_, _, e⟩
      · omega
      · exact e
  · intro h
    have h2 : 2 ≤ n := by
      rcases h with e | ⟨e1, e2, _⟩
      · omega
      · omega
    refine ⟨h2, ?_⟩
    rcases Classical.em (n ∈ first12) with z | z
    · exact .inl z
    · refine .inr ⟨fun l hl e => ?_, fun l hl => ?_⟩
      · have hl2 := (first12_prime hl).1
        have hd := Nat.dvd_of_mod_eq_zero e
        have hle := Nat.le_of_dvd (by omega) hd
        rcases Nat.eq_or_lt_of_le hle with rfl | hlt
        · exact z hl
        · refine divisor_not hl2 hd hlt hl ?_ h
          rintro rfl; exact z (by decide)
      · rcases h with e | ⟨e1, e2, e3⟩
        · exact .inl e
        · exact StrongOk_one.mpr (.inr ⟨e1, e2, e3 l hl⟩)

/-! ### Factors by trial division -/
/-- What trial division still finds in n from d on. -/
def fac : Nat → Nat → Nat → List Nat
  | 0, n, _ => if 1 < n then [n] else []
  | f + 1, n, d => if d * d ≤ n then (if n % d = 0 then d :: fac f (n / d) d else fac f n (d + 1)) else if 1 < n then [n] else []
theorem fac_succ (f n d : Nat) : fac (f + 1) n d = if d * d ≤ n then (if n % d = 0 then d :: fac f (n / d) d else fac f n (d + 1)) else if 1 < n then [n] else [] := rfl
/-- Enough fuel: each step makes 2 n - d less, or ends. -/
theorem fac_fuel : ∀ {f g n d : Nat}, 2 ≤ d → 2 * n < d + f → 2 * n < d + g → fac f n d = fac g n d := by
  intro f
  induction f with
  | zero =>
    intro g n d hd h1 h2
    cases g with
    | zero => rfl
    | succ g =>
      rw [fac_succ, if_neg]
      · rfl
      · intro e
        have : 2 * d ≤ d * d := Nat.mul_le_mul_right d hd
        omega
  | succ f ih =>
    intro g n d hd h1 h2
    cases g with
    | zero =>
      rw [fac_succ, if_neg]
      · rfl
      · intro e
        have : 2 * d ≤ d * d := Nat.mul_le_mul_right d hd
        omega
    | succ g =>
      rw [fac_succ, fac_succ]
      split
      · rename_i e
        have e2 : 2 * d ≤ d * d := Nat.mul_le_mul_right d hd
        split
        · rename_i z
          have hk := Nat.div_add_mod n d
          rw [z, Nat.add_zero] at hk
          have hpos : 0 < n / d := Nat.div_pos (by omega) (by omega)
          have : 2 * (n / d) ≤ d * (n / d) := Nat.mul_le_mul_right _ hd
          rw [ih (g := g) hd (by omega) (by omega)]
        · exact ih (by omega) (by omega) (by omega)
      · rfl
theorem fac_prod : ∀ {f n d : Nat}, 2 ≤ d → 0 < n → 2 * n < d + f → prodL (fac f n d) = n := by
  intro f
  induction f with
  | zero =>
    intro n d hd hn h
    show prodL (if 1 < n then [n] else []) = n
    split
    · show n * 1 = n; rw [Nat.mul_one]
    · show 1 = n; omega
  | succ f ih =>
    intro n d hd hn h
    rw [fac_succ]
    split
    · rename_i e
      have e2 : 2 * d ≤ d * d := Nat.mul_le_mul_right d hd
      split
      · rename_i z
        have hk := Nat.div_add_mod n d
        rw [z, Nat.add_zero] at hk
        have hpos : 0 < n / d := Nat.div_pos (by omega) (by omega)
        have : 2 * (n / d) ≤ d * (n / d) := Nat.mul_le_mul_right _ hd
        show d * prodL (fac f (n / d) d) = n
        rw [ih hd hpos (by omega)]; exact hk
      · exact ih (by omega) hn (by omega)
    · split
      · show n * 1 = n; rw [Nat.mul_one]
      · show 1 = n; omega
/-- The factors are primes, in ascending order, and none is below d: where n has no divisor from 2 to d - 1. -/
theorem fac_prime : ∀ {f n d : Nat}, 2 ≤ d → 0 < n → 2 * n < d + f → (∀ x, 2 ≤ x → x < d → ¬ x ∣ n) →
    (∀ p, p ∈ fac f n d → Pr p ∧ d ≤ p ∧ p ≤ n) ∧ (fac f n d).Pairwise (· ≤ ·) := by
  have last : ∀ {n d : Nat}, 2 ≤ d → 0 < n → n < d * d → (∀ x, 2 ≤ x → x < d → ¬ x ∣ n) →
      (∀ p, p ∈ (if 1 < n then [n] else [] : List Nat) → Pr p ∧ d ≤ p ∧ p ≤ n) ∧ (if 1 < n then [n] else [] : List Nat).Pairwise (· ≤ ·) := by
    intro n d hd hn hlt hx
    split
    · rename_i h1
      refine ⟨fun p hp => ?_, by simp⟩
      rw [List.mem_singleton] at hp
      subst hp
      have hdn : d ≤ p := by
        rcases Nat.lt_or_ge p d with z | z
        · exact absurd (Nat.dvd_refl p) (hx p (by omega) z)
        · exact z
      refine ⟨⟨by omega, fun x hxd => ?_⟩, hdn, Nat.le_refl _⟩
      obtain ⟨c, hc⟩ := hxd
      rcases Nat.lt_or_ge x 2 with z | z
      · have : x ≠ 0 := by rintro rfl; rw [Nat.zero_mul] at hc; omega
        exact .inl (by omega)
      rcases Nat.lt_or_ge c 2 with y | y
      · have : c ≠ 0 := by rintro rfl; rw [Nat.mul_zero] at hc; omega
        have : c = 1 := by omega
        subst this
        exact .inr (by rw [Nat.mul_one] at hc; exact hc.symm)
      exfalso
      have g1 : d ≤ x := by
        rcases Nat.lt_or_ge x d with w | w
        · exact absurd ⟨c, hc⟩ (hx x z w)
        · exact w
      have g2 : d ≤ c := by
        rcases Nat.lt_or_ge c d with w | w
        · exact absurd ⟨x, by rw [Nat.mul_comm]; exact hc⟩ (hx c y w)
        · exact w
      have := Nat.mul_le_mul g1 g2
      omega
    · exact ⟨fun p hp => absurd hp (by simp), List.Pairwise.nil⟩
  intro f
  induction f with
  | zero =>
    intro n d hd hn h hx
    have : 2 * d ≤ d * d := Nat.mul_le_mul_right d hd
    exact last hd hn (by omega) hx
  | succ f ih =>
    intro n d hd hn h hx
    rw [fac_succ]
    split
    · rename_i e
      have e2 : 2 * d ≤ d * d := Nat.mul_le_mul_right d hd
      split
      · rename_i z
        have hdn := Nat.dvd_of_mod_eq_zero z
        have hk := Nat.div_add_mod n d
        rw [z, Nat.add_zero] at hk
        have hpos : 0 < n / d := Nat.div_pos (by omega) (by omega)
        have hle : 2 * (n / d) ≤ d * (n / d) := Nat.mul_le_mul_right _ hd
        obtain ⟨i1, i2⟩ := ih hd hpos (by omega) (fun x h1 h2 h3 => hx x h1 h2 (Nat.dvd_trans h3 ⟨d, by rw [Nat.mul_comm]; exact hk.symm⟩))
        refine ⟨fun p hp => ?_, List.Pairwise.cons (fun p hp => (i1 p hp).2.1) i2⟩
        rcases List.mem_cons.mp hp with rfl | hp
        · refine ⟨⟨hd, fun x hxd => ?_⟩, Nat.le_refl _, Nat.le_of_dvd hn hdn⟩
          have hxp := Nat.le_of_dvd (by omega) hxd
          rcases Nat.eq_or_lt_of_le hxp with w | w
          · exact .inr w
          · rcases Nat.lt_or_ge x 2 with y | y
            · have : x ≠ 0 := by rintro rfl; have := Nat.eq_zero_of_zero_dvd hxd; omega
              exact .inl (by omega)
            · exact absurd (Nat.dvd_trans hxd hdn) (hx x y w)
        · obtain ⟨j1, j2, j3⟩ := i1 p hp
          exact ⟨j1, j2, by omega⟩
      · rename_i z
        obtain ⟨i1, i2⟩ := ih (d := d + 1) (by omega) hn (by omega) (fun x h1 h2 => by
          rcases Nat.eq_or_lt_of_le (Nat.le_of_lt_succ h2) with rfl | w
          · exact fun h3 => z (Nat.mod_eq_zero_of_dvd h3)
          · exact hx x h1 w)
        exact ⟨fun p hp => by obtain ⟨j1, j2, j3⟩ := i1 p hp; exact ⟨j1, by omega, j3⟩, i2⟩
    · rename_i e
      exact last hd hn (by omega) hx
/-- The factors of n. -/
def facs (n : Nat) : List Nat := fac (2 * n) n 2
theorem facs_spec {n : Nat} (hn : 0 < n) : prodL (facs n) = n ∧ (∀ p, p ∈ facs n → Pr p ∧ p ≤ n) ∧ (facs n).Pairwise (· ≤ ·) := by
  obtain ⟨h1, h2⟩ := fac_prime (f := 2 * n) (n := n) (d := 2) (by omega) hn (by omega) (fun x h3 h4 => by omega)
  exact ⟨fac_prod (by omega) hn (by omega), fun p hp => ⟨(h1 p hp).1, (h1 p hp).2.2⟩, h2⟩
/-- A list of numbers of at least 2 is not longer than the binary length of its product. -/
theorem pow_len_le : ∀ {L : List Nat}, (∀ p, p ∈ L → 2 ≤ p) → 2 ^ L.length ≤ prodL L := by
  intro L
  induction L with
  | nil => intro _; exact Nat.le_refl 1
  | cons p L ih =>
    intro h
    have h1 := h p (by simp)
    have h2 := ih fun q hq => h q (List.mem_cons_of_mem _ hq)
    show 2 ^ (L.length + 1) ≤ p * prodL L
    rw [Nat.pow_succ, Nat.mul_comm]
    exact Nat.mul_le_mul h1 h2
theorem facs_len {n k : Nat} (hn : 0 < n) (h : n < 2 ^ k) : (facs n).length < k := by
  obtain ⟨h1, h2, _⟩ := facs_spec hn
  have h3 := pow_len_le fun p hp => (h2 p hp).1.1
  rw [h1] at h3
  exact (Nat.pow_lt_pow_iff_right (by decide)).mp (Nat.lt_of_le_of_lt h3 h)
end Go.Proofs.YtfokiokcofabcaaDoor.QR


/-
  Factors by trial division, as two nested loops find them, in plain numbers.
-/
namespace Go.Proofs.YtfokiokcofabcaaDoor.QR
set_option linter.unusedVariables false

/-- What trial division still finds in n from d on. -/
def FC (n d : Nat) : List Nat := fac (2 * n) n d
/-- n has no divisor from 2 to d - 1. -/
def NoDiv (n d : Nat) : Prop := ∀ x, 2 ≤ x → x < d → ¬ x ∣ n
theorem FC_facs (n : Nat) : FC n 2 = facs n := rfl
theorem NoDiv_two (n : Nat) : NoDiv n 2 := fun x h1 h2 => by omega
theorem NoDiv_div {n d : Nat} (h : NoDiv n d) (hz : n % d = 0) (hd : 2 ≤ d) : NoDiv (n / d) d := fun x h1 h2 h3 => by
  have hk := Nat.div_add_mod n d
  rw [hz, Nat.add_zero] at hk
  exact h x h1 h2 (Nat.dvd_trans h3 ⟨d, by rw [Nat.mul_comm]; exact hk.symm⟩)
theorem NoDiv_next {n d : Nat} (h : NoDiv n d) (hz : n % d ≠ 0) : NoDiv n (d + 1) := fun x h1 h2 h3 => by
  rcases Nat.eq_or_lt_of_le (Nat.le_of_lt_succ h2) with rfl | w
  · exact hz (Nat.mod_eq_zero_of_dvd h3)
  · exact h x h1 w h3
theorem FC_end {n d : Nat} (h : n < d * d) : FC n d = if 1 < n then [n] else [] := by
  unfold FC
  cases hf : 2 * n with
  | zero => rfl
  | succ f => rw [fac_succ, if_neg (by omega)]
theorem FC_div {n d : Nat} (hd : 2 ≤ d) (hn : 0 < n) (hz : n % d = 0) (h : NoDiv n d) : FC n d = d :: FC (n / d) d := by
  have hk := Nat.div_add_mod n d
  rw [hz, Nat.add_zero] at hk
  have hpos : 0 < n / d := by
    rcases Nat.eq_zero_or_pos (n / d) with e | e
    · rw [e, Nat.mul_zero] at hk; omega
    · exact e
  have hle : 2 * (n / d) ≤ d * (n / d) := Nat.mul_le_mul_right _ hd
  rcases Nat.lt_or_ge n (d * d) with q | q
  · -- then n is d itself
    have hlt : n / d < d := by
      rcases Nat.lt_or_ge (n / d) d with w | w
      · exact w
      · have := Nat.mul_le_mul_left d w; omega
    have h1 : n / d = 1 := by
      rcases Nat.lt_or_ge (n / d) 2 with w | w
      · omega
      · exact absurd ⟨d, by rw [Nat.mul_comm]; exact hk.symm⟩ (h (n / d) w hlt)
    have hnd : n = d := by rw [h1] at hk; omega
    have hd1 : 1 < d * d := by have := Nat.mul_le_mul hd hd; omega
    rw [h1, FC_end q, FC_end hd1, if_pos (by omega), if_neg (by omega), hnd]
  · unfold FC
    rw [fac_fuel (f := 2 * n) (g := 2 * n + 1) hd (by omega) (by omega), fac_succ, if_pos q, if_pos hz, fac_fuel (f := 2 * n) (g := 2 * (n / d)) hd (by omega) (by omega)]
theorem FC_skip {n d : Nat} (hd : 2 ≤ d) (hz : n % d ≠ 0) : FC n d = FC n (d + 1) := by
  rcases Nat.lt_or_ge n (d * d) with q | q
  · rw [FC_end q, FC_end (Nat.lt_of_lt_of_le q (Nat.mul_le_mul (by omega) (by omega)))]
  · unfold FC
    rw [fac_fuel (f := 2 * n) (g := 2 * n + 1) hd (by omega) (by omega), fac_succ, if_pos q, if_neg hz]
theorem sq_lt {d n : Nat} (h : d * d ≤ n) (hn : n < 1099511627776) : d < 1048576 := by
  rcases Nat.lt_or_ge d 1048576 with q | q
  · exact q
  · have := Nat.mul_le_mul q q; omega
theorem sq_le {d : Nat} (h : d ≤ 1048576) : d * d ≤ 1099511627776 := Nat.mul_le_mul h h
end Go.Proofs.YtfokiokcofabcaaDoor.QR

