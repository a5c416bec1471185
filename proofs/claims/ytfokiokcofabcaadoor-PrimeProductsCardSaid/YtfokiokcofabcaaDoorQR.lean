/-
  Number theory: the Legendre symbol is multiplicative; the law of quadratic reciprocity for primes below 4000 (calculated by the kernel); products over prime factors.
-/
import Init
namespace Go.Proofs.YtfokiokcofabcaaDoor.QR
set_option linter.unusedVariables false

/-! ### Pigeonhole -/
theorem nodup_len : ∀ (n : Nat) (l : List Nat), l.Nodup → (∀ x, x ∈ l → 1 ≤ x ∧ x ≤ n) → l.length ≤ n := by
  intro n
  induction n with
  | zero =>
    intro l _ h
    cases l with
    | nil => simp
    | cons x l => have := h x (by simp); omega
  | succ n ih =>
    intro l hl h
    by_cases hm : n + 1 ∈ l
    · have h1 : (l.erase (n + 1)).length = l.length - 1 := List.length_erase_of_mem hm
      have h2 := ih (l.erase (n + 1)) (hl.erase _) (fun x hx => by
        have h3 := (List.Nodup.mem_erase_iff hl).1 hx
        have h4 := h x h3.2
        have h5 := h3.1
        omega)
      omega
    · have := ih l hl (fun x hx => by
        have h4 := h x hx
        have : x ≠ n + 1 := fun e => hm (e ▸ hx)
        omega)
      omega
theorem pigeon {n : Nat} {l : List Nat} (hl : l.Nodup) (h : ∀ x, x ∈ l → 1 ≤ x ∧ x ≤ n) (hn : l.length = n) {k : Nat} (hk : 1 ≤ k ∧ k ≤ n) : k ∈ l := by
  by_cases hm : k ∈ l
  · exact hm
  · have := nodup_len n (k :: l) (List.nodup_cons.2 ⟨hm, hl⟩) (fun x hx => by
      rcases List.mem_cons.1 hx with rfl | hx
      · exact hk
      · exact h x hx)
    simp at this
    omega

/-! ### Primes -/
def Pr (p : Nat) : Prop := 2 ≤ p ∧ ∀ d, d ∣ p → d = 1 ∨ d = p
theorem Pr.coprime {p a : Nat} (h : Pr p) (ha : ¬ p ∣ a) : Nat.gcd p a = 1 := by
  rcases h.2 _ (Nat.gcd_dvd_left p a) with e | e
  · exact e
  · exact absurd (e ▸ Nat.gcd_dvd_right p a) ha
theorem Pr.dvd_mul {p a b : Nat} (h : Pr p) (hd : p ∣ a * b) : p ∣ a ∨ p ∣ b := by
  by_cases ha : p ∣ a
  · exact .inl ha
  · exact .inr (Nat.Coprime.dvd_of_dvd_mul_left (h.coprime ha) hd)
theorem exists_prime : ∀ n, 2 ≤ n → ∃ p, Pr p ∧ p ∣ n := by
  intro n
  induction n using Nat.strongRecOn with
  | ind n ih =>
    intro h2
    by_cases hp : ∀ d, d ∣ n → d = 1 ∨ d = n
    · exact ⟨n, ⟨h2, hp⟩, Nat.dvd_refl n⟩
    · have hp2 : ∃ d, d ∣ n ∧ d ≠ 1 ∧ d ≠ n := by
        refine Classical.byContradiction fun hc => hp fun d hd => ?_
        by_cases h1 : d = 1
        · exact .inl h1
        · by_cases h2 : d = n
          · exact .inr h2
          · exact absurd ⟨d, hd, h1, h2⟩ hc
      obtain ⟨d, hd, h1, h3⟩ := hp2
      have hle := Nat.le_of_dvd (by omega) hd
      have h0 : d ≠ 0 := by rintro rfl; have := Nat.eq_zero_of_zero_dvd hd; omega
      obtain ⟨p, hp, hpd⟩ := ih d (by omega) (by omega)
      exact ⟨p, hp, Nat.dvd_trans hpd hd⟩

/-! ### The Legendre symbol -/
def sqB (a p : Nat) : Bool := (List.range p).any fun x => x * x % p == a % p
theorem sqB_iff {a p : Nat} : sqB a p = true ↔ ∃ x, x < p ∧ x * x % p = a % p := by
  simp [sqB]
theorem sqB_any {a p x : Nat} (hp : 0 < p) (h : x * x % p = a % p) : sqB a p = true :=
  sqB_iff.2 ⟨x % p, Nat.mod_lt _ hp, by rw [← Nat.mul_mod, h]⟩
def leg (a p : Nat) : Int := if a % p = 0 then 0 else if sqB a p then 1 else -1
theorem leg_mod (a p : Nat) : leg (a % p) p = leg a p := by
  unfold leg sqB
  rw [Nat.mod_mod]
/-- Equal squares. -/
theorem sq_eq {p x y : Nat} (hp : Pr p) (hxy : x < y) (h : x * x % p = y * y % p) : p ∣ y - x ∨ p ∣ y + x := by
  have h1 : p ∣ y * y - x * x := Nat.dvd_of_mod_eq_zero (Nat.sub_mod_eq_zero_of_mod_eq h.symm)
  have h2 : y * y - x * x = (y - x) * (y + x) := by rw [Nat.mul_self_sub_mul_self_eq, Nat.mul_comm]
  rw [h2] at h1
  exact hp.dvd_mul h1
/-- The squares of 1 to h. -/
def sqs (p h : Nat) : List Nat := (List.range h).map fun i => (i + 1) * (i + 1) % p
theorem nodup_map {f : Nat → Nat} {l : List Nat} (hl : l.Nodup) (hf : ∀ x, x ∈ l → ∀ y, y ∈ l → f x = f y → x = y) : (l.map f).Nodup := by
  induction l with
  | nil => simp
  | cons a l ih =>
    rw [List.nodup_cons] at hl
    rw [List.map_cons, List.nodup_cons]
    refine ⟨fun h => ?_, ih hl.2 (fun x hx y hy => hf x (by simp [hx]) y (by simp [hy]))⟩
    obtain ⟨b, hb, e⟩ := List.mem_map.1 h
    exact hl.1 ((hf b (by simp [hb]) a (by simp) e) ▸ hb)
theorem sqs_nodup {p h : Nat} (hp : Pr p) (hh : 2 * h < p) : (sqs p h).Nodup := by
  refine nodup_map List.nodup_range fun x hx y hy e => ?_
  rw [List.mem_range] at hx hy
  rcases Nat.lt_trichotomy x y with q | q | q
  · rcases sq_eq hp (show x + 1 < y + 1 by omega) e with d | d
    · have := Nat.le_of_dvd (by omega) d; omega
    · have := Nat.le_of_dvd (by omega) d; omega
  · exact q
  · rcases sq_eq hp (show y + 1 < x + 1 by omega) e.symm with d | d
    · have := Nat.le_of_dvd (by omega) d; omega
    · have := Nat.le_of_dvd (by omega) d; omega
theorem mul_cancel {p g x y : Nat} (hp : Pr p) (hg : ¬ p ∣ g) (hx : x < p) (hy : y < p) (h : g * x % p = g * y % p) : x = y := by
  have key : ∀ u v : Nat, v ≤ u → u < p → g * u % p = g * v % p → u = v := by
    intro u v hle hu e
    have d : p ∣ g * u - g * v := Nat.dvd_of_mod_eq_zero (Nat.sub_mod_eq_zero_of_mod_eq e)
    rw [← Nat.mul_sub] at d
    rcases hp.dvd_mul d with q | q
    · exact absurd q hg
    · rcases Nat.eq_zero_or_pos (u - v) with z | z
      · omega
      · have := Nat.le_of_dvd z q; omega
  rcases Nat.le_total x y with q | q
  · exact (key y x q hy h.symm).symm
  · exact key x y q hx h
theorem nz_mul {p a b : Nat} (hp : Pr p) (ha : a % p ≠ 0) (hb : b % p ≠ 0) : a * b % p ≠ 0 := fun e => by
  rcases hp.dvd_mul (Nat.dvd_of_mod_eq_zero e) with q | q
  · exact ha (Nat.mod_eq_zero_of_dvd q)
  · exact hb (Nat.mod_eq_zero_of_dvd q)
theorem inv_exists {p a : Nat} (hp : Pr p) (ha : ¬ p ∣ a) : ∃ u, a * u % p = 1 := by
  have hp2 := hp.1
  have hmem : ∀ x, x ∈ ((List.range (p - 1)).map fun i => a * (i + 1) % p) → ∃ i, i < p - 1 ∧ x = a * (i + 1) % p := by
    intro x hx
    obtain ⟨i, hi, rfl⟩ := List.mem_map.1 hx
    exact ⟨i, List.mem_range.1 hi, rfl⟩
  have h1 : ((List.range (p - 1)).map fun i => a * (i + 1) % p).Nodup := nodup_map List.nodup_range fun x hx y hy e => by
    rw [List.mem_range] at hx hy
    have := mul_cancel hp ha (show x + 1 < p by omega) (show y + 1 < p by omega) e
    omega
  have h2 := pigeon (n := p - 1) h1 (fun x hx => by
    obtain ⟨i, hi, rfl⟩ := hmem x hx
    have : a * (i + 1) % p ≠ 0 := nz_mul hp (fun e => ha (Nat.dvd_of_mod_eq_zero e)) (by rw [Nat.mod_eq_of_lt (by omega)]; omega)
    have := Nat.mod_lt (a * (i + 1)) (show 0 < p by omega)
    omega) (by simp) (k := 1) (by omega)
  obtain ⟨i, hi, e⟩ := hmem 1 h2
  exact ⟨i + 1, e.symm⟩
/-- Each number that is no square is g times a square, for one g that is no square. -/
theorem nonsq_form {p g a : Nat} (hp : Pr p) (hodd : p % 2 = 1) (hg0 : g % p ≠ 0) (hg : sqB g p = false) (ha0 : a % p ≠ 0) (ha : sqB a p = false) : ∃ x, g * (x * x) % p = a % p := by
  have hp0 : 0 < p := by have := hp.1; omega
  obtain ⟨h, hh⟩ : ∃ h, p = 2 * h + 1 := ⟨p / 2, by omega⟩
  have hgd : ¬ p ∣ g := fun d => hg0 (Nat.mod_eq_zero_of_dvd d)
  have hmem : ∀ x, x ∈ sqs p h → ∃ i, i < h ∧ x = (i + 1) * (i + 1) % p := by
    intro x hx
    obtain ⟨i, hi, rfl⟩ := List.mem_map.1 hx
    exact ⟨i, List.mem_range.1 hi, rfl⟩
  have hne : ∀ i, i < h → (i + 1) * (i + 1) % p ≠ 0 := by
    intro i hi
    have : (i + 1) % p ≠ 0 := by rw [Nat.mod_eq_of_lt (by omega)]; omega
    exact nz_mul hp this this
  have n1 := sqs_nodup (h := h) hp (by omega)
  have n2 : ((sqs p h).map fun x => g * x % p).Nodup := nodup_map n1 (by
    intro x hx y hy e
    obtain ⟨i, _, rfl⟩ := hmem x hx
    obtain ⟨j, _, rfl⟩ := hmem y hy
    exact mul_cancel hp hgd (Nat.mod_lt _ hp0) (Nat.mod_lt _ hp0) e)
  have n3 : (sqs p h ++ (sqs p h).map fun x => g * x % p).Nodup := by
    rw [List.nodup_append]
    refine ⟨n1, n2, ?_⟩
    intro x hx y hy e
    subst e
    obtain ⟨i, hi, rfl⟩ := hmem x hx
    obtain ⟨z, hz, e⟩ := List.mem_map.1 hy
    obtain ⟨j, hj, rfl⟩ := hmem z hz
    -- g (j+1)^2 = (i+1)^2: g would be a square
    have hjp : ¬ p ∣ j + 1 := fun d => by have := Nat.le_of_dvd (by omega) d; omega
    obtain ⟨u, hu⟩ := inv_exists hp hjp
    have e2 : ((i + 1) * u) * ((i + 1) * u) % p = g % p := by
      have q1 : ((i + 1) * u) * ((i + 1) * u) = (i + 1) * (i + 1) * (u * u) := by simp only [Nat.mul_assoc, Nat.mul_left_comm, Nat.mul_comm]
      have q2 : g * ((j + 1) * (j + 1)) * (u * u) = g * (((j + 1) * u) * ((j + 1) * u)) := by simp only [Nat.mul_assoc, Nat.mul_left_comm, Nat.mul_comm]
      have e3 : (i + 1) * (i + 1) % p = g * ((j + 1) * (j + 1)) % p := by
        have e' : g * ((j + 1) * (j + 1) % p) % p = (i + 1) * (i + 1) % p := e
        rw [← e', Nat.mul_mod_mod]
      rw [q1, Nat.mul_mod, e3, ← Nat.mul_mod, q2, Nat.mul_mod, Nat.mul_mod (((j + 1) * u)), hu]
      have : 1 * 1 % p = 1 % p := rfl
      rw [this, ← Nat.mul_mod, Nat.mul_one]
    have := sqB_any hp0 e2
    rw [hg] at this; cases this
  have hk : a % p ∈ (sqs p h ++ (sqs p h).map fun x => g * x % p) := by
    refine pigeon (n := p - 1) n3 (fun x hx => ?_) (by simp [sqs]; omega) ?_
    · rcases List.mem_append.1 hx with hx | hx
      · obtain ⟨i, hi, rfl⟩ := hmem x hx
        have := hne i hi
        have := Nat.mod_lt ((i + 1) * (i + 1)) hp0
        omega
      · obtain ⟨z, hz, rfl⟩ := List.mem_map.1 hx
        obtain ⟨i, hi, rfl⟩ := hmem z hz
        have h1 := hne i hi
        have h2 : g * ((i + 1) * (i + 1) % p) % p ≠ 0 := nz_mul hp hg0 (by rw [Nat.mod_mod]; exact h1)
        have := Nat.mod_lt (g * ((i + 1) * (i + 1) % p)) hp0
        show 1 ≤ g * ((i + 1) * (i + 1) % p) % p ∧ g * ((i + 1) * (i + 1) % p) % p ≤ p - 1
        omega
    · have := Nat.mod_lt a hp0
      omega
  rcases List.mem_append.1 hk with hx | hx
  · obtain ⟨i, hi, e⟩ := hmem _ hx
    have := sqB_any hp0 e.symm
    rw [ha] at this; cases this
  · obtain ⟨z, hz, e⟩ := List.mem_map.1 hx
    obtain ⟨i, hi, rfl⟩ := hmem z hz
    refine ⟨i + 1, ?_⟩
    have e' : g * ((i + 1) * (i + 1) % p) % p = a % p := e
    rw [← e', Nat.mul_mod_mod]
theorem sq_mul {x y p : Nat} {a b : Nat} (h1 : x * x % p = a % p) (h2 : y * y % p = b % p) : (x * y) * (x * y) % p = a * b % p := by
  have q : (x * y) * (x * y) = x * x * (y * y) := by simp only [Nat.mul_assoc, Nat.mul_left_comm]
  rw [q, Nat.mul_mod, h1, h2, ← Nat.mul_mod]
/-- If a and a b are squares, b is one. -/
theorem sq_div {p a b : Nat} (hp : Pr p) (ha0 : a % p ≠ 0) (ha : sqB a p = true) (hab : sqB (a * b) p = true) : sqB b p = true := by
  have hp0 : 0 < p := by have := hp.1; omega
  obtain ⟨x, _, hx⟩ := sqB_iff.1 ha
  obtain ⟨y, _, hy⟩ := sqB_iff.1 hab
  have hxp : ¬ p ∣ x := fun d => ha0 (by rw [← hx]; exact Nat.mod_eq_zero_of_dvd (Nat.dvd_trans d (Nat.dvd_mul_right x x)))
  obtain ⟨u, hu⟩ := inv_exists hp hxp
  refine sqB_any (x := y * u) hp0 ?_
  have q1 : (y * u) * (y * u) = y * y * (u * u) := by simp only [Nat.mul_assoc, Nat.mul_left_comm]
  have q2 : x * x * b * (u * u) = b * ((x * u) * (x * u)) := by simp only [Nat.mul_left_comm, Nat.mul_comm]
  have e1 : y * y % p = x * x * b % p := by rw [hy, Nat.mul_mod, ← hx, ← Nat.mul_mod]
  rw [q1, Nat.mul_mod, e1, ← Nat.mul_mod, q2, Nat.mul_mod, Nat.mul_mod (x * u), hu]
  have : 1 * 1 % p = 1 % p := rfl
  rw [this, ← Nat.mul_mod, Nat.mul_one]
theorem leg_mul {p a b : Nat} (hp : Pr p) (hodd : p % 2 = 1) : leg (a * b) p = leg a p * leg b p := by
  have hp0 : 0 < p := by have := hp.1; omega
  unfold leg
  by_cases ha : a % p = 0
  · rw [if_pos ha, if_pos (by rw [Nat.mul_mod, ha, Nat.zero_mul, Nat.zero_mod])]; simp
  · by_cases hb : b % p = 0
    · rw [if_pos hb, if_pos (by rw [Nat.mul_mod, hb, Nat.mul_zero, Nat.zero_mod])]; simp
    · rw [if_neg ha, if_neg hb, if_neg (nz_mul hp ha hb)]
      cases h1 : sqB a p <;> cases h2 : sqB b p
      · obtain ⟨x, hx⟩ := nonsq_form hp hodd ha h1 hb h2
        have : sqB (a * b) p = true := by
          refine sqB_any (x := a * x) hp0 ?_
          have q : (a * x) * (a * x) = a * (a * (x * x)) := by simp only [Nat.mul_assoc, Nat.mul_left_comm]
          rw [q, Nat.mul_mod, hx, ← Nat.mul_mod]
        rw [this]; rfl
      · have : sqB (a * b) p = false := by
          cases h : sqB (a * b) p
          · rfl
          · have := sq_div hp hb h2 (by rw [Nat.mul_comm]; exact h)
            rw [h1] at this; cases this
        rw [this]; rfl
      · have : sqB (a * b) p = false := by
          cases h : sqB (a * b) p
          · rfl
          · have := sq_div hp ha h1 h
            rw [h2] at this; cases this
        rw [this]; rfl
      · obtain ⟨x, _, hx⟩ := sqB_iff.1 h1
        obtain ⟨y, _, hy⟩ := sqB_iff.1 h2
        rw [sqB_any hp0 (sq_mul hx hy)]; rfl
/-! ### The check by calculation -/
noncomputable def fcq {α : Type} (n : Nat) (f : Nat → α) : α := Nat.rec (f 0) (fun m _ => f (Nat.succ m)) n
theorem fcq_eq {α : Type} (n : Nat) (f : Nat → α) : fcq n f = f n := by cases n <;> rfl
/-- The squares of 1 to k, as binary digits. -/
noncomputable def mask (p k : Nat) : Nat → Nat := Nat.rec (fun m => m) (fun k ih m => fcq (Nat.lor m (Nat.shiftLeft 1 (Nat.mod (Nat.mul (Nat.succ k) (Nat.succ k)) p))) ih) k
theorem mask_zero (p m : Nat) : mask p 0 m = m := rfl
theorem mask_succ (p k m : Nat) : mask p (k + 1) m = fcq (m ||| (1 <<< ((k + 1) * (k + 1) % p))) fun m' => mask p k m' := rfl
theorem mask_bit {p a : Nat} : ∀ (k m : Nat), (mask p k m).testBit a = true ↔ m.testBit a = true ∨ ∃ x, 1 ≤ x ∧ x ≤ k ∧ x * x % p = a := by
  intro k
  induction k with
  | zero =>
    intro m
    rw [mask_zero]
    constructor
    · exact .inl
    · rintro (h | ⟨x, h1, h2, _⟩)
      · exact h
      · omega
  | succ k ih =>
    intro m
    rw [mask_succ, fcq_eq, ih, Nat.testBit_or]
    have h1 : (1 <<< ((k + 1) * (k + 1) % p)).testBit a = decide ((k + 1) * (k + 1) % p = a) := by
      rw [Nat.one_shiftLeft, Nat.testBit_two_pow]
    rw [h1]
    simp only [Bool.or_eq_true, decide_eq_true_eq]
    constructor
    · rintro ((h | h) | ⟨x, h1, h2, h3⟩)
      · exact .inl h
      · exact .inr ⟨k + 1, by omega, by omega, h⟩
      · exact .inr ⟨x, h1, by omega, h3⟩
    · rintro (h | ⟨x, h1, h2, h3⟩)
      · exact .inl (.inl h)
      · by_cases e : x = k + 1
        · subst e; exact .inl (.inr h3)
        · exact .inr ⟨x, h1, by omega, h3⟩
noncomputable def msk (p : Nat) : Nat := mask p (p / 2) 0
theorem msk_sq {p a : Nat} (hp : p % 2 = 1) (ha : a % p ≠ 0) : (msk p).testBit (a % p) = sqB a p := by
  have key : (msk p).testBit (a % p) = true ↔ sqB a p = true := by
    unfold msk
    rw [mask_bit, sqB_iff]
    constructor
    · rintro (h | ⟨x, h1, h2, h3⟩)
      · simp at h
      · exact ⟨x, by omega, h3⟩
    · rintro ⟨x, h1, h2⟩
      refine .inr ?_
      have hx0 : x ≠ 0 := by rintro rfl; rw [Nat.zero_mul, Nat.zero_mod] at h2; exact ha h2.symm
      by_cases hx : x ≤ p / 2
      · exact ⟨x, by omega, hx, h2⟩
      · refine ⟨p - x, by omega, by omega, ?_⟩
        rw [← h2]
        have e : (p - x) * (p - x) + p * x = x * x + p * (p - x) := by
          obtain ⟨y, rfl⟩ : ∃ y, p = x + y := ⟨p - x, by omega⟩
          rw [Nat.add_sub_cancel_left]
          simp only [Nat.add_mul, Nat.mul_comm y x]
          omega
        have e2 := congrArg (· % p) e
        simpa using e2
  cases h : sqB a p
  · cases h2 : (msk p).testBit (a % p)
    · rfl
    · rw [h] at key; exact absurd (key.1 h2) (by simp)
  · exact key.2 h
def prB (p : Nat) : Bool := (List.range 62).all fun d => p % (d + 2) != 0 || p == d + 2
theorem prB_of {p : Nat} (h : Pr p) : prB p = true := by
  rw [prB, List.all_eq_true]
  intro d _
  by_cases hd : p % (d + 2) = 0
  · rcases h.2 _ (Nat.dvd_of_mod_eq_zero hd) with q | q
    · omega
    · simp [q]
  · simp [hd]
def chk2 (p Q : Nat) : Bool := Q.testBit 2 == (p % 8 == 1 || p % 8 == 7)
/-- One digit, as a number. -/
def bitN (Q a : Nat) : Nat := Nat.land (Nat.shiftRight Q a) 1
theorem bitN_eq (Q a : Nat) : bitN Q a = (Q.testBit a).toNat := by
  show Q >>> a &&& 1 = _
  rw [Nat.and_one_is_mod, Nat.shiftRight_eq_div_pow, Nat.toNat_testBit]
/-- 1 if both are 3 modulo 4. -/
def both3 (p q : Nat) : Nat := Nat.land (Nat.div (Nat.mod p 4) 2) (Nat.div (Nat.mod q 4) 2)
noncomputable def chkL (p Q : Nat) (l : List (Nat × Nat)) : Bool := List.rec true (fun q _ ih => cond (Nat.beq (bitN Q q.1) (Nat.xor (bitN q.2 (Nat.mod p q.1)) (both3 p q.1))) ih false) l
theorem chkL_cons (p Q : Nat) (q : Nat × Nat) (l : List (Nat × Nat)) : chkL p Q (q :: l) = cond (Nat.beq (bitN Q q.1) (Nat.xor (bitN q.2 (p % q.1)) (both3 p q.1))) (chkL p Q l) false := rfl
theorem chk_one {p Q q R : Nat} (hp : p % 2 = 1) (hq : q % 2 = 1) (h : Nat.beq (bitN Q q) (Nat.xor (bitN R (p % q)) (both3 p q)) = true) : Q.testBit q = (R.testBit (p % q) != (p % 4 == 3 && q % 4 == 3)) := by
  have h := Nat.eq_of_beq_eq_true h
  rw [bitN_eq, bitN_eq] at h
  have hb : both3 p q = if p % 4 = 3 ∧ q % 4 = 3 then 1 else 0 := by
    show p % 4 / 2 &&& q % 4 / 2 = _
    have : p % 4 = 1 ∨ p % 4 = 3 := by omega
    have : q % 4 = 1 ∨ q % 4 = 3 := by omega
    rcases ‹p % 4 = 1 ∨ p % 4 = 3› with e | e <;> rcases ‹q % 4 = 1 ∨ q % 4 = 3› with f | f <;> rw [e, f] <;> rfl
  rw [hb] at h
  generalize Q.testBit q = x at *
  generalize R.testBit (p % q) = y at *
  have : p % 4 = 1 ∨ p % 4 = 3 := by omega
  have : q % 4 = 1 ∨ q % 4 = 3 := by omega
  rcases ‹p % 4 = 1 ∨ p % 4 = 3› with e | e <;> rcases ‹q % 4 = 1 ∨ q % 4 = 3› with f | f <;> rw [e, f] at h ⊢ <;> revert h <;> cases x <;> cases y <;> decide
noncomputable def go : Nat → Nat → List (Nat × Nat) → Bool
  | 0, _, _ => true
  | f + 1, p, acc => match prB p with
    | true => fcq (msk p) fun Q => (chk2 p Q && chkL p Q acc) && fcq (p + 2) fun p' => go f p' ((p, Q) :: acc)
    | false => fcq (p + 2) fun p' => go f p' acc
theorem chkL_iff {p Q : Nat} (hp : p % 2 = 1) : ∀ {l : List (Nat × Nat)}, chkL p Q l = true → ∀ q, q ∈ l → q.1 % 2 = 1 → Q.testBit q.1 = (q.2.testBit (p % q.1) != (p % 4 == 3 && q.1 % 4 == 3)) := by
  intro l
  induction l with
  | nil => intro _ q h; cases h
  | cons a l ih =>
    intro h q hq ho
    rw [chkL_cons] at h
    cases hb : Nat.beq (bitN Q a.1) (Nat.xor (bitN a.2 (p % a.1)) (both3 p a.1))
    · rw [hb] at h; cases h
    · rw [hb] at h
      rcases List.mem_cons.1 hq with rfl | hq
      · exact chk_one hp ho hb
      · exact ih h q hq ho
theorem go_spec : ∀ (f p : Nat) (acc : List (Nat × Nat)), p % 2 = 1 → go f p acc = true → (∀ q, 3 ≤ q → q < p → q % 2 = 1 → Pr q → (q, msk q) ∈ acc) →
    ∀ r, p ≤ r → r < p + 2 * f → r % 2 = 1 → Pr r → chk2 r (msk r) = true ∧ ∀ q, 3 ≤ q → q < r → q % 2 = 1 → Pr q → (msk r).testBit q = ((msk q).testBit (r % q) != (r % 4 == 3 && q % 4 == 3)) := by
  intro f
  induction f with
  | zero => intro p acc _ _ _ r h1 h2; omega
  | succ f ih =>
    intro p acc hodd hgo hacc r h1 h2 hr hpr
    rw [go] at hgo
    split at hgo
    · rename_i hb
      rw [fcq_eq, fcq_eq, Bool.and_eq_true, Bool.and_eq_true] at hgo
      by_cases e : r = p
      · subst e
        exact ⟨hgo.1.1, fun q q1 q2 q3 q4 => chkL_iff hr hgo.1.2 (q, msk q) (hacc q q1 q2 q3 q4) q3⟩
      · refine ih (p + 2) _ (by omega) hgo.2 (fun q q1 q2 q3 q4 => ?_) r (by omega) (by omega) hr hpr
        by_cases e2 : q = p
        · subst e2; simp
        · exact List.mem_cons_of_mem _ (hacc q q1 (by omega) q3 q4)
    · rename_i hb
      rw [fcq_eq] at hgo
      by_cases e : r = p
      · subst e; rw [prB_of hpr] at hb; cases hb
      · refine ih (p + 2) _ (by omega) hgo (fun q q1 q2 q3 q4 => ?_) r (by omega) (by omega) hr hpr
        by_cases e2 : q = p
        · subst e2; rw [prB_of q4] at hb; cases hb
        · exact hacc q q1 (by omega) q3 q4
theorem go_all : go 1999 3 [] = true := by decide +kernel
/-! ### The symbols of primes below 4000 -/
def eps (a b : Nat) : Int := if a % 4 = 3 ∧ b % 4 = 3 then -1 else 1
def chi8 (p : Nat) : Int := if p % 8 = 1 ∨ p % 8 = 7 then 1 else -1
theorem primes_ok {r : Nat} (h3 : 3 ≤ r) (h4 : r < 4000) (hr : r % 2 = 1) (hp : Pr r) :
    chk2 r (msk r) = true ∧ ∀ q, 3 ≤ q → q < r → q % 2 = 1 → Pr q → (msk r).testBit q = ((msk q).testBit (r % q) != (r % 4 == 3 && q % 4 == 3)) :=
  go_spec 1999 3 [] (by decide) go_all (fun q h1 h2 => by omega) r h3 (by omega) hr hp
theorem odd_ge {p : Nat} (hp : Pr p) (ho : p % 2 = 1) : 3 ≤ p := by have := hp.1; omega
theorem leg_two {p : Nat} (hp : Pr p) (ho : p % 2 = 1) (h4 : p < 4000) : leg 2 p = chi8 p := by
  have h3 := odd_ge hp ho
  have h2 : 2 % p ≠ 0 := by rw [Nat.mod_eq_of_lt (by omega)]; omega
  have hc := (primes_ok h3 h4 ho hp).1
  unfold chk2 at hc
  rw [beq_iff_eq] at hc
  have hm := msk_sq (a := 2) ho h2
  rw [Nat.mod_eq_of_lt (by omega : 2 < p)] at hm
  unfold leg chi8
  rw [if_neg h2, ← hm, hc]
  by_cases h : p % 8 = 1 ∨ p % 8 = 7
  · rw [if_pos h, if_pos (by simpa using h)]
  · rw [if_neg h, if_neg (by simpa using h)]
theorem leg_lt {p q : Nat} (hp : Pr p) (ho : p % 2 = 1) (h4 : p < 4000) (hq : Pr q) (hqo : q % 2 = 1) (hlt : q < p) : leg q p = eps q p * leg p q := by
  have h3 := odd_ge hq hqo
  have e1 : q % p = q := Nat.mod_eq_of_lt hlt
  have n1 : q % p ≠ 0 := by omega
  have n2 : p % q ≠ 0 := fun e => by
    rcases hp.2 q (Nat.dvd_of_mod_eq_zero e) with h | h <;> omega
  have hc := (primes_ok (by omega) h4 ho hp).2 q h3 hlt hqo hq
  have m1 := msk_sq (a := q) ho n1
  have m2 := msk_sq (a := p) hqo n2
  rw [e1] at m1
  rw [m1, m2] at hc
  unfold leg eps
  rw [if_neg n1, if_neg n2, hc]
  have : p % 4 = 1 ∨ p % 4 = 3 := by omega
  have : q % 4 = 1 ∨ q % 4 = 3 := by omega
  rcases ‹p % 4 = 1 ∨ p % 4 = 3› with e | e <;> rcases ‹q % 4 = 1 ∨ q % 4 = 3› with f | f <;> rw [e, f] <;> cases sqB p q <;> decide
theorem eps_comm (a b : Nat) : eps a b = eps b a := by unfold eps; by_cases h : a % 4 = 3 <;> by_cases h2 : b % 4 = 3 <;> simp [h, h2]
theorem eps_sq (a b : Nat) : eps a b * eps a b = 1 := by unfold eps; split <;> rfl
theorem leg_rec {p q : Nat} (hp : Pr p) (ho : p % 2 = 1) (h4 : p < 4000) (hq : Pr q) (hqo : q % 2 = 1) (hq4 : q < 4000) : leg q p = eps q p * leg p q := by
  rcases Nat.lt_trichotomy q p with h | h | h
  · exact leg_lt hp ho h4 hq hqo h
  · subst h
    have : leg q q = 0 := by unfold leg; rw [if_pos (Nat.mod_self q)]
    rw [this, Int.mul_zero]
  · rw [leg_lt hq hqo hq4 hp ho h, ← Int.mul_assoc, eps_comm p q, eps_sq, Int.one_mul]

/-! ### Products over prime factors -/
def prd : List Nat → Nat
  | [] => 1
  | p :: L => p * prd L
def symb (a : Nat) : List Nat → Int
  | [] => 1
  | p :: L => leg a p * symb a L
def Good (L : List Nat) : Prop := ∀ p, p ∈ L → Pr p ∧ p % 2 = 1 ∧ p < 4000
theorem Good.head {p : Nat} {L : List Nat} (h : Good (p :: L)) : Pr p ∧ p % 2 = 1 ∧ p < 4000 := h p (by simp)
theorem Good.tail {p : Nat} {L : List Nat} (h : Good (p :: L)) : Good L := fun q hq => h q (by simp [hq])
theorem prd_odd : ∀ {L : List Nat}, Good L → prd L % 2 = 1 := by
  intro L
  induction L with
  | nil => intro _; rfl
  | cons p L ih =>
    intro h
    rw [prd, Nat.mul_mod, h.head.2.1, ih h.tail]
theorem symb_mod {a n : Nat} : ∀ {L : List Nat}, prd L ∣ n → symb (a % n) L = symb a L := by
  intro L
  induction L with
  | nil => intro _; rfl
  | cons p L ih =>
    intro h
    rw [prd] at h
    have h1 : p ∣ n := Nat.dvd_trans (Nat.dvd_mul_right p _) h
    have h2 : prd L ∣ n := Nat.dvd_trans (Nat.dvd_mul_left _ p) h
    rw [symb, symb, ih h2, ← leg_mod (a % n), Nat.mod_mod_of_dvd a h1, leg_mod]
theorem symb_mul {a b : Nat} : ∀ {L : List Nat}, Good L → symb (a * b) L = symb a L * symb b L := by
  intro L
  induction L with
  | nil => intro _; rfl
  | cons p L ih =>
    intro h
    rw [symb, symb, symb, ih h.tail, leg_mul h.head.1 h.head.2.1]
    simp only [Int.mul_assoc, Int.mul_left_comm]
theorem leg_one {p : Nat} (hp : Pr p) : leg 1 p = 1 := by
  have := hp.1
  have h1 : 1 % p = 1 := Nat.mod_eq_of_lt (by omega)
  unfold leg
  rw [if_neg (by omega), if_pos (sqB_any (x := 1) (by omega) rfl)]
theorem symb_one : ∀ {L : List Nat}, Good L → symb 1 L = 1 := by
  intro L
  induction L with
  | nil => intro _; rfl
  | cons p L ih => intro h; rw [symb, ih h.tail, leg_one h.head.1]; rfl
theorem symb_zero {p : Nat} {L : List Nat} : symb 0 (p :: L) = 0 := by
  rw [symb]
  have : leg 0 p = 0 := by unfold leg; rw [if_pos (Nat.zero_mod p)]
  rw [this, Int.zero_mul]
theorem chi8_mul {a b : Nat} (ha : a % 2 = 1) (hb : b % 2 = 1) : chi8 (a * b) = chi8 a * chi8 b := by
  have h : a * b % 8 = (a % 8) * (b % 8) % 8 := Nat.mul_mod a b 8
  have : a % 8 = 1 ∨ a % 8 = 3 ∨ a % 8 = 5 ∨ a % 8 = 7 := by omega
  have : b % 8 = 1 ∨ b % 8 = 3 ∨ b % 8 = 5 ∨ b % 8 = 7 := by omega
  unfold chi8
  rw [h]
  rcases ‹a % 8 = 1 ∨ _› with e | e | e | e <;> rcases ‹b % 8 = 1 ∨ _› with f | f | f | f <;> rw [e, f] <;> decide
theorem eps_mul {a b c : Nat} (ha : a % 2 = 1) (hb : b % 2 = 1) : eps (a * b) c = eps a c * eps b c := by
  have h : a * b % 4 = (a % 4) * (b % 4) % 4 := Nat.mul_mod a b 4
  have : a % 4 = 1 ∨ a % 4 = 3 := by omega
  have : b % 4 = 1 ∨ b % 4 = 3 := by omega
  unfold eps
  rw [h]
  rcases ‹a % 4 = 1 ∨ _› with e | e <;> rcases ‹b % 4 = 1 ∨ _› with f | f <;> rw [e, f] <;> by_cases hc : c % 4 = 3 <;> simp [hc]
theorem symb_two : ∀ {L : List Nat}, Good L → symb 2 L = chi8 (prd L) := by
  intro L
  induction L with
  | nil => intro _; rfl
  | cons p L ih =>
    intro h
    rw [symb, prd, ih h.tail, leg_two h.head.1 h.head.2.1 h.head.2.2, chi8_mul h.head.2.1 (prd_odd h.tail)]
theorem leg_prd {q : Nat} (hq : Pr q) (ho : q % 2 = 1) (h4 : q < 4000) : ∀ {L : List Nat}, Good L → symb q L = eps q (prd L) * leg (prd L) q := by
  intro L
  induction L with
  | nil =>
    intro _
    rw [symb, prd, leg_one hq]
    unfold eps
    rw [if_neg (by omega)]; rfl
  | cons p L ih =>
    intro h
    have hp := h.head
    rw [symb, prd, ih h.tail, leg_rec hp.1 hp.2.1 hp.2.2 hq ho h4, leg_mul hq ho, eps_comm q (p * prd L), eps_mul hp.2.1 (prd_odd h.tail), eps_comm p q, eps_comm (prd L) q]
    simp only [Int.mul_assoc, Int.mul_left_comm]
theorem symb_rec {L : List Nat} (hL : Good L) : ∀ {M : List Nat}, Good M → symb (prd M) L = eps (prd M) (prd L) * symb (prd L) M := by
  intro M
  induction M with
  | nil =>
    intro _
    rw [prd, symb, symb_one hL]
    unfold eps
    rw [if_neg (by omega)]; rfl
  | cons q M ih =>
    intro h
    have hq := h.head
    rw [prd, symb, symb_mul hL, ih h.tail, leg_prd hq.1 hq.2.1 hq.2.2 hL, eps_mul hq.2.1 (prd_odd h.tail)]
    simp only [Int.mul_assoc, Int.mul_left_comm]
theorem exists_list : ∀ n, n % 2 = 1 → n < 4000 → ∃ L, Good L ∧ prd L = n := by
  intro n
  induction n using Nat.strongRecOn with
  | ind n ih =>
    intro ho h4
    by_cases h1 : n = 1
    · exact ⟨[], (fun p hp => by cases hp), h1.symm⟩
    · obtain ⟨p, hp, m, rfl⟩ := exists_prime n (by omega)
      have hp2 := hp.1
      have hm : m % 2 = 1 := by
        rcases Nat.mod_two_eq_zero_or_one m with e | e
        · rw [Nat.mul_mod, e, Nat.mul_zero, Nat.zero_mod] at ho; cases ho
        · exact e
      have hpo : p % 2 = 1 := by
        rcases Nat.mod_two_eq_zero_or_one p with e | e
        · rw [Nat.mul_mod, e, Nat.zero_mul, Nat.zero_mod] at ho; cases ho
        · exact e
      have hmp : m < p * m := by
        have : 2 * m ≤ p * m := Nat.mul_le_mul_right m hp2
        omega
      have hpm : p ≤ p * m := Nat.le_mul_of_pos_right p (by omega)
      obtain ⟨L, hL, e⟩ := ih m hmp hm (by omega)
      refine ⟨p :: L, fun q hq => ?_, by rw [prd, e]⟩
      rcases List.mem_cons.1 hq with rfl | hq
      · exact ⟨hp, hpo, by omega⟩
      · exact hL q hq
end Go.Proofs.YtfokiokcofabcaaDoor.QR
