/-
  Contracts of package natural, the fourteenth part: Text.
-/
import Derived.Test.YtamgklgjhjociaaNat13
namespace Go.Proofs.Ytamgklgjhjociaa
open Go.RowKit
set_option linter.unusedVariables false

/-- The first K decimal digits as bytes, the lowest one first. -/
def digs (n K : Nat) : List Value := (List.range K).map fun k => Value.int .u8 (48 + dd n k : Nat)
theorem digs_succ (n K : Nat) : digs n (K + 1) = digs n K ++ [Value.int .u8 (48 + dd n K : Nat)] := by
  unfold digs; rw [List.range_succ, List.map_append]; rfl
theorem digs_length (n K : Nat) : (digs n K).length = K := by simp [digs]

/-- What the outer loop of Text knows. -/
def TextR (v m g B : Nat) (w : World) (N : Nat) (text d : Value) (wr : World) : Prop :=
  ∃ i, N = v / 10 ^ (9 * i) ∧ d = .slice (some ⟨g, 0, none⟩) (nd N) m ∧ Row wr g 104 m (nd N) N ∧ wr.ownsRow B 5 1 text (9 * i) (digs v (9 * i)) ∧ Below w.heap.size w wr ∧ B ≤ wr.heap.size
/-- What the inner loop knows. -/
def TextI (v m g B i M n1 N2 : Nat) (w : World) (text part j : Value) (wr : World) : Prop :=
  ∃ k : Nat, k ≤ 9 ∧ j = .int .i64 k ∧ part = .int .u32 (M / 10 ^ k : Nat) ∧ Row wr g 104 m n1 N2 ∧ wr.ownsRow B 5 1 text (9 * i + k) (digs v (9 * i + k)) ∧ Below w.heap.size w wr ∧ B ≤ wr.heap.size

theorem own_only {w w' : World} {base e size n g : Nat} {v : Value} {xs : List Value} (h : w.ownsRow base e size v n xs) (ho : Only g w w') (hg : g < base) : w'.ownsRow base e size v n xs := by
  obtain ⟨h1, h2⟩ := h
  refine ⟨h1, ?_⟩
  rcases h2 with h2 | ⟨k, cap, cur, hv, hk, hh, r⟩
  · exact .inl h2
  · refine .inr ⟨k, cap, cur, hv, hk, ?_, r⟩
    have hlt : k < w.heap.size := by
      rcases Nat.lt_or_ge k w.heap.size with h | h
      · exact h
      · rw [Array.getElem?_eq_none h] at hh; cases hh
    rw [ho.block k hlt (by omega)]; exact hh
theorem Row.grown {w w' : World} {g tt L n N : Nat} {row : Option Nat} (h : Row w g tt L n N) (hg : w.grownBy w' row) (hn : some g ≠ row) : Row w' g tt L n N := by
  obtain ⟨f, h1, h2⟩ := h
  exact ⟨f, h1.of_block (hg.block g h1.lt hn), h2⟩
theorem own_block_ge {w : World} {base e size n : Nat} {v : Value} {xs : List Value} (h : w.ownsRow base e size v n xs) : ∀ k, v.ownBlock = some k → base ≤ k := by
  intro k hk
  rcases h.2 with ⟨rfl, _⟩ | ⟨g, cap, cur, rfl, hg, _⟩
  · cases hk
  · have : g = k := by simpa [Value.ownBlock] using hk
    omega

theorem ndec_bytes {n k : Nat} (h : n < 256 ^ k) : ndec n ≤ 3 * k := ndec_le.2 (Nat.lt_of_lt_of_le h (by rw [Nat.pow_mul]; exact Nat.pow_le_pow_left (by omega) k))
theorem run_bytes_str {w : World} {g o : Nat} {l : List UInt8} (h : Bytes w g o l) (c n : Nat) (hn : n = l.length) :
    (convert 98 9 (.slice (some ⟨g, o, none⟩) n c)).run Try.prog w = .ok (.string ⟨l.toArray⟩) w := by
  subst hn
  have := run_convert_bytes_arg (P := Try.prog) w 98 5 Try.und98 Try.und5 g o l.length c (l.map fun c => (c.toNat : Int)) (by simp) (fun i hi => by
    rw [h i hi]; simp [List.getD, hi]) 9 (by kernel_rfl)
  rw [this, strOfNums_bytes]
theorem decT_pos {n : Nat} (h : 0 < n) : decT n = (List.range (ndec n)).map fun j => UInt8.ofNat (48 + dd n (ndec n - 1 - j)) := by unfold decT; rw [if_neg (by omega)]
theorem bytes_decT {w : World} {g tt L n : Nat} (hr : RowB w g tt L (ndec n) (fun j => 48 + dd n (ndec n - 1 - j))) (hL : ndec n ≤ L) (h : 0 < n) : Bytes w g 0 (decT n) := by
  intro j hj
  rw [decT_pos h] at hj ⊢
  have hj' : j < ndec n := by simpa using hj
  rw [Nat.zero_add, hr.cell hj' hL]
  have hd := dd_lt n (ndec n - 1 - j)
  have e : (UInt8.ofNat (48 + dd n (ndec n - 1 - j))).toNat = 48 + dd n (ndec n - 1 - j) := by
    rw [UInt8.toNat_ofNat']; exact Nat.mod_eq_of_lt (by omega)
  rw [List.getElem?_map, List.getElem?_range hj', Option.map_some, Option.getD_some, e]
theorem decT_length {n : Nat} (h : 0 < n) : (decT n).length = ndec n := by rw [decT_pos h]; simp

set_option maxHeartbeats 400000 in
theorem text_no (s : ByteArray) (w : World) (h : ¬ Can s) :
    Calls Try.prog 65 #[.string s] w fun e w' => e = .returned (.tuple #[.string ByteArray.empty, .int .i64 3]) ∧ w = w' := by
  have HC := Lib.hid h; clear h
  go_enter Try.func65, Try.ntmps65
  go_wp2_with fail
  refine (valid_no s _ HC.out).mono ?_; rintro e w' ⟨rfl, rfl⟩
  go_wp2
  go_ret2
  exact ⟨rfl, rfl⟩

set_option maxHeartbeats 2000000 in
set_option maxRecDepth 20000 in
theorem text_yes (s : ByteArray) (w : World) (hs : Can s) :
    Calls Try.prog 65 #[.string s] w fun e w' => e = .returned (.tuple #[.string (T (V s)), .int .i64 0]) ∧ Below w.heap.size w w' := by
  by_cases h0 : s.size = 0
  · have hE := empty_of h0
    have hz : T (V s) = ⟨#[48]⟩ := by rw [(V_zero_iff hs).2 h0]; rfl
    rw [hz]
    have HS := Lib.hid hs; clear hs hz h0
    go_enter Try.func65, Try.ntmps65
    go_wp2_with fail
    refine (valid_yes s _ HS.out).mono ?_; rintro e w' ⟨rfl, rfl⟩
    go_wp2
    go_ret2
    exact ⟨rfl, Below.refl _ _⟩
  · have hE := not_empty_of h0
    have hl := V_lim hs
    have hv0 : 0 < V s := by
      rcases Nat.eq_zero_or_pos (V s) with e | e
      · exact absurd ((V_zero_iff hs).1 e) h0
      · exact e
    have h128 := hs.1
    have hm := nd_can hs
    obtain ⟨m, hme⟩ : ∃ m, m = (s.size + 3) / 4 := ⟨_, rfl⟩
    have hm33 : m ≤ 33 := by omega
    rw [← hme] at hm
    have HS := Lib.hid hs; clear hs
    have HL := Lib.hid hl; clear hl
    have HM := Lib.hid hm; clear hm
    have HME := Lib.hid hme; clear hme h0
    go_enter Try.func65, Try.ntmps65
    go_wp2_with fail
    refine (valid_yes s _ HS.out).mono ?_; rintro e w' ⟨rfl, rfl⟩
    go_wp2_with fail
    refine (load_any s _ (by omega)).mono ?_
    rintro e w1 ⟨rfl, hr1, hb1⟩
    rw [← HME.out] at hr1 ⊢
    have HR1 := Lib.hid hr1; clear hr1
    have hg1 : w.heap.size < w1.heap.size := HR1.out.lt
    go_wp2
    go_loopg [4, 5, 6, 21] (V s) (fun N text d _ _ wr => TextR (V s) m w.heap.size w1.heap.size w N text d wr)
    case atStart => exact ⟨0, by simp, by rw [HM.out], ⟨_, HR1.out, fun _ _ => rfl⟩, World.ownsRow_nil _ _ _ _, hb1, Nat.le_refl _⟩
    case round =>
      obtain ⟨i, hN, rfl, hrow, hown, hbel, hBs⟩ := hrel
      have HN := Lib.hid hN; clear hN
      by_cases hz : gk = 0
      · have hv10 : V s < 10 ^ (9 * i) := by
          have h := HN.out
          rw [hz] at h
          have := (Nat.div_eq_zero_iff).1 h.symm
          have hp := Nat.pow_pos (n := 9 * i) (show 0 < 10 by omega)
          omega
        have hnd : ndec (V s) ≤ 9 * i := ndec_le.2 hv10
        have hlo := ndec_lo hv0
        have htop := dd_top hv0
        have hgz : nd gk = 0 := by rw [hz]; rfl
        have hKle : 9 * i ≤ maxLen := by
          obtain ⟨_, h⟩ := hown
          rcases h with ⟨_, h⟩ | ⟨g2, cap, cur, _, _, _, h1, h2, _⟩ <;> omega
        obtain ⟨_, h⟩ := hown
        rcases h with ⟨_, h⟩ | ⟨g2, cap, cur, rfl, hg2, hheap, hcap, hcapl, hsz, htake⟩
        · exact absurd h (by omega)
        · have hrow2 : RowB wr g2 5 cap (9 * i) (fun k => 48 + dd (V s) k) := by
            refine ⟨fun j => cur[j]?.getD undef, ⟨cur, hheap, by omega, fun j hj => ?_⟩, fun j hj => ?_⟩
            · show cur[j]? = some (cur[j]?.getD undef)
              rw [Array.getElem?_eq_getElem (by omega)]; rfl
            · have h3 : (cur.toList.take (9 * i * 1))[j]? = (digs (V s) (9 * i))[j]? := by rw [htake]
              rw [List.getElem?_take, if_pos (by omega), Array.getElem?_toList] at h3
              show cur[j]?.getD undef = _
              rw [h3]
              simp [digs, hj]
          have hgw : w.heap.size ≤ g2 := by omega
          have hub : ndec (V s) ≤ 1000000 := by
            have : ndec (V s) ≤ 3 * 128 := ndec_bytes HL.out
            omega
          rw [hgz]
          have HR2 := Lib.hid hrow2; clear hrow2
          have HTOP := Lib.hid htop; clear htop
          unfold maxLen at hcapl hKle
          clear hheap htake hsz hz hgz hv10 hrow
          go_wp2
          go_loop [4] (fun t => ∃ n, ndec (V s) ≤ n ∧ n ≤ 9 * i ∧ t = .slice (some ⟨g2, 0, none⟩) n cap) (fun t => lenOf t)
          case atStart => exact ⟨9 * i, hnd, Nat.le_refl _, rfl⟩
          case round =>
            obtain ⟨n, hn1, hn2, rfl⟩ := hrel
            obtain ⟨n, rfl⟩ : ∃ q, n = q + 1 := ⟨n - 1, by omega⟩
            have hcell := HR2.out.cell (j := n) (by omega) (by omega)
            have hdl := dd_lt (V s) n
            obtain ⟨b, hb⟩ : ∃ b, b = 48 + dd (V s) n := ⟨_, rfl⟩
            rw [← hb] at hcell
            have hb256 : b < 256 := by omega
            by_cases heq : dd (V s) n = 0
            · have hbb : ((b : Int) == 48) = true := by rw [hb, heq]; rfl
              have hn3 : ndec (V s) ≤ n := by
                rcases Nat.lt_or_ge n (ndec (V s)) with h | h
                · have := HTOP.out
                  rw [show ndec (V s) - 1 = n by omega] at this
                  exact absurd heq this
                · exact h
              clear hb heq
              go_wp2
              go_round
              case rel => exact ⟨n, hn3, by omega, rfl⟩
              case measure => simp [lenOf]
            · have hbb : ((b : Int) == 48) = false := by rw [beq_eq_false_iff_ne]; omega
              have hn3 : ndec (V s) = n + 1 := by
                rcases Nat.lt_or_ge n (ndec (V s)) with h | h
                · omega
                · exact absurd (dd_high (ndec_le.1 h)) heq
              have HN3 := Lib.hid hn3; clear hn3 hb heq
              go_wp2_with fail
              refine (reverse_any g2 (n + 1) cap 5 cap (fun k => 48 + dd (V s) k) _ (by omega) (by have := HN3.out; omega) (by omega) ?_ (fun j => by have := dd_lt (V s) j; omega)).mono ?_
              · obtain ⟨f, h1, h2⟩ := HR2.out
                exact ⟨f, h1, fun j hj => h2 j (by omega)⟩
              · rintro e w5 ⟨rfl, hr5, ho5⟩
                have hr5 : RowB w5 g2 5 cap (ndec (V s)) (fun j => 48 + dd (V s) (ndec (V s) - 1 - j)) := by rw [HN3.out]; exact hr5
                have hcv := run_bytes_str (bytes_decT hr5 (by have := HN3.out; omega) hv0) cap (n + 1) (by rw [decT_length hv0, HN3.out])
                have hb5 : Below w.heap.size w w5 := ho5.below hbel hbel.size hgw
                clear hr5 ho5
                go_wp2
                go_ret2
                exact ⟨rfl, hb5⟩
      · have hpos : 0 < gk := by omega
        have hndp := nd_pos hpos
        have hndm : nd gk ≤ m := nd_le.2 (by
          rw [HN.out]
          refine Nat.lt_of_le_of_lt (Nat.div_le_self _ _) ?_
          have := nd_lt (V s); rw [HM.out] at this; exact this)
        have hi128 := chunk_bound HL.out (by rw [← HN.out]; exact hpos)
        have HR := Lib.hid hrow; clear hrow
        have HO := Lib.hid hown; clear hown
        clear hz
        go_wp2_with fail
        refine (divideByDigit_any w.heap.size (nd gk) m 1000000000 m 104 gk _ (by omega) (by omega) (by omega) (by omega) (by omega) HR.out (nd_lt _)).mono ?_
        rintro e w2 ⟨rfl, hrow2, ho2⟩
        have hown2 : w2.ownsRow w1.heap.size 5 1 u4 (9 * i) (digs (V s) (9 * i)) := own_only HO.out ho2 hg1
        have hb2 : Below w.heap.size w w2 := ho2.below hbel hbel.size (Nat.le_refl _)
        have hBs2 : w1.heap.size ≤ w2.heap.size := Nat.le_trans hBs ho2.size
        obtain ⟨M, hM⟩ : ∃ M, M = gk % 1000000000 := ⟨_, rfl⟩
        rw [← hM]
        have HM2 := Lib.hid hM; clear hM
        have HR2 := Lib.hid hrow2; clear hrow2
        have HO2 := Lib.hid hown2; clear hown2
        have hMl : M < 4294967296 := by rw [HM2.out]; exact Nat.lt_of_lt_of_le (Nat.mod_lt _ (by omega)) (by omega)
        clear HO hbel hBs ho2
        go_wp2
        go_loopw [4, 6, 21] (fun text part j wr => TextI (V s) m w.heap.size w1.heap.size i M (nd gk) (gk / 1000000000) w text part j wr) (fun _ _ j _ => 9 - (intOf j).toNat)
        case atStart => exact ⟨0, by omega, rfl, by rw [Nat.pow_zero, Nat.div_one], HR2.out, HO2.out, hb2, hBs2⟩
        case round =>
          obtain ⟨k, hk, rfl, rfl, hrow, hown, hbel, hBs⟩ := hrel
          have hql : M / 10 ^ k < 4294967296 := Nat.lt_of_le_of_lt (Nat.div_le_self _ _) hMl
          obtain ⟨q, hq⟩ : ∃ q, q = M / 10 ^ k := ⟨_, rfl⟩
          rw [← hq] at hql ⊢
          have HQ := Lib.hid hq; clear hq
          have HR := Lib.hid hrow; clear hrow
          by_cases hlt : k < 9
          · obtain ⟨i0, hi, hz0, hz1, hz2⟩ := info_parts Try.info5
            go_wp2_with (at_builtin; refine wpList_append_own _ rfl _ _ 98 rfl w1.heap.size 5 i0 (.int .u8 0) 1 1 Try.underlying98 hi hz0 hz1 hz2 rfl (by decide) _ _ _ rfl (hown.alloc _) ⟨wr.heap.size, 0, none⟩ 1 1 [.int .u8 (48 + q % 10 : Nat)] rfl rfl ?c1 ?c2 ?c3 ?c4 ?c5 ?_)
            case c1 =>
              intro j u hj
              match j, hj with
              | 0, hj => simp at hj; subst hj; simp [Addr.add]
            case c2 => intro u hu; simp at hu; subst hu; rfl
            case c3 => unfold maxLen; omega
            case c4 => omega
            case c5 => simp; omega
            · intro v' w5 hown5 hgrow _
              have hdk : 48 + q % 10 = 48 + dd (V s) (9 * i + k) := by
                rw [HQ.out, HM2.out, HN.out, dd_chunk _ _ _ hlt]
              have hdk2 : (48 : Int) + (q : Int) % 10 = ((48 + dd (V s) (9 * i + k) : Nat) : Int) := by rw [← hdk]; simp
              rw [hdk2, ← digs_succ] at hown5
              clear hdk2
              have HO5 := Lib.hid hown5; clear hown5
              have hrow5 : Row w5 w.heap.size 104 m (nd gk) (gk / 1000000000) := by
                obtain ⟨f, h1, h2⟩ := HR.out
                exact (Row.grown ⟨f, h1.alloc _, h2⟩ hgrow (fun e => by have := own_block_ge hown _ e.symm; omega))
              have hb5 : Below w.heap.size w w5 := (hbel.alloc (by have := hBs; omega) _).grown hgrow (by simp; omega) (fun z hz => by have := own_block_ge hown _ hz; omega)
              have hs5 : w1.heap.size ≤ w5.heap.size := by have := hgrow.size; simp at this; omega
              have HR5 := Lib.hid hrow5; clear hrow5
              have hnext : q / 10 = M / 10 ^ (k + 1) := by rw [HQ.out, Nat.div_div_eq_div_mul, Nat.pow_succ]
              have HNX := Lib.hid hnext; clear hnext hgrow hown hdk
              go_wp2
              go_roundw
              case rel => exact ⟨k + 1, by omega, by go_num, int_eq (by rw [← HNX.out]; simp), HR5.out, HO5.out, hb5, hs5⟩
              case measure => simp [intOf]; omega
          · obtain rfl : k = 9 := by omega
            have HO9 := Lib.hid hown; clear hown
            have hgl : w.heap.size < wr.heap.size := HR.out.lt
            have hN2 : gk / 1000000000 < B32 ^ nd gk := Nat.lt_of_le_of_lt (Nat.div_le_self _ _) (nd_lt _)
            have hw := HR.out.words hndm
            have HN2 := Lib.hid hN2; clear hN2
            have HW := Lib.hid hw; clear hw
            go_wp2_with fail
            refine (trim_any w.heap.size 0 (nd gk) m (gk / 1000000000) _ hndm (by omega) HN2.out HW.out).mono ?_
            rintro e w' ⟨rfl, rfl⟩
            go_wp2
            go_roundg (gk / 1000000000)
            case measure => omega
            case rel =>
              have hle : nd (gk / 1000000000) ≤ nd gk := nd_le.2 HN2.out
              refine ⟨i + 1, by rw [HN.out, chunk_next], rfl, ?_, HO9.out, hbel, hBs⟩
              obtain ⟨f, h1, h2⟩ := HR.out
              exact ⟨f, h1, fun j hj => h2 j (by omega)⟩
end Go.Proofs.Ytamgklgjhjociaa
