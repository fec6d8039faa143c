/- Put together by program (merge.py): Facp. -/
import Derived.Test.YtcfmiflhhjoofaaM17
import Derived.Test.YtcfmiflhhjoofaaM18
import Derived.Test.YtcfmiflhhjoofaaM19
/- Package fact: Factors of any number. -/
namespace Go.Proofs.Ytcfmiflhhjoofaa
open Go.ChangeShapes Go.WideShapes Go.ChangeAt Go.RowKit
set_option linter.unusedVariables false
def pwl : List (Nat × Nat) → List Value
  | [] => []
  | x :: l => .int .i64 (x.1 : Int) :: .int .i64 (x.2 : Int) :: pwl l
theorem pwl_snoc : ∀ (l : List (Nat × Nat)) (x : Nat × Nat), pwl (l ++ [x]) = pwl l ++ [.int .i64 (x.1 : Int), .int .i64 (x.2 : Int)]
  | [], x => rfl
  | y :: l, x => by rw [List.cons_append, pwl, pwl_snoc l x, pwl]; rfl
theorem pwl_len : ∀ (l : List (Nat × Nat)), (pwl l).length = l.length * 2
  | [] => rfl
  | x :: l => by rw [pwl, List.length_cons, List.length_cons, pwl_len l, List.length_cons]; omega
theorem pwl_at : ∀ (l : List (Nat × Nat)) (i : Nat), i < l.length → (pwl l)[i * 2]? = some (.int .i64 ((l.getD i (0, 0)).1 : Int)) ∧ (pwl l)[i * 2 + 1]? = some (.int .i64 ((l.getD i (0, 0)).2 : Int))
  | x :: l, 0, _ => ⟨rfl, rfl⟩
  | x :: l, i + 1, h => by
    rw [List.length_cons] at h
    obtain ⟨h1, h2⟩ := pwl_at l i (by omega)
    rw [pwl, show (i + 1) * 2 = i * 2 + 1 + 1 by omega, show i * 2 + 1 + 1 + 1 = (i * 2 + 1) + 1 + 1 from rfl]
    rw [List.getElem?_cons_succ, List.getElem?_cons_succ, List.getElem?_cons_succ, List.getElem?_cons_succ]
    exact ⟨h1, h2⟩
def OwnsP (w : World) (B : Nat) (v : Value) (L : List (Nat × Nat)) : Prop := w.ownsRow B 70 2 v L.length (pwl L)
theorem OwnsP.nil (w : World) (B : Nat) : OwnsP w B (.slice none 0 0) [] := World.ownsRow_nil w B 70 2
theorem append_pws {ops : Array Oper} {rest : List Oper} {o : Oper} {a : Act} {Q : Exit → Act → World → Prop} {W : World} {B : Nat} {v : Value} {L : List (Nat × Nat)} {p q : Nat} (hgd : o.guard = none) (s x : Operand)
    (ho : o.op = .call { callee := .builtin .append, args := #[s, x], argTypes := #[66, 66] }) (hs : a.eval s = v) (hown : OwnsP W B v L) (hx : a.eval x = .slice (some ⟨W.heap.size, 0, none⟩) 1 1) (hB : B ≤ W.heap.size) (hn : L.length < 1000)
    (h : ∀ v' w', OwnsP w' B v' (L ++ [(p, q)]) → Below B W w' → wpList Try.prog ops Q rest (a.put o.dst v') w') : wpList Try.prog ops Q (o :: rest) a (W.alloc (.cells #[.int .i64 (p : Int), .int .i64 (q : Int)] 70)) := by
  refine append_pw hgd s x ho hs hown hx hB hn ?_
  intro v' w' h1 h2
  refine h v' w' ?_ h2
  unfold OwnsP
  rw [List.length_append, List.length_singleton, pwl_snoc]
  exact h1
/-- What a slice of powers reads as. -/
structure RowP (w : World) (a : Option Addr) (n : Nat) (L : List (Nat × Nat)) : Prop where
  len : L.length = n
  cell : ∀ i, i < n → ∃ b off, a = some ⟨b, off, none⟩ ∧ b < w.heap.size ∧ w.cell? ⟨b, off + i * 2, none⟩ = some (.int .i64 ((L.getD i (0, 0)).1 : Int)) ∧ w.cell? ⟨b, off + i * 2 + 1, none⟩ = some (.int .i64 ((L.getD i (0, 0)).2 : Int))
theorem RowP.below {w w' : World} {a : Option Addr} {n : Nat} {L : List (Nat × Nat)} (h : RowP w a n L) (hb : Below w.heap.size w w') : RowP w' a n L := by
  refine ⟨h.len, fun i hi => ?_⟩
  obtain ⟨b, off, e, hlt, h1, h2⟩ := h.cell i hi
  exact ⟨b, off, e, by have := hb.size; omega, (hb.cell (p := ⟨b, off + i * 2, none⟩) hlt).trans h1, (hb.cell (p := ⟨b, off + i * 2 + 1, none⟩) hlt).trans h2⟩
theorem OwnsP.row {w : World} {B : Nat} {v : Value} {L : List (Nat × Nat)} (h : OwnsP w B v L) : ∃ a c, v = .slice a L.length c ∧ RowP w a L.length L := by
  by_cases h0 : 0 < L.length
  · obtain ⟨g, cap, rfl, _, _⟩ := World.ownsRow.form h h0
    refine ⟨_, cap, rfl, rfl, fun i hi => ?_⟩
    have hlt := (World.ownsRow.lt h g rfl).2
    obtain ⟨e1, e2⟩ := pwl_at L i hi
    have c1 := World.ownsRow.cellAt h (i * 2) (by omega)
    have c2 := World.ownsRow.cellAt h (i * 2 + 1) (by omega)
    rw [e1] at c1
    rw [e2] at c2
    exact ⟨g, 0, rfl, hlt, by rw [Nat.zero_add]; exact c1, by rw [Nat.zero_add]; exact c2⟩
  · have : L = [] := List.length_eq_zero_iff.1 (by omega)
    subst this
    rcases h.2 with ⟨hv, _⟩ | ⟨g, cap, _, hv, _⟩
    · exact ⟨none, 0, hv, rfl, fun i hi => by cases hi⟩
    · exact ⟨_, cap, hv, rfl, fun i hi => by cases hi⟩
def GivesP (w : World) (L : List (Nat × Nat)) (e : Ending) (w' : World) : Prop := ∃ a c, e = .returned (.tuple #[.slice a L.length c, .int .i64 0]) ∧ RowP w' a L.length L ∧ Below w.heap.size w w'
theorem pw_len : ∀ (L : List (Nat × Nat)), (∀ x ∈ L, 2 ≤ x.1 ∧ 1 ≤ x.2) → 2 ^ L.length ≤ pw L
  | [], _ => by simp [pw]
  | x :: L, h => by
    have h1 := pw_len L (fun y hy => h y (by simp [hy]))
    obtain ⟨h2, h3⟩ := h x (by simp)
    rw [List.length_cons, Nat.pow_succ, pw, Nat.mul_comm]
    refine Nat.mul_le_mul ?_ h1
    calc 2 ≤ x.1 := h2
      _ = x.1 ^ 1 := (Nat.pow_one _).symm
      _ ≤ x.1 ^ x.2 := Nat.pow_le_pow_right (by omega) h3
theorem fl_all {N k : Nat} (hN : 1 ≤ N) : ∀ x ∈ fl N k, 2 ≤ x.1 ∧ 1 ≤ x.2 := by
  intro x hx
  unfold fl at hx
  obtain ⟨p, hp, rfl⟩ := List.mem_map.1 hx
  rw [List.mem_filter, Bool.and_eq_true, isPb_iff, decide_eq_true_iff] at hp
  exact ⟨hp.2.1.1, (mu_pos hp.2.1.1 hN).2 hp.2.2⟩
theorem Rst.len {N p n : Nat} (h : Rst N p n) (hN : N ≤ 16777216) : (fl N p).length < 25 := by
  have h1 := pw_len (fl N p) (fl_all (by have := h.top; have := h.two; omega))
  have h2 := h.prod
  have h3 : pw (fl N p) ≤ N := by
    have := Nat.le_mul_of_pos_right (pw (fl N p)) h.one
    omega
  by_cases hlt : (fl N p).length < 25
  · exact hlt
  · have := Nat.pow_le_pow_right (n := 2) (by omega) (show 25 ≤ (fl N p).length by omega)
    omega
theorem fact_withinb (n : Int) (w : World) : Calls Try.prog 62 #[.int .i64 n] w fun e w' => e = .returned (.bool (decide (1 ≤ n ∧ n ≤ 16777216))) ∧ w = w' := by
  by_cases h1 : 1 ≤ n
  · have g1 : decide (1 ≤ n) = true := decide_eq_true h1
    by_cases h2 : n ≤ 16777216
    · have g2 : decide (n ≤ 16777216) = true := decide_eq_true h2
      rw [decide_eq_true ⟨h1, h2⟩]
      go_enter Try.func62, Try.ntmps62
      go_wp2_with fail
      go_ret
      exact ⟨rfl, rfl⟩
    · have g2 : decide (n ≤ 16777216) = false := decide_eq_false h2
      rw [decide_eq_false (fun h => h2 h.2)]
      go_enter Try.func62, Try.ntmps62
      go_wp2_with fail
      go_ret
      exact ⟨rfl, rfl⟩
  · have g1 : decide (1 ≤ n) = false := decide_eq_false h1
    rw [decide_eq_false (fun h => h1 h.1)]
    go_enter Try.func62, Try.ntmps62
    go_wp2_with fail
    go_ret
    exact ⟨rfl, rfl⟩
theorem fact_factorsno (n : Int) (W : World) (h : ¬ (1 ≤ n ∧ n ≤ 16777216)) :
    Calls Try.prog 51 #[.int .i64 n] W fun e w' => e = .returned (.tuple #[.slice none 0 0, .int .i64 3]) ∧ W = w' := by
  have H := fun w => fact_withinb n w
  rw [decide_eq_false h] at H
  have H := Lib.hid H
  go_enter Try.func51, Try.ntmps51
  go_wp2_with fail
  go_step3
  go_wp2_with fail
  refine (H.out _).mono ?_
  rintro e w1 ⟨rfl, rfl⟩
  go_wp2_with fail
  rw [Exit.noGoto_ret]
  go_ret2
  exact ⟨rfl, rfl⟩
set_option maxRecDepth 100000 in
set_option maxHeartbeats 4000000 in
theorem fact_factors (N : Nat) (W : World) (h1 : 1 ≤ N) (h2 : N ≤ 16777216) :
    Calls Try.prog 51 #[.int .i64 (N : Int)] W (GivesP W (fa N)) := by
  have H := fun w => fact_withinb (N : Int) w
  rw [decide_eq_true (by omega)] at H
  have H := Lib.hid H
  have S0 := Lib.hid (Rst.start h1)
  have L0 := Lib.hid (fl_two N)
  go_enter Try.func51, Try.ntmps51
  go_wp2_with fail
  go_step3
  go_wp2_with fail
  refine (H.out _).mono ?_
  rintro e w1 ⟨rfl, rfl⟩
  go_wp2_with fail
  go_step3
  go_wp2_with fail
  obtain ⟨wo, rfl⟩ : ∃ wo : World, wo = W := ⟨_, rfl⟩
  go_loopw [0, 4, 5] (fun x v y wr => ∃ (n p p' : Nat) (s : Value), s = v ∧ x = .int .i64 n ∧ y = .int .i64 p ∧ 2 ≤ p ∧ (p' = p ∨ p' = p + 1) ∧ Hid (Rst N p' n) ∧ 1 ≤ n ∧ n ≤ N ∧ Hid (OwnsP wr wo.heap.size v (fl N p')) ∧ Below wo.heap.size wo wr) (fun x _ _ _ => (intOf x).toNat)
  case atStart => exact ⟨N, 2, 2, _, rfl, rfl, rfl, by omega, .inl rfl, S0, h1, Nat.le_refl _, Lib.hid (by rw [L0.out]; exact OwnsP.nil _ _), Below.refl _ _⟩
  case round =>
    clear S0 L0
    obtain ⟨n, p, p', s, rfl, rfl, rfl, hp2, hp', HR, hn1, hnN, HO, hB⟩ := hrel
    by_cases hlt : 1 < n
    · have dd : decide ((1 : Int) < (n : Int)) = true := decide_eq_true (by omega)
      have dd' : decide (1 < n) = true := decide_eq_true hlt
      go_wp2_with fail
      go_loopw [4, 5] (fun v y wr => ∃ q q' : Nat, s = v ∧ y = .int .i64 q ∧ 2 ≤ q ∧ q ≤ n ∧ (q' = q ∨ q' = q + 1) ∧ Hid (Rst N q' n) ∧ Hid (fl N q' = fl N p') ∧ Hid (OwnsP wr wo.heap.size s (fl N p')) ∧ Below wo.heap.size wo wr) (fun _ y _ => n - (intOf y).toNat)
      case atStart =>
        have h0 := HR.out.rough n (by omega) (Nat.dvd_refl n)
        exact ⟨p, p', rfl, rfl, hp2, by omega, hp', HR, Lib.hid rfl, HO, hB⟩
      case round =>
        clear HR HO hB hp2 hp'
        obtain ⟨q, q', rfl, rfl, hq2, hqn, hq', HR, HE, HO, hB⟩ := hrel
        have hz1 : ((q : Int) == 0) = false := by simp; omega
        have hz2 : ¬ ((q : Int) = 0) := by omega
        have hz3 : ¬ (q = 0) := by omega
        have hmod : ((n : Int)).tmod (q : Int) = ((n % q : Nat) : Int) := by
          rw [Int.tmod_eq_emod_of_nonneg (by omega)]; omega
        have hmod' : ((n : Int)) % (q : Int) = ((n % q : Nat) : Int) := by omega
        obtain ⟨r, hr⟩ : ∃ r, n % q = r := ⟨_, rfl⟩
        rw [hr] at hmod hmod'
        by_cases hr0 : r = 0
        · subst hr0
          have hd : q ∣ n := Nat.dvd_of_mod_eq_zero hr
          have hqq : q' = q := by
            rcases hq' with h | h
            · exact h
            · have := HR.out.rough q hq2 hd; omega
          subst hqq
          have HD := Lib.hid (fun e m a b => HR.out.div (e := e) (m := m) hd a b)
          have HLN := HR.out.len h2
          rw [HE.out] at HLN
          have HDV := Lib.hid hd
          clear HR hq' hr hd
          go_wp2_with fail
          go_loopw [0, 6] (fun x y wr => ∃ m j : Nat, x = .int .i64 m ∧ y = .int .i64 j ∧ 1 ≤ m ∧ m ≤ n ∧ j + m ≤ n ∧ Hid (n = q' ^ j * m) ∧ Hid (OwnsP wr wo.heap.size s (fl N p')) ∧ Below wo.heap.size wo wr) (fun x _ _ => (intOf x).toNat)
          case atStart => exact ⟨n, 0, rfl, rfl, hn1, Nat.le_refl _, by omega, Lib.hid (by rw [Nat.pow_zero, Nat.one_mul]), HO, hB⟩
          case round =>
            clear HO hB hmod hmod'
            obtain ⟨m, j, rfl, rfl, hm1, hmn, hjm, HM, HO, hB⟩ := hrel
            have hmod : ((m : Int)).tmod (q' : Int) = ((m % q' : Nat) : Int) := by
              rw [Int.tmod_eq_emod_of_nonneg (by omega)]; omega
            have hmod' : ((m : Int)) % (q' : Int) = ((m % q' : Nat) : Int) := by omega
            obtain ⟨r, hr⟩ : ∃ r, m % q' = r := ⟨_, rfl⟩
            rw [hr] at hmod hmod'
            by_cases hr0 : r = 0
            · subst hr0
              obtain ⟨c, hc⟩ : ∃ c, m / q' = c := ⟨_, rfl⟩
              have hmc : m = q' * c := by rw [← hc]; exact (Nat.mul_div_cancel' (Nat.dvd_of_mod_eq_zero hr)).symm
              have d1 : ((m : Int)).tdiv (q' : Int) = ((c : Nat) : Int) := by rw [← hc]; rfl
              have d1' : ((m : Int)) / (q' : Int) = ((c : Nat) : Int) := d1
              have hc1 : 1 ≤ c := by
                rcases Nat.eq_zero_or_pos c with e | e
                · rw [e] at hmc; omega
                · exact e
              have hcm : 2 * c ≤ m := by rw [hmc]; exact Nat.mul_le_mul_right c hq2
              have wd1 : IntKind.i64.wrap ((c : Nat) : Int) = ((c : Nat) : Int) := IntWalk.i64_in _ (by omega)
              have HM2 := Lib.hid (show n = q' ^ (j + 1) * c by rw [HM.out, hmc, Nat.pow_succ, Nat.mul_assoc])
              clear hr hc hmc
              go_wp2_with fail
              go_roundw
              case rel => exact ⟨c, j + 1, by go_num, by go_num, hc1, by omega, by omega, HM2, HO, hB⟩
              case measure => (first | (simp [intOf]; done) | (simp [intOf]; omega) | (simp only [intOf]; omega))
            · have hz4 : ((r : Int) == 0) = false := by simp; omega
              obtain ⟨g1, g2⟩ := HD.out j m HM.out (fun hd => hr0 (by rw [← hr]; exact Nat.mod_eq_zero_of_dvd hd))
              rw [HE.out] at g2
              have hmlt : m < n := by
                have : m ≠ n := fun e => hr0 (by rw [← hr, e]; exact Nat.mod_eq_zero_of_dvd HDV.out)
                omega
              have G1 := Lib.hid g1
              have G2 := Lib.hid g2
              clear g1 g2 HD hr
              go_wp2_with (at_builtin; refine append_pws (p := q') (q := j) (L := fl N p') rfl _ _ rfl rfl HO.out rfl hB.size (Nat.lt_of_lt_of_le HLN (by decide)) ?_; intro v' w' hO hb')
              have HO2 := Lib.hid (by have := hO; rw [← G2.out] at this; exact this)
              clear hO
              go_wp2_with fail
              go_roundw
              case rel => exact ⟨m, q', q' + 1, _, rfl, by go_num, rfl, hq2, .inr rfl, G1, hm1, Nat.le_trans hmn hnN, HO2, hB.trans hb'⟩
              case measure => (first | (simp [intOf]; done) | (simp [intOf]; omega) | (simp only [intOf]; omega))
        · have hnd : ¬ q ∣ n := fun hd => hr0 (by rw [← hr]; exact Nat.mod_eq_zero_of_dvd hd)
          have hz4 : ((r : Int) == 0) = false := by simp; omega
          have hz5 : ((r : Int) != 0) = true := by simp; omega
          have HS : Hid (Rst N (q + 1) n ∧ fl N (q + 1) = fl N p') := by
            rcases hq' with rfl | rfl
            · obtain ⟨s1, s2⟩ := HR.out.skip hnd hlt
              exact Lib.hid ⟨s1, s2.trans HE.out⟩
            · exact Lib.hid ⟨HR.out, HE.out⟩
          have hqn1 : q + 1 ≤ n := by
            have : q ≠ n := fun e => hnd (by rw [e]; exact Nat.dvd_refl _)
            omega
          obtain ⟨Z, hZ⟩ : ∃ Z, (q + 1) * (q + 1) = Z := ⟨_, rfl⟩
          have hZb : Z ≤ 16777217 * 16777217 := by rw [← hZ]; exact Nat.mul_le_mul (by omega) (by omega)
          have hw : IntKind.i64.wrap (((q : Int) + 1) * ((q : Int) + 1)) = (Z : Int) := by
            rw [show ((q : Int) + 1) * ((q : Int) + 1) = (((q + 1) * (q + 1) : Nat) : Int) by push_cast; rfl, hZ]
            exact IntWalk.i64_in _ (by omega)
          by_cases hgt : n < Z
          · have HL := Lib.hid (HS.out.1.last hlt (by rw [hZ]; exact hgt))
            have HF : Hid (fl N p' ++ [(n, 1)] = fa N) := Lib.hid (by unfold fa; rw [HL.out.2.1, HS.out.2])
            have HLN := HR.out.len h2
            rw [HE.out] at HLN
            have d3 : decide ((n : Int) < (Z : Int)) = true := decide_eq_true (by omega)
            have d3' : decide (n < Z) = true := decide_eq_true hgt
            clear hZ hr HL HS HR HE
            go_wp2_with (at_builtin; refine append_pws (p := n) (q := 1) (L := fl N p') rfl _ _ rfl rfl HO.out rfl hB.size (Nat.lt_of_lt_of_le HLN (by decide)) ?_; intro v' w' hO hb')
            have HO2 := Lib.hid (by have := hO; rw [HF.out] at this; exact this)
            clear hO
            go_wp2_with fail
            obtain ⟨a', c', rfl, hrow⟩ := HO2.out.row
            try rw [Exit.noGoto_ret]
            go_ret2
            exact ⟨_, _, rfl, hrow, hB.trans hb'⟩
          · have d3 : decide ((n : Int) < (Z : Int)) = false := decide_eq_false (by omega)
            have d3' : decide (n < Z) = false := decide_eq_false hgt
            have HS1 := Lib.hid HS.out.1
            have HS2 := Lib.hid HS.out.2
            clear hZ hr HS HR HE
            go_wp2_with fail
            go_roundw
            case rel => exact ⟨q + 1, q + 1, rfl, by go_num, by omega, hqn1, .inl rfl, HS1, HS2, HO, hB⟩
            case measure => (first | (simp [intOf]; done) | (simp [intOf]; omega) | (simp only [intOf]; omega))
    · obtain rfl : n = 1 := by omega
      have HF : Hid (fl N p' = fa N) := Lib.hid (by unfold fa; rw [HR.out.done])
      have HO2 := Lib.hid (by have := HO.out; rw [HF.out] at this; exact this)
      obtain ⟨a', c', rfl, hrow⟩ := HO2.out.row
      have hrow := Lib.hid hrow
      go_wp2_with fail
      rw [Exit.noGoto_ret]
      go_ret2
      exact ⟨_, _, rfl, hrow.out, hB⟩
end Go.Proofs.Ytcfmiflhhjoofaa
