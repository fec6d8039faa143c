/- Package perm: Digits, of any radices: the order, or why there is none. -/
import Derived.Test.YtkfjmmhcbbfhdaaPerm12
namespace Go.Proofs.Ytkfjmmhcbbfhdaa
open Go.ChangeShapes Go.WideShapes Go.ChangeAt Go.RowKit
set_option linter.unusedVariables false
def pv (xs : List Int) (k : Nat) : Nat := (pz xs k).getD 16777217
theorem pv_bd {xs : List Int} {k : Nat} (hk : k ≤ xs.length) : 1 ≤ pv xs k ∧ pv xs k ≤ 16777217 := by
  unfold pv
  cases h : pz xs k with
  | none => exact ⟨by decide, by decide⟩
  | some N => obtain ⟨_, _, h1, h2⟩ := pz_prd hk h; exact ⟨h1, by show N ≤ _; omega⟩
theorem pv_out {xs : List Int} {k m : Nat} (hk : k < m) (hl : m ≤ xs.length) (h : xs.getD k 0 < 2 ∨ 16777216 < xs.getD k 0) : pz xs m = none := by
  refine pz_after (k := k + 1) ?_ (by omega)
  cases hp : pz xs k with
  | none => exact pz_after hp (by omega)
  | some N =>
    obtain ⟨_, _, h1, h2⟩ := pz_prd (by omega) hp
    refine pz_no hp ?_
    rintro ⟨a, b⟩
    have : xs.getD k 0 * 1 ≤ xs.getD k 0 * (N : Int) := Int.mul_le_mul_of_nonneg_left (by omega) (by omega)
    omega
theorem pv_step {xs : List Int} {k : Nat} (hk : k < xs.length) (h1 : 2 ≤ xs.getD k 0) (h2 : xs.getD k 0 ≤ 16777216) :
    min ((pv xs k : Int) * xs.getD k 0) 16777217 = (pv xs (k + 1) : Nat) ∧ 0 ≤ (pv xs k : Int) * xs.getD k 0 ∧ (pv xs k : Int) * xs.getD k 0 ≤ 281474993487872 := by
  obtain ⟨v, hv⟩ : ∃ v : Nat, xs.getD k 0 = v := ⟨(xs.getD k 0).toNat, by omega⟩
  obtain ⟨b1, b2⟩ := pv_bd (xs := xs) (k := k) (by omega)
  have hle : pv xs k * v ≤ 16777217 * 16777216 := Nat.mul_le_mul b2 (by omega)
  refine ⟨?_, by rw [hv, mul_cast]; omega, by rw [hv, mul_cast]; omega⟩
  cases hp : pz xs k with
  | none =>
    have e1 : pv xs k = 16777217 := by unfold pv; rw [hp]; rfl
    have e2 : pv xs (k + 1) = 16777217 := by unfold pv; rw [pz_after hp (by omega)]; rfl
    rw [e1, e2, hv]; omega
  | some N =>
    have e1 : pv xs k = N := by unfold pv; rw [hp]; rfl
    rw [e1]
    by_cases c : xs.getD k 0 * (N : Int) ≤ 16777216
    · have e2 : pv xs (k + 1) = N * v := by unfold pv; rw [pz_yes hp h1 c, hv, Int.toNat_natCast]; rfl
      rw [hv, mul_cast, Nat.mul_comm] at c
      rw [e2, hv, mul_cast]; omega
    · have e2 : pv xs (k + 1) = 16777217 := by unfold pv; rw [pz_no hp (fun h => c h.2)]; rfl
      rw [hv, mul_cast, Nat.mul_comm] at c
      rw [e2, hv, mul_cast]; omega
theorem pv_fin {xs : List Int} {m : Nat} (hm : m ≤ xs.length) : (16777216 < pv xs m → pz xs m = none) ∧ (pv xs m ≤ 16777216 → pz xs m = some (pv xs m)) := by
  unfold pv
  cases hp : pz xs m with
  | none => exact ⟨fun _ => rfl, fun h => absurd h (by decide)⟩
  | some N => obtain ⟨_, _, h1, h2⟩ := pz_prd hm hp; exact ⟨fun h => absurd h (by show ¬ 16777216 < N; omega), fun _ => rfl⟩
/-- The order of the digits, or why there is none. -/
def DigOk (W : World) (xs : List Int) (m : Nat) (e : Ending) (w' : World) : Prop :=
  (pz xs m = none ∧ e = .returned (.tuple #[.slice none 0 0, .int .i64 3]) ∧ W = w') ∨ ∃ N, pz xs m = some N ∧ GivesIOk W N (dgl (nats xs)) e w'
theorem dig_facts {xs : List Int} {m N : Nat} (hm : m = xs.length) (h : pz xs m = some N) :
    prd (nats xs) = N ∧ 1 ≤ N ∧ N ≤ 16777216 ∧ (dgl (nats xs)).length = N ∧ (∀ z ∈ dgl (nats xs), (Lit.int .i64 z).wf = true) ∧ (dgl (nats xs)).getD 0 0 = 0 ∧
    ∀ k L, k < m → prd ((nats xs).take k) = L → ∃ r s : Nat, xs.getD k 0 = r ∧ 2 ≤ r ∧ r ≤ N ∧ N / r / L = s ∧ 0 < L ∧ L ≤ N ∧ prd ((nats xs).take (k + 1)) = r * L ∧ r * L ≤ N ∧ ∀ d i, d < r → i < L → (dgl (nats xs)).getD (d * L + i) 0 = (dgl (nats xs)).getD i 0 + ((d * s : Nat) : Int) ∧ 0 ≤ (dgl (nats xs)).getD i 0 ∧ (dgl (nats xs)).getD i 0 + ((d * s : Nat) : Int) < (N : Int) ∧ d * L + i < r * L := by
  obtain ⟨h1, h2, h3, h4⟩ := pz_prd (by omega) h
  have hnl : (nats xs).length = m := by unfold nats; rw [List.length_map]; omega
  rw [List.take_of_length_le (by omega)] at h1
  have hall : ∀ i, i < (nats xs).length → 2 ≤ (nats xs).getD i 0 := fun i hi => by rw [nats_at]; have := h2 i (by omega); omega
  have hpos : ∀ x ∈ nats xs, 0 < x := by
    intro x hx
    obtain ⟨i, hi, rfl⟩ := List.getElem_of_mem hx
    have := hall i hi
    simp [List.getD, hi] at this
    omega
  refine ⟨h1, h3, h4, by rw [dgl_len, h1], dgl_wf _ hpos (by omega), by rw [dgl_at _ _ (by omega), dg_zero]; rfl, ?_⟩
  intro k L hk hL
  obtain ⟨s, e1, e2, e3, e4, e5⟩ := dig_step hall (by omega : k < (nats xs).length) hL rfl
  have hx := h2 k hk
  rw [nats_at] at e1 e3 e4 e5
  rw [h1] at e1 e4
  obtain ⟨v, hv⟩ : ∃ v : Nat, xs.getD k 0 = v := ⟨(xs.getD k 0).toNat, by omega⟩
  rw [hv, Int.toNat_natCast] at e1 e3 e4 e5
  have l1 : L ≤ v * L := Nat.le_mul_of_pos_left _ (by omega)
  have l2 : v ≤ v * L := Nat.le_mul_of_pos_right _ e2
  refine ⟨v, s, hv, by omega, by omega, e1, e2, by omega, e3, e4, fun d i hd hi => ?_⟩
  have := e5 d i hd hi
  rw [h1] at this
  exact this
set_option maxRecDepth 100000 in
theorem perm_digits (p : Option Addr) (m c : Nat) (xs : List Int) (W : World) (hr : RowI W p m xs) :
    Calls Try.prog 59 #[.slice p m c] W (DigOk W xs m) := by
  have hs := hr.small
  have hml := hr.len
  have HX := Lib.hid hr
  have PB := Lib.hid (fun k (hk : k ≤ m) => pv_bd (xs := xs) (k := k) (by omega))
  have PO := Lib.hid (fun k (hk : k < m) h => pv_out (xs := xs) (k := k) (m := m) hk (by omega) h)
  have PS := Lib.hid (fun k (hk : k < m) h1 h2 => pv_step (xs := xs) (k := k) (by omega) h1 h2)
  have PF := Lib.hid (pv_fin (xs := xs) (m := m) (by omega))
  have DF := Lib.hid (fun N h => dig_facts (xs := xs) (m := m) (N := N) (by omega) h)
  have QN := Lib.hid (fun (h : pz xs m = none) => (show DigOk W xs m (.returned (.tuple #[.slice none 0 0, .int .i64 3])) W from .inl ⟨h, rfl, rfl⟩))
  have QY := Lib.hid (fun N e w' (h : pz xs m = some N) (g : GivesIOk W N (dgl (nats xs)) e w') => (show DigOk W xs m e w' from .inr ⟨N, h, g⟩))
  have P0 := Lib.hid (show pv xs 0 = 1 from rfl)
  have L0 := Lib.hid (show prd ((nats xs).take 0) = 1 by simp [prd])
  have PL := Lib.hid (show xs.length = m from hml)
  clear hr hml
  generalize DigOk W xs m = Q at *
  go_enter Try.func59, Try.ntmps59
  go_wp2_with fail
  go_loopw [4, 17] (fun v i wr => ∃ k : Nat, k ≤ m ∧ v = .int .i64 (pv xs k : Nat) ∧ i = .int .i64 k ∧ wr = W) (fun _ i _ => m - (intOf i).toNat)
  case atStart => exact ⟨0, Nat.zero_le _, by rw [P0.out]; rfl, rfl, rfl⟩
  case round =>
    obtain ⟨k, hk, rfl, rfl, rfl⟩ := hrel
    by_cases hlt : k < m
    · obtain ⟨b, off, rfl, hb, hc, x0, x1⟩ := HX.out.cell hlt
      have PO1 := Lib.hid (PO.out k hlt)
      have PS1 := Lib.hid (PS.out k hlt)
      have dd : decide ((k : Int) < (m : Int)) = true := decide_eq_true (by omega)
      generalize pv xs k = v at *
      obtain ⟨u, hu⟩ : ∃ u, pv xs (k + 1) = u := ⟨_, rfl⟩
      rw [hu] at PS1
      have HU := Lib.hid hu
      clear hu
      generalize xs.getD k 0 = x at *
      by_cases c1 : x < 2
      · have d1 : decide (x < 2) = true := decide_eq_true c1
        have E := Lib.hid (QN.out (PO1.out (.inl c1)))
        clear PS1
        go_wp2_with fail
        exact E.out
      have d1 : decide (x < 2) = false := decide_eq_false c1
      by_cases c2 : 16777216 < x
      · have d2 : decide (16777216 < x) = true := decide_eq_true c2
        have E := Lib.hid (QN.out (PO1.out (.inr c2)))
        clear PS1
        go_wp2_with fail
        exact E.out
      have d2 : decide (16777216 < x) = false := decide_eq_false c2
      obtain ⟨e1, e2, e3⟩ := PS1.out (by omega) (by omega)
      obtain ⟨z, hz⟩ : ∃ z, (v : Int) * x = z := ⟨_, rfl⟩
      rw [hz] at e1 e2 e3
      have hw : IntKind.i64.wrap ((v : Int) * x) = z := by rw [hz]; exact IntWalk.i64_in _ (by omega)
      clear hz PS1 PO1
      go_wp2_with fail
      go_roundw
      case rel => exact ⟨k + 1, by omega, by rw [HU.out, ← e1]; congr 1; rw [Int.min_def]; split <;> split <;> omega, by go_num, by first | trivial | rfl⟩
      case measure => (first | (simp [intOf]; done) | (simp [intOf]; omega) | (simp only [intOf]; omega))
    · obtain rfl : k = m := by omega
      have dd : decide ((k : Int) < (k : Int)) = false := decide_eq_false (by omega)
      obtain ⟨wo, rfl⟩ : ∃ wo : World, wo = wr := ⟨_, rfl⟩
      have PB1 := PB.out k (Nat.le_refl _)
      obtain ⟨N, hN⟩ : ∃ N, pv xs k = N := ⟨_, rfl⟩
      rw [hN] at PF PB1 ⊢
      have PF1 := Lib.hid PF.out
      by_cases c1 : 16777216 < N
      · have d1 : decide (16777216 < (N : Int)) = true := decide_eq_true (by omega)
        have d1' : decide (16777216 < N) = true := decide_eq_true (by omega)
        have E := Lib.hid (QN.out (PF1.out.1 c1))
        go_wp2_with fail
        exact E.out
      have d1 : decide (16777216 < (N : Int)) = false := decide_eq_false (by omega)
      have d1' : decide (16777216 < N) = false := decide_eq_false (by omega)
      have HP := Lib.hid (PF1.out.2 (by omega))
      obtain ⟨f1, f2, f3, f4, f5, f6, f7⟩ := DF.out N HP.out
      have SL := Lib.hid f4
      have SW := Lib.hid f5
      have ST := Lib.hid f7
      have F0 := Lib.hid (FillingI.one wo 3 (dgl (nats xs)) N (by omega) f4 f6)
      have QY1 := Lib.hid (fun e w' g => QY.out N e w' HP.out g)
      have HN := Lib.hid (show prd ((nats xs).take k) = N by rw [List.take_of_length_le (by unfold nats; rw [List.length_map]; rw [PL.out]; exact Nat.le_refl _)]; exact f1)
      clear f1 f4 f5 f6 f7 QY QN PF DF PF1 PB PO PS HP hN
      generalize dgl (nats xs) = ys at *
      generalize nats xs = rs at *
      have hmk := make_one N f2 (by omega)
      have hB0 := (Below.refl wo.heap.size wo).alloc (Nat.le_refl _) (.cells (Array.replicate N (.int .i64 0)) 3)
      have HX1 := Lib.hid (HX.out.alloc (.cells (Array.replicate N (.int .i64 0)) 3))
      go_wp2_with fail
      obtain ⟨B, hBz⟩ : ∃ B, wo.heap.size = B := ⟨_, rfl⟩
      have hBlt : B < (wo.alloc (.cells (Array.replicate N (.int .i64 0)) 3)).heap.size := by simp [hBz]
      rw [hBz] at F0
      rw [hBz]
      generalize wo.alloc (.cells (Array.replicate N (.int .i64 0)) 3) = w1 at *
      go_loopw [7, 38] (fun v x wr => ∃ j L : Nat, j ≤ k ∧ x = .int .i64 j ∧ Hid (prd (rs.take j) = L) ∧ v = .slice (some ⟨B, 0, none⟩) L N ∧ Hid (FillingI wr B 3 ys L N) ∧ Below wo.heap.size wo wr) (fun _ x _ => k - (intOf x).toNat)
      case atStart => exact ⟨0, 1, Nat.zero_le _, rfl, L0, rfl, F0, hB0⟩
      case round =>
        clear F0 hB0 L0
        obtain ⟨j, L, hj, rfl, HL, rfl, HF, hB⟩ := hrel
        by_cases hlt2 : j < k
        · obtain ⟨r, s, g1, g2, g3, g4, g5, g6, g7, g8, HS⟩ := ST.out j L hlt2 HL.out
          have HS := Lib.hid HS
          have HL2 := Lib.hid g7
          clear g7
          obtain ⟨b, off, rfl, hb, hc0, x0, x1⟩ := HX.out.cell hlt2
          rw [g1] at hc0 x0 x1
          have hc : wr.cell? ⟨b, off + j, none⟩ = some (.int .i64 (r : Int)) := (hB.cell (p := ⟨b, off + j, none⟩) hb).trans hc0
          clear hc0 g1
          have dd2 : decide ((j : Int) < (k : Int)) = true := decide_eq_true (by omega)
          obtain ⟨hf, hh⟩ : ∃ hf, N / r = hf := ⟨_, rfl⟩
          rw [hh] at g4
          have hhN : hf ≤ N := by rw [← hh]; exact Nat.div_le_self _ _
          have hsN : s ≤ hf := by rw [← g4]; exact Nat.div_le_self _ _
          have d1 : ((N : Int)).tdiv (r : Int) = ((hf : Nat) : Int) := by rw [← hh]; rfl
          have d1' : ((N : Int)) / (r : Int) = ((hf : Nat) : Int) := d1
          have d2 : ((hf : Int)).tdiv (L : Int) = ((s : Nat) : Int) := by rw [← g4]; rfl
          have d2' : ((hf : Int)) / (L : Int) = ((s : Nat) : Int) := d2
          have wd1 : IntKind.i64.wrap ((hf : Nat) : Int) = ((hf : Nat) : Int) := IntWalk.i64_in _ (by omega)
          have wd2 : IntKind.i64.wrap ((s : Nat) : Int) = ((s : Nat) : Int) := IntWalk.i64_in _ (by omega)
          have hz : ((L : Int) == 0) = false := by simp; omega
          have hz2 : ¬ ((L : Int) = 0) := by omega
          have hz3 : ¬ (L = 0) := by omega
          have hy : ((r : Int) == 0) = false := by simp; omega
          have hy2 : ¬ ((r : Int) = 0) := by omega
          have hy3 : ¬ (r = 0) := by omega
          clear g4 hh
          have hsz0 := HF.out.lt
          go_wp2_with fail
          go_loopw [7, 11] (fun v x wr => ∃ d D : Nat, 1 ≤ d ∧ d ≤ r ∧ x = .int .i64 d ∧ Hid (d * L = D) ∧ D ≤ N ∧ L ≤ D ∧ v = .slice (some ⟨B, 0, none⟩) D N ∧ Hid (FillingI wr B 3 ys D N) ∧ Below wo.heap.size wo wr) (fun _ x _ => r - (intOf x).toNat)
          case atStart => exact ⟨1, L, Nat.le_refl _, by omega, rfl, Lib.hid (by omega), g6, Nat.le_refl _, rfl, HF, hB⟩
          case round =>
            clear HF hB
            obtain ⟨d, D, hd1, hd, rfl, HD, hD, hLD, rfl, HF, hB⟩ := hrel
            have hsz1 := HF.out.lt
            by_cases hlt3 : d < r
            · have dd3 : decide ((d : Int) < (r : Int)) = true := decide_eq_true (by omega)
              have HS1 := Lib.hid (fun i hi => HS.out d i hlt3 hi)
              rw [HD.out] at HS1
              obtain ⟨E, hE⟩ : ∃ E, d * s = E := ⟨_, rfl⟩
              rw [hE] at HS1
              have we : IntKind.i64.wrap ((d : Int) * (s : Int)) = ((E : Nat) : Int) := by
                rw [mul_cast, hE]
                have h0 := HS1.out 0 (by omega)
                exact IntWalk.i64_in _ (by omega)
              have HD1 := Lib.hid (show (d + 1) * L = D + L by rw [Nat.succ_mul, HD.out])
              have hle1 : D + L ≤ N := by
                have h0 := HS1.out (L - 1) (by omega)
                omega
              clear hE
              go_wp2_with fail
              go_loopw [7, 59] (fun v x wr => ∃ i : Nat, i ≤ L ∧ x = .int .i64 i ∧ v = .slice (some ⟨B, 0, none⟩) (D + i) N ∧ Hid (FillingI wr B 3 ys (D + i) N) ∧ Below wo.heap.size wo wr) (fun _ x _ => L - (intOf x).toNat)
              case atStart => exact ⟨0, Nat.zero_le _, rfl, rfl, HF, hB⟩
              case round =>
                clear HF hB
                obtain ⟨i, hi, rfl, rfl, HF, hB⟩ := hrel
                have hsz := HF.out.lt
                by_cases hlt4 : i < L
                · obtain ⟨e1, e2, e3, _⟩ := HS1.out i hlt4
                  have hc := HF.out.read (i := i) (by omega) (by omega) SL.out
                  have dd4 : decide ((i : Int) < (L : Int)) = true := decide_eq_true (by omega)
                  obtain ⟨z, hzz⟩ : ∃ z, ys.getD i 0 = z := ⟨_, rfl⟩
                  rw [hzz] at e1 e2 e3 hc
                  have hw : IntKind.i64.wrap (z + (E : Int)) = z + (E : Int) := IntWalk.i64_in _ (by omega)
                  have E1 := Lib.hid e1
                  clear hzz e1
                  go_wp2_with (at_builtin; refine append_fill Try.underlying28 info_i64 rfl _ _ rfl rfl HF.out rfl (by omega) SL.out E1.out (by omega) hB ?_; intro w' hO hb')
                  have HF2 := Lib.hid hO
                  clear hO
                  go_wp2_with fail
                  go_roundw
                  case rel => exact ⟨i + 1, by omega, by go_num, rfl, HF2, hb'⟩
                  case measure => (first | (simp [intOf]; done) | (simp [intOf]; omega) | (simp only [intOf]; omega))
                · obtain rfl : i = L := by omega
                  have dd4 : decide ((i : Int) < (i : Int)) = false := decide_eq_false (by omega)
                  go_wp2_with fail
                  go_roundw
                  case rel => exact ⟨d + 1, D + i, by omega, by omega, by go_num, HD1, hle1, by omega, rfl, HF, hB⟩
                  case measure => (first | (simp [intOf]; done) | (simp [intOf]; omega) | (simp only [intOf]; omega))
            · obtain rfl : d = r := by omega
              have dd3 : decide ((d : Int) < (d : Int)) = false := decide_eq_false (by omega)
              go_wp2_with fail
              go_roundw
              case rel => exact ⟨j + 1, D, by omega, by go_num, Lib.hid (by rw [HL2.out, HD.out]), rfl, HF, hB⟩
              case measure => (first | (simp [intOf]; done) | (simp [intOf]; omega) | (simp only [intOf]; omega))
        · obtain rfl : j = k := by omega
          have dd2 : decide ((j : Int) < (j : Int)) = false := decide_eq_false (by omega)
          have hLN : L = N := by rw [← HL.out]; exact HN.out
          subst hLN
          go_wp2_with fail
          exact QY1.out _ _ ⟨_, _, rfl, RowI.of_at (HF.out.done SL.out) SW.out SL.out (by omega), hB⟩
end Go.Proofs.Ytkfjmmhcbbfhdaa
