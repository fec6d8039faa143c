/- Package cand's add and pairs. -/
import Derived.Test.YtfjioflggkmhcaaCandd
namespace Go.Proofs.Ytfjioflggkmhcaa
open Go.ChangeShapes Go.WideShapes Go.ChangeAt Go.RowKit
set_option linter.unusedVariables false
set_option linter.unusedSimpArgs false
/-- A plan of two. -/
def twoT (k : Int) (n p : Nat) : Nd := ⟨k, n, (plT 16777216 p).fo ((plT 16777216 (n / p)).fo .nil)⟩
/-- For each of some numbers that is not all of n, a plan of two. -/
def prsL (k : Int) (n : Nat) : List Nat → List Nd
  | [] => []
  | p :: ps => if p = n then prsL k n ps else twoT k n p :: prsL k n ps
theorem prsL_snoc (k : Int) (n : Nat) (ps : List Nat) (p : Nat) : prsL k n (ps ++ [p]) = prsL k n ps ++ (if p = n then [] else [twoT k n p]) := by
  induction ps with
  | nil => simp only [List.nil_append, prsL]
  | cons x ps ih =>
    simp only [List.cons_append, prsL]
    split
    · exact ih
    · rw [ih, List.cons_append]
theorem prsL_len (k : Int) (n : Nat) (ps : List Nat) : (prsL k n ps).length ≤ ps.length := by
  induction ps with
  | nil => exact Nat.le_refl _
  | cons x ps ih =>
    simp only [prsL]
    split
    · rw [List.length_cons]; omega
    · rw [List.length_cons, List.length_cons]; omega
def nats (ps : List Nat) : List Int := ps.map fun (p : Nat) => (p : Int)
/-- A row of nodes of the call's own, handed back. -/
def GivesO (W : World) (l : List Nd) (e : Ending) (w' : World) : Prop := ∃ v, e = .returned v ∧ OwnT w' 0 W.heap.size v l ∧ Below W.heap.size W w'
set_option maxRecDepth 100000 in
set_option maxHeartbeats 4000000 in
theorem cand_pairs (k : Int) (n : Nat) (ps : List Nat) (L : Nat) (pa : Option Addr) (pc : Nat) (W : World) (h1 : 1 ≤ n) (h2 : n ≤ 16777216) (hL : ps.length = L) (hL2 : L ≤ 100) (hp : ∀ p, p ∈ ps → 2 ≤ p ∧ p ∣ n) (hr : RowI W pa L (nats ps)) :
    Calls Try.prog 69 #[.int .i64 k, .int .i64 (n : Int), .slice pa L pc] W (GivesO W (prsL k n ps)) := by
  have IH := Lib.hid (fun (m : Nat) (a : 1 ≤ m) (b : m ≤ 16777216) w => cand_plain 16777216 m w a (by omega) b)
  have OF := Lib.hid (fun p m c w => cand_of k (n : Int) p m c w)
  have HP := Lib.hid hp
  have HR := Lib.hid hr
  have PA := Lib.hid (show ps.take L = ps by rw [← hL]; exact List.take_length)
  have PT := Lib.hid (fun i (hi : i < L) => (show ps.take (i + 1) = ps.take i ++ [ps.getD i 0] by
    rw [List.take_add_one, List.getD, List.getElem?_eq_getElem (by omega)]; rfl))
  have PG := Lib.hid (fun i (hi : i < L) => (show (nats ps).getD i 0 = ((ps.getD i 0 : Nat) : Int) ∧ ps.getD i 0 ∈ ps by
    constructor
    · unfold nats; simp only [List.getD, List.getElem?_map]; rw [List.getElem?_eq_getElem (by omega)]; rfl
    · rw [List.getD, List.getElem?_eq_getElem (by omega)]; exact List.getElem_mem _))
  have PL := Lib.hid (fun i => Nat.le_trans (prsL_len k n (ps.take i)) (List.length_take_le i ps))
  have hB : Below W.heap.size W W := Below.refl _ _
  have HO0 := Lib.hid (OwnT.nil W 0 W.heap.size)
  clear hp hr hL
  go_enter Try.func69, Try.ntmps69
  go_wp2_with fail
  go_loopw [7, 12] (fun x y wr => ∃ (i : Nat) (s : Value), s = x ∧ i ≤ L ∧ y = .int .i64 i ∧ Hid (OwnT wr 0 W.heap.size s (prsL k n (ps.take i))) ∧ Hid (Below W.heap.size W wr)) (fun _ y _ => L - (intOf y).toNat)
  case atStart => exact ⟨0, _, rfl, Nat.zero_le _, rfl, Lib.hid (by rw [List.take_zero]; exact HO0.out), Lib.hid hB⟩
  case round =>
    clear HO0 hB
    obtain ⟨i, s, rfl, hi, rfl, HO, HB⟩ := hrel
    by_cases hlt : i < L
    · obtain ⟨g1, g2⟩ := PG.out i hlt
      obtain ⟨q1, q2⟩ := HP.out _ g2
      obtain ⟨b, o, rfl, hb, hc0, _⟩ := (HR.out.below HB.out).cell (k := i) hlt
      rw [g1] at hc0
      have TT0 := PT.out i hlt
      have PLi : (prsL k n (ps.take i)).length ≤ 100 := by have := PL.out i; have := List.length_take_le i ps; omega
      have PLj : (prsL k n (ps.take i)).length ≤ 100 := PLi
      have TT1 := prsL_snoc k n (ps.take i) (ps.getD i 0)
      rw [← TT0] at TT1
      have TT := Lib.hid TT1
      have hle := Nat.le_of_dvd h1 q2
      clear g1 g2 TT0 TT1
      generalize ps.getD i 0 = p at *
      have dd : decide ((i : Int) < (L : Int)) = true := decide_eq_true (by omega)
      by_cases hpn : p = n
      · subst hpn
        have HE := Lib.hid (show prsL k p (ps.take (i + 1)) = prsL k p (ps.take i) by rw [TT.out, if_pos rfl, List.append_nil])
        have dn : ((p : Int) != (p : Int)) = false := by simp
        go_wp2_with fail
        go_roundw
        case rel => exact ⟨i + 1, _, rfl, by omega, by go_num, Lib.hid (by rw [HE.out]; exact HO.out), HB⟩
        case measure => (first | (simp [intOf]; done) | (simp [intOf]; omega) | (simp only [intOf]; omega))
      · have dn : ((p : Int) != (n : Int)) = true := by simp; omega
        have dn' : ((p : Int) == (n : Int)) = false := by simp; omega
        replace TT := Lib.hid (show prsL k n (ps.take (i + 1)) = prsL k n (ps.take i) ++ [twoT k n p] by rw [TT.out, if_neg hpn])
        have IP := Lib.hid (fun w => IH.out p (by omega) (by omega) w)
        have hnp : n / p ≤ n := Nat.div_le_self _ _
        have hnp1 : 1 ≤ n / p := Nat.div_pos hle (by omega)
        have IQ := Lib.hid (fun w => IH.out (n / p) hnp1 (by omega) w)
        have hz : ((p : Int) == 0) = false := by simp; omega
        have hz2 : ¬ ((p : Int) = 0) := by omega
        have hz3 : ¬ (p = 0) := by omega
        have hdv : ((n : Int)).tdiv (p : Int) = ((n / p : Nat) : Int) := rfl
        have hdv' : ((n : Int)) / (p : Int) = ((n / p : Nat) : Int) := rfl
        unfold twoT at TT
        obtain ⟨nq, hnq⟩ : ∃ z, n / p = z := ⟨_, rfl⟩
        rw [hnq] at IQ hdv hdv' hnp TT
        clear hnq hnp1 q2
        have wq : IntKind.i64.wrap (nq : Int) = (nq : Int) := IntWalk.i64_in _ (by omega)
        generalize plT 16777216 p = D1 at *
        generalize plT 16777216 nq = D2 at *
        generalize prsL k n (ps.take i) = Z at *
        have HOLT := Lib.hid HO.out.ownLt
        obtain ⟨sa, sn, sc, rfl⟩ := HO.out.form
        go_wp2_with fail
        clear hc0 hb dn dn' dd
        obtain ⟨w1, hw1⟩ : ∃ z, wr = z := ⟨_, rfl⟩
        rw [hw1] at HO HB HOLT ⊢
        clear hw1
        refine wp_region_held_drew (S := fun _ => True) (by kernel_rfl) trivial (fun hHeld => ?_)
        have Bk : Below w1.heap.size w1 w1.drew := (Below.refl _ _).drew
        generalize w1.drew = u at *
        refine wpAnyH_take (i := 0) (v := ?v6) rfl (by kernel_rfl) (by kernel_rfl) (by kernel_rfl) (fun _ _ _ h => h) (Or.inl ⟨by kernel_rfl, ?hy6⟩) (by assumption) ?rest6
        case hy6 => intro w hSw; (try dsimp only at hSw); go_simp; (first | done | with_reducible rfl)
        (try simp only [Act.put, List.getElem_toArray, List.getElem_cons_zero, List.getElem_cons_succ, List.setIfInBounds_toArray, List.set_cons_zero, List.set_cons_succ])
        refine wpAnyH_take (i := 1) (v := ?v7) rfl (by kernel_rfl) (by kernel_rfl) (by kernel_rfl) (fun _ _ _ h => h) (Or.inl ⟨by kernel_rfl, ?hy7⟩) (by assumption) ?rest7
        case hy7 => intro w hSw; (try dsimp only at hSw); go_simp; (first | done | with_reducible rfl)
        (try simp only [Act.put, List.getElem_toArray, List.getElem_cons_zero, List.getElem_cons_succ, List.setIfInBounds_toArray, List.set_cons_zero, List.set_cons_succ])
        refine wpAnyH_take (i := 2) (v := ?v8) rfl (by kernel_rfl) (by kernel_rfl) (by kernel_rfl) (fun _ _ _ h => h) (Or.inl ⟨by kernel_rfl, ?hy8⟩) (by assumption) ?rest8
        case hy8 => intro w hSw; (try dsimp only at hSw); go_simp; (first | done | with_reducible rfl)
        (try simp only [Act.put, List.getElem_toArray, List.getElem_cons_zero, List.getElem_cons_succ, List.setIfInBounds_toArray, List.set_cons_zero, List.set_cons_succ])
        refine wpAnyH_take (i := 3) (v := ?v9) rfl (by kernel_rfl) (by kernel_rfl) (by kernel_rfl) (fun _ _ _ h => h) (Or.inl ⟨by kernel_rfl, ?hy9⟩) (by assumption) ?rest9
        case hy9 => intro w hSw; (try dsimp only at hSw); go_simp; (first | done | with_reducible rfl)
        (try simp only [Act.put, List.getElem_toArray, List.getElem_cons_zero, List.getElem_cons_succ, List.setIfInBounds_toArray, List.set_cons_zero, List.set_cons_succ])
        refine wpAnyH_take (i := 5) (v := ?v10) rfl (by kernel_rfl) (by kernel_rfl) (by kernel_rfl) (fun _ _ _ h => h) (Or.inl ⟨by kernel_rfl, ?hy10⟩) (by assumption) ?rest10
        case hy10 => intro w hSw; (try dsimp only at hSw); go_simp; (first | done | with_reducible rfl)
        (try simp only [Act.put, List.getElem_toArray, List.getElem_cons_zero, List.getElem_cons_succ, List.setIfInBounds_toArray, List.set_cons_zero, List.set_cons_succ])
        refine wpAnyH_take (i := 6) (v := ?v11) rfl (by kernel_rfl) (by kernel_rfl) (by kernel_rfl) (fun _ _ _ h => h) (Or.inl ⟨by kernel_rfl, ?hy11⟩) (by assumption) ?rest11
        case hy11 => intro w hSw; (try dsimp only at hSw); go_simp; (first | done | with_reducible rfl)
        (try simp only [Act.put, List.getElem_toArray, List.getElem_cons_zero, List.getElem_cons_succ, List.setIfInBounds_toArray, List.set_cons_zero, List.set_cons_succ])
        refine wpAnyH_take (i := 7) (v := ?v12) rfl (by kernel_rfl) (by kernel_rfl) (by kernel_rfl) (fun _ _ _ h => h) (Or.inl ⟨by kernel_rfl, ?hy12⟩) (by assumption) ?rest12
        case hy12 => intro w hSw; (try dsimp only at hSw); go_simp; (first | done | with_reducible rfl)
        (try simp only [Act.put, List.getElem_toArray, List.getElem_cons_zero, List.getElem_cons_succ, List.setIfInBounds_toArray, List.set_cons_zero, List.set_cons_succ])
        refine wpAnyH_ready (rs := [4]) (by kernel_rfl) (by simp) ?_
        refine AllReadyH.cons rfl (fun K hK => ?_) AllReadyH.nil
        go_simp
        refine (IP.out _).mono ?_
        rintro e ux ⟨v1, rfl, hk1, bx⟩
        obtain ⟨p1, m1, c1, rfl⟩ := hk1.form
        (try go_wp2_with fail)
        have Bk2 := Bk.trans (bx.mono Bk.size)
        have hsz := Bk.size
        replace hk1 : KidsS ux (fun b => b < ux.heap.size ∧ w1.heap.size ≤ b) (.slice p1 m1 c1) D1.ks := hk1.carry (fun b hb => ⟨⟨hb.1, by omega⟩, rfl⟩)
        refine hK.out _ _ trivial (fun hHeld2 => ?_)
        clear hK K hHeld
        have hHeld := hHeld2
        clear hHeld2
        (try simp only [Act.put, List.getElem_toArray, List.getElem_cons_zero, List.getElem_cons_succ, List.setIfInBounds_toArray, List.set_cons_zero, List.set_cons_succ])
        clear Bk bx hsz
        have Bk := Bk2
        clear Bk2
        generalize ux = u at *
        refine wpAnyH_ready (rs := [8]) (by kernel_rfl) (by simp) ?_
        refine AllReadyH.cons rfl (fun K hK => ?_) AllReadyH.nil
        go_simp
        refine (IQ.out _).mono ?_
        rintro e ux ⟨v2, rfl, hk2, bx⟩
        obtain ⟨p2, m2, c2, rfl⟩ := hk2.form
        (try go_wp2_with fail)
        have Bk2 := Bk.trans (bx.mono Bk.size)
        have hsz := Bk.size
        replace hk2 : KidsS ux (fun b => b < ux.heap.size ∧ w1.heap.size ≤ b) (.slice p2 m2 c2) D2.ks := hk2.carry (fun b hb => ⟨⟨hb.1, by omega⟩, rfl⟩)
        replace hk1 : KidsS ux (fun b => b < ux.heap.size ∧ w1.heap.size ≤ b) (.slice p1 m1 c1) D1.ks := hk1.carry (fun b hb => ⟨⟨Nat.lt_of_lt_of_le hb.1 bx.size, hb.2⟩, bx.block b hb.1⟩)
        refine hK.out _ _ trivial (fun hHeld2 => ?_)
        clear hK K hHeld
        have hHeld := hHeld2
        clear hHeld2
        (try simp only [Act.put, List.getElem_toArray, List.getElem_cons_zero, List.getElem_cons_succ, List.setIfInBounds_toArray, List.set_cons_zero, List.set_cons_succ])
        clear Bk bx hsz
        have Bk := Bk2
        clear Bk2
        generalize ux = u at *
        refine wpAnyH_ready (rs := [9]) (by kernel_rfl) (by simp) ?_
        refine AllReadyH.cons rfl (fun K hK => ?_) AllReadyH.nil
        go_simp
        have hn6 := heap_alloc_new u (.cells #[.int .i64 D1.k, .int .i64 D1.n, .slice p1 m1 c1, .int .i64 D2.k, .int .i64 D2.n, .slice p2 m2 c2] 24)
        have b6 := (Below.refl u.heap.size u).alloc (Nat.le_refl _) (.cells #[.int .i64 D1.k, .int .i64 D1.n, .slice p1 m1 c1, .int .i64 D2.k, .int .i64 D2.n, .slice p2 m2 c2] 24)
        have hs6 := World.size_alloc u (.cells #[.int .i64 D1.k, .int .i64 D1.n, .slice p1 m1 c1, .int .i64 D2.k, .int .i64 D2.n, .slice p2 m2 c2] 24)
        have hsz := Bk.size
        generalize u.alloc (.cells #[.int .i64 D1.k, .int .i64 D1.n, .slice p1 m1 c1, .int .i64 D2.k, .int .i64 D2.n, .slice p2 m2 c2] 24) = u6 at *
        have Bk2 := Bk.trans (b6.mono Bk.size)
        have HK := Lib.hid (show KidsS u6 (fun b => b < u6.heap.size ∧ w1.heap.size ≤ b) (.slice (some ⟨u.heap.size, 0, none⟩) 2 2) (D1.fo (D2.fo .nil)) from kidsS_two hn6 ⟨by omega, by omega⟩ (hk1.carry (fun b hb => ⟨⟨Nat.lt_of_lt_of_le hb.1 b6.size, hb.2⟩, b6.block b hb.1⟩)) (hk2.carry (fun b hb => ⟨⟨Nat.lt_of_lt_of_le hb.1 b6.size, hb.2⟩, b6.block b hb.1⟩)) (Nat.le_refl _) (by unfold maxLen; omega))
        refine hK.out _ _ trivial (fun hHeld2 => ?_)
        clear hK K hHeld
        have hHeld := hHeld2
        clear hHeld2
        (try simp only [Act.put, List.getElem_toArray, List.getElem_cons_zero, List.getElem_cons_succ, List.setIfInBounds_toArray, List.set_cons_zero, List.set_cons_succ])
        generalize u.heap.size = g6 at *
        clear Bk b6 hn6 hs6 hk1 hk2 hsz
        have Bk := Bk2
        clear Bk2
        generalize u6 = u at *
        refine wpAnyH_ready (rs := [10]) (by kernel_rfl) (by simp) ?_
        refine AllReadyH.cons rfl (fun K hK => ?_) AllReadyH.nil
        go_simp
        refine (OF.out _ _ _ _).mono ?_
        rintro e ux ⟨rfl, bx⟩
        (try go_wp2_with fail)
        have Bk2 := Bk.trans (bx.mono Bk.size)
        have HK2 := Lib.hid (HK.out.carry (w' := ux) (S' := fun b => b < ux.heap.size ∧ w1.heap.size ≤ b) (fun b hb => ⟨⟨Nat.lt_of_lt_of_le hb.1 bx.size, hb.2⟩, bx.block b hb.1⟩))
        refine hK.out _ _ trivial (fun hHeld2 => ?_)
        clear hK K hHeld
        have hHeld := hHeld2
        clear hHeld2
        (try simp only [Act.put, List.getElem_toArray, List.getElem_cons_zero, List.getElem_cons_succ, List.setIfInBounds_toArray, List.set_cons_zero, List.set_cons_succ])
        clear Bk bx HK
        have Bk := Bk2
        clear Bk2
        generalize ux = u at *
        refine wpAnyH_ready (rs := [11]) (by kernel_rfl) (by simp) ?_
        refine AllReadyH.cons rfl (fun K hK => ?_) AllReadyH.nil
        go_simp
        have hn7 := heap_alloc_new u (.cells #[.int .i64 k, .int .i64 (n : Int), .slice (some ⟨g6, 0, none⟩) 2 2] 24)
        have b7 := (Below.refl u.heap.size u).alloc (Nat.le_refl _) (.cells #[.int .i64 k, .int .i64 (n : Int), .slice (some ⟨g6, 0, none⟩) 2 2] 24)
        have hs7 := World.size_alloc u (.cells #[.int .i64 k, .int .i64 (n : Int), .slice (some ⟨g6, 0, none⟩) 2 2] 24)
        have hsz := Bk.size
        generalize u.alloc (.cells #[.int .i64 k, .int .i64 (n : Int), .slice (some ⟨g6, 0, none⟩) 2 2] 24) = u7 at *
        have Bk2 := Bk.trans (b7.mono Bk.size)
        have HO7 := Lib.hid (HO.out.below Bk2)
        have own7 := HOLT.out
        have hWw := HB.out.size
        have NK := Lib.hid (show NodsS u7 (offB u7 0 W.heap.size (.slice sa sn sc)) [.int .i64 k, .int .i64 (n : Int), .slice (some ⟨g6, 0, none⟩) 2 2] [⟨k, n, D1.fo (D2.fo .nil)⟩] from ⟨_, [], rfl, HK2.out.carry (fun b hb => ⟨⟨by omega, fun e => by have := own7 b e; omega, .inr (by omega)⟩, b7.block b hb.1⟩), rfl⟩)
        refine hK.out _ _ trivial (fun hHeld2 => ?_)
        clear hK K hHeld
        have hHeld := hHeld2
        clear hHeld2
        (try simp only [Act.put, List.getElem_toArray, List.getElem_cons_zero, List.getElem_cons_succ, List.setIfInBounds_toArray, List.set_cons_zero, List.set_cons_succ])
        generalize u.heap.size = g7 at *
        clear Bk b7 hs7 hsz own7 HK2 hWw
        have Bk := Bk2
        clear Bk2
        generalize u7 = u at *
        refine wpAnyH_ready (rs := [12]) (by kernel_rfl) (by simp) ?_
        refine AllReadyH.cons rfl (fun K hK => ?_) AllReadyH.nil
        refine step_plain rfl (wp_append_t _ _ rfl rfl HO7.out rfl rfl (m := 1) (lim := 0) (B := W.heap.size) (l := Z) (l2 := [⟨k, n, D1.fo (D2.fo .nil)⟩]) (news := [.int .i64 k, .int .i64 (n : Int), .slice (some ⟨g6, 0, none⟩) 2 2]) NK.out (fun q z hq => ?_) (by have := Bk.size; have := HB.out.size; omega) (by decide) (by omega) ?_)
        · obtain ⟨z0, z1, z2, _, _, _⟩ := row_cells3 hn7
          rw [Addr.add_lit, Nat.zero_add]
          match q, hq with
          | 0, hq => simp at hq; subst hq; exact z0
          | 1, hq => simp at hq; subst hq; exact z1
          | 2, hq => simp at hq; subst hq; exact z2
        intro v8 u8 hO8 hg8
        have own8 := HO7.out.ownLe
        have Bk8 : Below W.heap.size W u8 := (HB.out.trans (Bk.mono HB.out.size)).grown hg8 (by have := Bk.size; have := HB.out.size; omega) own8
        refine hK.out _ _ trivial (fun hHeld2 => ?_)
        clear hK K hHeld
        have hHeld := hHeld2
        clear hHeld2
        (try simp only [Act.put, List.getElem_toArray, List.getElem_cons_zero, List.getElem_cons_succ, List.setIfInBounds_toArray, List.set_cons_zero, List.set_cons_succ])
        refine wpAnyH_take (i := 13) (v := ?v13) rfl (by kernel_rfl) (by kernel_rfl) (by kernel_rfl) (fun _ _ _ h => h) (Or.inl ⟨by kernel_rfl, ?hy13⟩) (by assumption) ?rest13
        case hy13 => intro w hSw; (try dsimp only at hSw); go_simp; (first | done | with_reducible rfl)
        (try simp only [Act.put, List.getElem_toArray, List.getElem_cons_zero, List.getElem_cons_succ, List.setIfInBounds_toArray, List.set_cons_zero, List.set_cons_succ])
        refine wpAnyH_done (by kernel_rfl) ?_ _
        go_wp2_with fail
        go_roundw
        case rel => exact ⟨i + 1, _, rfl, by omega, by go_num, Lib.hid (by rw [TT.out]; exact hO8), Lib.hid Bk8⟩
        case measure => (first | (simp [intOf]; done) | (simp [intOf]; omega) | (simp only [intOf]; omega))
    · obtain rfl : i = L := by omega
      have dd : decide ((i : Int) < (i : Int)) = false := decide_eq_false (by omega)
      go_wp2_with fail
      go_ret
      exact ⟨_, rfl, by have := HO.out; rw [PA.out] at this; exact this, HB.out⟩
end Go.Proofs.Ytfjioflggkmhcaa
