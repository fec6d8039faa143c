/- Package cand's List: the walk. -/
import Derived.Test.YtfjioflggkmhcaaCandg
namespace Go.Proofs.Ytfjioflggkmhcaa
open Go.ChangeShapes Go.WideShapes Go.ChangeAt Go.RowKit
set_option linter.unusedVariables false
set_option linter.unusedSimpArgs false
theorem ListAt.below {w w' : World} {X : Nat} {v : Value} {l : List Nd} (h : ListAt w X v l) (hb : Below w.heap.size w w') : ListAt w' X v l := ⟨(hb.block X (Array.getElem?_eq_some_iff.1 h.1).1).trans h.1, h.2.below hb⟩
theorem ListAt.lt {w : World} {X : Nat} {v : Value} {l : List Nd} (h : ListAt w X v l) : X < w.heap.size := (Array.getElem?_eq_some_iff.1 h.1).1
theorem cells3 {w : World} {g : Nat} {a b c : Value} {T : TypeId} (h : w.heap[g]? = some (.cells #[a, b, c] T (0, 0))) : ∀ j u, [a, b, c][j]? = some u → w.cell? ((⟨g, 0, none⟩ : Addr).add j) = some u := by
  intro q z hq
  obtain ⟨z0, z1, z2, _, _, _⟩ := row_cells3 h
  rw [Addr.add_lit, Nat.zero_add]
  match q, hq with
  | 0, hq => simp at hq; subst hq; exact z0
  | 1, hq => simp at hq; subst hq; exact z1
  | 2, hq => simp at hq; subst hq; exact z2
theorem abv_pos {n m : Nat} (h : IsAbvb n m) : 1 ≤ m := by
  obtain ⟨j, rfl, _⟩ := h
  exact Nat.pos_of_ne_zero (by simp)
theorem abv_le {n m : Nat} (h : IsAbvb n m) (hn : n ≤ 16777216) : m ≤ 16777216 := by
  obtain ⟨j, rfl, _, h3⟩ := h
  by_cases hj : j ≤ 24
  · exact Nat.le_trans (Nat.pow_le_pow_right (by decide) hj) (by decide)
  · have := h3 24 (by omega); omega
set_option maxRecDepth 100000 in
set_option maxHeartbeats 16000000 in
theorem cand_list (n : Nat) (W : World) (hh : hasb n = true) : Calls Try.prog 40 #[.int .i64 (n : Int)] W fun e w' => ∃ v, e = .returned (.tuple #[v, .int .i64 0]) ∧ OwnT w' 0 (W.heap.size + 1) v (candL n) ∧ Below W.heap.size W w' := by
  obtain ⟨h1, h2, -⟩ := hasb_dvd hh
  have h1 : 1 ≤ n := by omega
  have h2 : n ≤ 16777216 := by omega
  have RH := fun w => root_has (n : Int) w (by omega) (by omega)
  rw [hh] at RH
  have RH := Lib.hid RH
  have OF := Lib.hid (fun k p m c w => cand_of k (n : Int) p m c w)
  have AD := Lib.hid (fun v l l2 p m c w => cand_add W.heap.size v l l2 p m c w)
  have SH := Lib.hid (fun w => small_has (n : Int) w)
  have ST := fun w => stock_has (n : Int) w
  rw [hasp_small h2] at ST
  have ST := Lib.hid ST
  have FP := Lib.hid (fun w => fact_prime (n : Int) w)
  have PR := Lib.hid (fun w => cand_primes n w h1 h2)
  have PW := Lib.hid (fun w => cand_powers n w h1 h2)
  have FL := fa_len h1 h2
  have FL2 : (fa n).length ≤ 100 := by omega
  have IP := Lib.hid (fun (m : Nat) (a : 1 ≤ m) (b : m ≤ 16777216) w => cand_plain 16777216 m w a (by omega) b)
  have CL := Lib.hid (fun w hn => chirp_leastb n w hh hn)
  have CN := Lib.hid (fun w hn => chirp_leastbig (n : Int) w (by omega) hh hn)
  unfold candL
  have NP := Lib.hid (nats_pr n)
  have NW := Lib.hid (nats_pw n)
  have IPR := Lib.hid (fun p h => prN_in (p := p) h1 h)
  have IPW := Lib.hid (fun p h => pwN_in (p := p) h1 h)
  have LPR : (prN n).length = (fa n).length := by unfold prN; rw [List.length_map]
  have LPW : (pwN n).length = (fa n).length := by unfold pwN; rw [List.length_map]
  have PI4 := Lib.hid (fun pa pc w hr => cand_pairs 4 n (prN n) (fa n).length pa pc w h1 h2 LPR FL2 (fun p h => prN_in h1 h) hr)
  have PI5 := Lib.hid (fun pa pc w hr => cand_pairs 5 n (pwN n) (fa n).length pa pc w h1 h2 LPW FL2 (fun p h => pwN_in h1 h) hr)
  have LP4 := Nat.le_trans (prsL_len 4 n (prN n)) (Nat.le_of_eq LPR)
  have LP5 := Nat.le_trans (prsL_len 5 n (pwN n)) (Nat.le_of_eq LPW)
  have ABI := Lib.hid (abvN_is (n := 2 * n - 1) (by omega))
  have OY1 := opt_len (n ≤ 64) ⟨1, n, .nil⟩
  have OY2 := opt_len (2 ≤ n ∧ n ≤ 5) ⟨2, n, .nil⟩
  have OY3 := opt_len (2 ≤ n ∧ pwb n = true) ⟨3, n, .nil⟩
  have OY6 := opt_len (3 ≤ n ∧ prb n = true) (oneT 6 n (n - 1))
  have OY7 := opt_len (2 ≤ n ∧ n ≤ 8388608) (oneT 7 n (abvN (2 * n - 1)))
  have O1Y := Lib.hid (fun h => opt_yes (c := n ≤ 64) (d := ⟨1, n, .nil⟩) h)
  have O1N := Lib.hid (fun h => opt_no (c := n ≤ 64) (d := ⟨1, n, .nil⟩) h)
  generalize opt (n ≤ 64) ⟨1, n, .nil⟩ = o1 at *
  have O2Y := Lib.hid (fun h => opt_yes (c := 2 ≤ n ∧ n ≤ 5) (d := ⟨2, n, .nil⟩) h)
  have O2N := Lib.hid (fun h => opt_no (c := 2 ≤ n ∧ n ≤ 5) (d := ⟨2, n, .nil⟩) h)
  generalize opt (2 ≤ n ∧ n ≤ 5) ⟨2, n, .nil⟩ = o2 at *
  have O3Y := Lib.hid (fun h => opt_yes (c := 2 ≤ n ∧ pwb n = true) (d := ⟨3, n, .nil⟩) h)
  have O3N := Lib.hid (fun h => opt_no (c := 2 ≤ n ∧ pwb n = true) (d := ⟨3, n, .nil⟩) h)
  generalize opt (2 ≤ n ∧ pwb n = true) ⟨3, n, .nil⟩ = o3 at *
  have O6Y := Lib.hid (fun h => opt_yes (c := 3 ≤ n ∧ prb n = true) (d := (oneT 6 n (n - 1))) h)
  have O6N := Lib.hid (fun h => opt_no (c := 3 ≤ n ∧ prb n = true) (d := (oneT 6 n (n - 1))) h)
  generalize opt (3 ≤ n ∧ prb n = true) (oneT 6 n (n - 1)) = o6 at *
  have O7Y := Lib.hid (fun h => opt_yes (c := 2 ≤ n ∧ n ≤ 8388608) (d := (oneT 7 n (abvN (2 * n - 1)))) h)
  have O7N := Lib.hid (fun h => opt_no (c := 2 ≤ n ∧ n ≤ 8388608) (d := (oneT 7 n (abvN (2 * n - 1)))) h)
  generalize opt (2 ≤ n ∧ n ≤ 8388608) (oneT 7 n (abvN (2 * n - 1))) = o7 at *
  generalize prsL 4 n (prN n) = p4 at *
  generalize prsL 5 n (pwN n) = p5 at *
  obtain ⟨w1, hw1⟩ : ∃ w1, W.alloc (.cells #[.slice none 0 0] 74) = w1 := ⟨_, rfl⟩
  have r1 := heap_alloc_new W (.cells #[.slice none 0 0] 74)
  rw [hw1] at r1
  have HB1 : Below W.heap.size W w1 := by rw [← hw1]; exact (Below.refl _ _).alloc (Nat.le_refl _) _
  have S0 := Lib.hid (show St W [] w1 from ⟨⟨_, r1, OwnT.nil _ _ _⟩, HB1⟩)
  have HW1 := Lib.hid hw1
  clear r1 HB1 hw1 hh
  go_enter Try.func40, Try.ntmps40
  go_wp2_with fail
  refine (RH.out _).mono ?_
  rintro e w0 ⟨rfl, rfl⟩
  go_upto_if 11 with fail
  rw [HW1.out]
  clear HW1 RH
  obtain ⟨⟨v, hL⟩, hB⟩ := S0.out
  clear S0
  generalize w1 = u at *
  go_upto_if 11 with fail
  go_cut [] (fun wx => St W ([] ++ o1) wx)
  case first =>
    by_cases hc : n ≤ 64
    · have dc : decide (n ≤ 64) = true := decide_eq_true hc
      have dci : decide ((n : Int) ≤ 64) = true := decide_eq_true (by omega)
      have HL := Lib.hid hL
      have HBB := Lib.hid hB
      clear hL hB
      (try rw [dc])
      go_wp2_with fail
      have hL := HL.out
      have hB := HBB.out
      clear HL HBB
      refine (OF.out 1 none 0 0 _).mono ?_
      rintro e ux ⟨rfl, bx⟩
      replace hL := hL.below bx
      replace hB := hB.trans (bx.mono hB.size)
      clear bx
      generalize ux = u at *
      obtain ⟨ub, hub⟩ : ∃ z, u.alloc (.cells #[.int .i64 1, .int .i64 (n : Int), (.slice none 0 0)] 24) = z := ⟨_, rfl⟩
      have hn := heap_alloc_new u (.cells #[.int .i64 1, .int .i64 (n : Int), (.slice none 0 0)] 24)
      rw [hub] at hn
      have bb : Below u.heap.size u ub := by rw [← hub]; exact (Below.refl _ _).alloc (Nat.le_refl _) _
      have hLb := hL.below bb
      have own := hL.2.ownLt
      have hsb := bb.size
      have HA := Lib.hid (AD.out _ _ [⟨1, n, .nil⟩] (some ⟨u.heap.size, 0, none⟩) 1 1 ub hLb rfl (by simp only [List.length_append, List.length_nil]; omega) (.inr ⟨_, [.int .i64 1, .int .i64 (n : Int), (.slice none 0 0)], rfl, ⟨_, [], rfl, KidsS.nought _ _, rfl⟩, cells3 hn⟩))
      replace hB := hB.trans (bb.mono hB.size)
      have HB := Lib.hid hB
      have HUB := Lib.hid hub
      clear hub hn bb hLb own hsb hL hB
      go_wp2_with fail
      rw [HUB.out]
      clear HUB
      refine HA.out.mono ?_
      rintro e uy ⟨⟨z, rfl⟩, ⟨vy, hLy⟩, by_⟩
      have hBy := HB.out.trans by_
      clear HA HB by_
      generalize vy = v at *
      (try go_wp2_with fail)
      go_meet
      case rel => exact ⟨⟨_, by rw [O1Y.out hc]; exact hLy⟩, hBy⟩
    · have dc : decide (n ≤ 64) = false := decide_eq_false hc
      have dci : decide ((n : Int) ≤ 64) = false := decide_eq_false (by omega)
      have HL := Lib.hid hL
      have HBB := Lib.hid hB
      clear hL hB
      (try rw [dc])
      (try go_wp2_with fail)
      go_meet
      case rel => exact ⟨⟨_, by rw [O1N.out hc, List.append_nil]; exact HL.out⟩, HBB.out⟩
  case rest =>
    obtain ⟨⟨v, hL⟩, hB⟩ := hcut
    generalize wc = u at *
    go_upto_region 6 with fail
    go_cut [21] (fun x wx => x = .bool (decide (2 ≤ n ∧ n ≤ 5)) ∧ St W ([] ++ o1) wx)
    case first =>
      by_cases h2n : 2 ≤ n
      · have d2 : decide ((2 : Int) ≤ (n : Int)) = true := decide_eq_true (by omega)
        have E := Lib.hid (show few (n : Int) = decide (2 ≤ n ∧ n ≤ 5) by unfold few; exact decide_eq_decide.2 (by omega))
        have HL := Lib.hid hL
        have HBB := Lib.hid hB
        clear hL hB
        go_wp2_with fail
        refine (SH.out _).mono ?_
        rintro e uq ⟨rfl, rfl⟩
        (try go_wp2_with fail)
        go_meet
        case rel => exact ⟨by rw [E.out], ⟨_, HL.out⟩, HBB.out⟩
      · have d2 : decide ((2 : Int) ≤ (n : Int)) = false := decide_eq_false (by omega)
        have HL := Lib.hid hL
        have HBB := Lib.hid hB
        clear hL hB
        have E := Lib.hid (show decide (2 ≤ n ∧ n ≤ 5) = false from decide_eq_false (by omega))
        (try go_wp2_with fail)
        go_meet
        case rel => exact ⟨by rw [E.out], ⟨_, HL.out⟩, HBB.out⟩
    case rest =>
      obtain ⟨rfl, ⟨v, hL⟩, hB⟩ := hcut
      generalize wc = u at *
      go_upto_if 21 with fail
      go_cut [] (fun wx => St W (([] ++ o1) ++ o2) wx)
      case first =>
        by_cases hc : 2 ≤ n ∧ n ≤ 5
        · have dc : decide (2 ≤ n ∧ n ≤ 5) = true := decide_eq_true hc
          have HL := Lib.hid hL
          have HBB := Lib.hid hB
          clear hL hB
          (try rw [dc])
          go_wp2_with fail
          have hL := HL.out
          have hB := HBB.out
          clear HL HBB
          refine (OF.out 2 none 0 0 _).mono ?_
          rintro e ux ⟨rfl, bx⟩
          replace hL := hL.below bx
          replace hB := hB.trans (bx.mono hB.size)
          clear bx
          generalize ux = u at *
          obtain ⟨ub, hub⟩ : ∃ z, u.alloc (.cells #[.int .i64 2, .int .i64 (n : Int), (.slice none 0 0)] 24) = z := ⟨_, rfl⟩
          have hn := heap_alloc_new u (.cells #[.int .i64 2, .int .i64 (n : Int), (.slice none 0 0)] 24)
          rw [hub] at hn
          have bb : Below u.heap.size u ub := by rw [← hub]; exact (Below.refl _ _).alloc (Nat.le_refl _) _
          have hLb := hL.below bb
          have own := hL.2.ownLt
          have hsb := bb.size
          have HA := Lib.hid (AD.out _ _ [⟨2, n, .nil⟩] (some ⟨u.heap.size, 0, none⟩) 1 1 ub hLb rfl (by simp only [List.length_append, List.length_nil]; omega) (.inr ⟨_, [.int .i64 2, .int .i64 (n : Int), (.slice none 0 0)], rfl, ⟨_, [], rfl, KidsS.nought _ _, rfl⟩, cells3 hn⟩))
          replace hB := hB.trans (bb.mono hB.size)
          have HB := Lib.hid hB
          have HUB := Lib.hid hub
          clear hub hn bb hLb own hsb hL hB
          go_wp2_with fail
          rw [HUB.out]
          clear HUB
          refine HA.out.mono ?_
          rintro e uy ⟨⟨z, rfl⟩, ⟨vy, hLy⟩, by_⟩
          have hBy := HB.out.trans by_
          clear HA HB by_
          generalize vy = v at *
          (try go_wp2_with fail)
          go_meet
          case rel => exact ⟨⟨_, by rw [O2Y.out hc]; exact hLy⟩, hBy⟩
        · have dc : decide (2 ≤ n ∧ n ≤ 5) = false := decide_eq_false hc
          have HL := Lib.hid hL
          have HBB := Lib.hid hB
          clear hL hB
          (try rw [dc])
          (try go_wp2_with fail)
          go_meet
          case rel => exact ⟨⟨_, by rw [O2N.out hc, List.append_nil]; exact HL.out⟩, HBB.out⟩
      case rest =>
        obtain ⟨⟨v, hL⟩, hB⟩ := hcut
        generalize wc = u at *
        go_upto_region 8 with fail
        go_cut [31] (fun x wx => x = .bool (decide (2 ≤ n ∧ pwb n = true)) ∧ St W ([] ++ o1 ++ o2) wx)
        case first =>
          by_cases h2n : 2 ≤ n
          · have d2 : decide ((2 : Int) ≤ (n : Int)) = true := decide_eq_true (by omega)
            have E := Lib.hid (show pwb (n : Int) = decide (2 ≤ n ∧ pwb n = true) by cases hp : pwb (n : Int) <;> simp [h2n])
            have HL := Lib.hid hL
            have HBB := Lib.hid hB
            clear hL hB
            go_wp2_with fail
            refine (ST.out _).mono ?_
            rintro e uq ⟨rfl, rfl⟩
            (try go_wp2_with fail)
            go_meet
            case rel => exact ⟨by first | exact congrArg Value.bool E.out | rw [← E.out], ⟨_, HL.out⟩, HBB.out⟩
          · have d2 : decide ((2 : Int) ≤ (n : Int)) = false := decide_eq_false (by omega)
            have HL := Lib.hid hL
            have HBB := Lib.hid hB
            clear hL hB
            have E := Lib.hid (show decide (2 ≤ n ∧ pwb n = true) = false from decide_eq_false (by omega))
            (try go_wp2_with fail)
            go_meet
            case rel => exact ⟨by rw [E.out], ⟨_, HL.out⟩, HBB.out⟩
        case rest =>
          obtain ⟨rfl, ⟨v, hL⟩, hB⟩ := hcut
          generalize wc = u at *
          go_upto_if 31 with fail
          go_cut [] (fun wx => St W (([] ++ o1 ++ o2) ++ o3) wx)
          case first =>
            by_cases hc : 2 ≤ n ∧ pwb n = true
            · have dc : decide (2 ≤ n ∧ pwb n = true) = true := decide_eq_true hc
              have HL := Lib.hid hL
              have HBB := Lib.hid hB
              clear hL hB
              (try rw [dc])
              go_wp2_with fail
              have hL := HL.out
              have hB := HBB.out
              clear HL HBB
              refine (OF.out 3 none 0 0 _).mono ?_
              rintro e ux ⟨rfl, bx⟩
              replace hL := hL.below bx
              replace hB := hB.trans (bx.mono hB.size)
              clear bx
              generalize ux = u at *
              obtain ⟨ub, hub⟩ : ∃ z, u.alloc (.cells #[.int .i64 3, .int .i64 (n : Int), (.slice none 0 0)] 24) = z := ⟨_, rfl⟩
              have hn := heap_alloc_new u (.cells #[.int .i64 3, .int .i64 (n : Int), (.slice none 0 0)] 24)
              rw [hub] at hn
              have bb : Below u.heap.size u ub := by rw [← hub]; exact (Below.refl _ _).alloc (Nat.le_refl _) _
              have hLb := hL.below bb
              have own := hL.2.ownLt
              have hsb := bb.size
              have HA := Lib.hid (AD.out _ _ [⟨3, n, .nil⟩] (some ⟨u.heap.size, 0, none⟩) 1 1 ub hLb rfl (by simp only [List.length_append, List.length_nil]; omega) (.inr ⟨_, [.int .i64 3, .int .i64 (n : Int), (.slice none 0 0)], rfl, ⟨_, [], rfl, KidsS.nought _ _, rfl⟩, cells3 hn⟩))
              replace hB := hB.trans (bb.mono hB.size)
              have HB := Lib.hid hB
              have HUB := Lib.hid hub
              clear hub hn bb hLb own hsb hL hB
              go_wp2_with fail
              rw [HUB.out]
              clear HUB
              refine HA.out.mono ?_
              rintro e uy ⟨⟨z, rfl⟩, ⟨vy, hLy⟩, by_⟩
              have hBy := HB.out.trans by_
              clear HA HB by_
              generalize vy = v at *
              (try go_wp2_with fail)
              go_meet
              case rel => exact ⟨⟨_, by rw [O3Y.out hc]; exact hLy⟩, hBy⟩
            · have dc : decide (2 ≤ n ∧ pwb n = true) = false := decide_eq_false hc
              have HL := Lib.hid hL
              have HBB := Lib.hid hB
              clear hL hB
              (try rw [dc])
              (try go_wp2_with fail)
              go_meet
              case rel => exact ⟨⟨_, by rw [O3N.out hc, List.append_nil]; exact HL.out⟩, HBB.out⟩
          case rest =>
            obtain ⟨⟨v, hL⟩, hB⟩ := hcut
            generalize wc = u at *
            go_upto_region 10 with fail
            go_cut [] (fun wx => St W ([] ++ o1 ++ o2 ++ o3 ++ p4) wx)
            case first =>
              have HL := Lib.hid hL
              have HBB := Lib.hid hB
              clear hL hB
              go_wp2_with fail
              refine (PR.out _).mono ?_
              rintro e ux ⟨ra, rc, rfl, hr, bx⟩
              have hL := HL.out
              have hB := HBB.out
              clear HL HBB
              replace hL := hL.below bx
              replace hB := hB.trans (bx.mono hB.size)
              clear bx
              generalize ux = u at *
              rw [← NP.out] at hr
              have HI := Lib.hid (PI4.out ra rc u hr)
              clear hr
              have HL := Lib.hid hL
              have HBB := Lib.hid hB
              clear hL hB
              go_wp2_with fail
              refine HI.out.mono ?_
              rintro e ux ⟨v2, rfl, hO2, bx⟩
              have hL := HL.out
              have hB := HBB.out
              clear HL HBB
              have own := hL.2.ownLt
              have hlX := hL.lt
              replace hL := hL.below bx
              replace hB := hB.trans (bx.mono hB.size)
              obtain ⟨pp, pm, pc, rfl, hpm, hnw⟩ := hO2.news (S := offB ux 0 (W.heap.size + 1) v) (fun b hb1 hb2 => ⟨hb1, fun e => by have := own b e; omega, .inr (by omega)⟩)
              have HA := Lib.hid (AD.out v _ _ pp pm pc ux hL hpm (by simp only [List.length_append, List.length_nil]; omega) hnw)
              have HBQ := Lib.hid hB
              clear HI hnw hpm hO2 own bx hL hB
              go_wp2_with fail
              refine HA.out.mono ?_
              rintro e uy ⟨⟨z, rfl⟩, ⟨vy, hLy⟩, by_⟩
              have hBy := HBQ.out.trans by_
              clear HA HBQ by_
              (try go_wp2_with fail)
              go_meet
              case rel => exact ⟨⟨_, hLy⟩, hBy⟩
            case rest =>
              obtain ⟨⟨v, hL⟩, hB⟩ := hcut
              generalize wc = u at *
              go_upto_region 11 with fail
              go_cut [] (fun wx => St W ([] ++ o1 ++ o2 ++ o3 ++ p4 ++ p5) wx)
              case first =>
                have HL := Lib.hid hL
                have HBB := Lib.hid hB
                clear hL hB
                go_wp2_with fail
                refine (PW.out _).mono ?_
                rintro e ux ⟨ra, rc, rfl, hr, bx⟩
                have hL := HL.out
                have hB := HBB.out
                clear HL HBB
                replace hL := hL.below bx
                replace hB := hB.trans (bx.mono hB.size)
                clear bx
                generalize ux = u at *
                rw [← NW.out] at hr
                have HI := Lib.hid (PI5.out ra rc u hr)
                clear hr
                have HL := Lib.hid hL
                have HBB := Lib.hid hB
                clear hL hB
                go_wp2_with fail
                refine HI.out.mono ?_
                rintro e ux ⟨v2, rfl, hO2, bx⟩
                have hL := HL.out
                have hB := HBB.out
                clear HL HBB
                have own := hL.2.ownLt
                have hlX := hL.lt
                replace hL := hL.below bx
                replace hB := hB.trans (bx.mono hB.size)
                obtain ⟨pp, pm, pc, rfl, hpm, hnw⟩ := hO2.news (S := offB ux 0 (W.heap.size + 1) v) (fun b hb1 hb2 => ⟨hb1, fun e => by have := own b e; omega, .inr (by omega)⟩)
                have HA := Lib.hid (AD.out v _ _ pp pm pc ux hL hpm (by simp only [List.length_append, List.length_nil]; omega) hnw)
                have HBQ := Lib.hid hB
                clear HI hnw hpm hO2 own bx hL hB
                go_wp2_with fail
                refine HA.out.mono ?_
                rintro e uy ⟨⟨z, rfl⟩, ⟨vy, hLy⟩, by_⟩
                have hBy := HBQ.out.trans by_
                clear HA HBQ by_
                (try go_wp2_with fail)
                go_meet
                case rel => exact ⟨⟨_, hLy⟩, hBy⟩
              case rest =>
                obtain ⟨⟨v, hL⟩, hB⟩ := hcut
                generalize wc = u at *
                go_upto_region 12 with fail
                go_cut [51] (fun x wx => x = .bool (decide (3 ≤ n ∧ prb n = true)) ∧ St W ([] ++ o1 ++ o2 ++ o3 ++ p4 ++ p5) wx)
                case first =>
                  by_cases h3n : 3 ≤ n
                  · have d2 : decide ((3 : Int) ≤ (n : Int)) = true := decide_eq_true (by omega)
                    have E := Lib.hid (show prb (n : Int) = decide (3 ≤ n ∧ prb n = true) by cases hp : prb (n : Int) <;> simp [h3n])
                    have HL := Lib.hid hL
                    have HBB := Lib.hid hB
                    clear hL hB
                    go_wp2_with fail
                    refine (FP.out _).mono ?_
                    rintro e ux ⟨rfl, bx⟩
                    have hL := HL.out
                    have hB := HBB.out
                    clear HL HBB
                    replace hL := hL.below bx
                    replace hB := hB.trans (bx.mono hB.size)
                    clear bx
                    generalize ux = u at *
                    have HL := Lib.hid hL
                    have HBB := Lib.hid hB
                    clear hL hB
                    (try go_wp2_with fail)
                    go_meet
                    case rel => exact ⟨by first | exact congrArg Value.bool E.out | rw [← E.out], ⟨_, HL.out⟩, HBB.out⟩
                  · have d2 : decide ((3 : Int) ≤ (n : Int)) = false := decide_eq_false (by omega)
                    have HL := Lib.hid hL
                    have HBB := Lib.hid hB
                    clear hL hB
                    have E := Lib.hid (show decide (3 ≤ n ∧ prb n = true) = false from decide_eq_false (by omega))
                    (try go_wp2_with fail)
                    go_meet
                    case rel => exact ⟨by rw [E.out], ⟨_, HL.out⟩, HBB.out⟩
                case rest =>
                  obtain ⟨rfl, ⟨v, hL⟩, hB⟩ := hcut
                  generalize wc = u at *
                  go_upto_if 51 with fail
                  go_cut [] (fun wx => St W (([] ++ o1 ++ o2 ++ o3 ++ p4 ++ p5) ++ o6) wx)
                  case first =>
                    by_cases hc : 3 ≤ n ∧ prb n = true
                    · have dc : decide (3 ≤ n ∧ prb n = true) = true := decide_eq_true hc
                      have IP6 := Lib.hid (fun w => IP.out (n - 1) (by omega) (by omega) w)
                      have HD := Lib.hid (show oneT 6 n (n - 1) = ⟨6, n, (plT 16777216 (n - 1)).fo .nil⟩ from rfl)
                      generalize plT 16777216 (n - 1) = D1 at IP6 HD
                      obtain ⟨n1, hn1⟩ : ∃ z, n - 1 = z := ⟨_, rfl⟩
                      have wn : IntKind.i64.wrap ((n : Int) - 1) = (n1 : Int) := by rw [IntWalk.i64_in _ (by omega)]; omega
                      rw [hn1] at IP6
                      clear hn1
                      have HL := Lib.hid hL
                      have HBB := Lib.hid hB
                      clear hL hB
                      (try rw [dc])
                      go_wp2_with fail
                      have hL := HL.out
                      have hB := HBB.out
                      clear HL HBB
                      refine (IP6.out _).mono ?_
                      rintro e ux ⟨v1, rfl, hk1, bx⟩
                      obtain ⟨p1, m1, c1', rfl⟩ := hk1.form
                      have own := hL.2.ownLt
                      have hlX := hL.lt
                      replace hL := hL.below bx
                      replace hB := hB.trans (bx.mono hB.size)
                      obtain ⟨u6, hu6⟩ : ∃ u6, ux.alloc (.cells #[.int .i64 D1.k, .int .i64 D1.n, .slice p1 m1 c1'] 24) = u6 := ⟨_, rfl⟩
                      have hn6 := heap_alloc_new ux (.cells #[.int .i64 D1.k, .int .i64 D1.n, .slice p1 m1 c1'] 24)
                      have hs6 := World.size_alloc ux (.cells #[.int .i64 D1.k, .int .i64 D1.n, .slice p1 m1 c1'] 24)
                      have b6 : Below ux.heap.size ux u6 := by rw [← hu6]; exact (Below.refl _ _).alloc (Nat.le_refl _) _
                      rw [hu6] at hn6 hs6
                      have hsx := bx.size
                      have HK := Lib.hid (show KidsS u6 (fun b => b < u6.heap.size ∧ u.heap.size ≤ b) (.slice (some ⟨ux.heap.size, 0, none⟩) 1 1) (D1.fo .nil) from kidsS_one hn6 ⟨by omega, by omega⟩ (hk1.carry (fun b hb => ⟨⟨Nat.lt_of_lt_of_le hb.1 b6.size, hb.2⟩, b6.block b hb.1⟩)) (Nat.le_refl _) (by unfold maxLen; omega))
                      replace hL := hL.below b6
                      replace hB := hB.trans (b6.mono hB.size)
                      have HU6 := Lib.hid hu6
                      have OWN := Lib.hid own
                      have hu6s : u.heap.size ≤ u6.heap.size := by omega
                      clear hu6 hn6 hs6 b6 hsx bx hk1 own
                      have HL := Lib.hid hL
                      have HBB := Lib.hid hB
                      clear hL hB
                      go_wp2_with fail
                      rw [HU6.out]
                      clear HU6
                      generalize ux.heap.size = g6 at *
                      generalize hus : u.heap.size = us at *
                      refine (OF.out 6 _ _ _ _).mono ?_
                      rintro e ux' ⟨rfl, bx⟩
                      have HK2 := Lib.hid (HK.out.carry (w' := ux') (S' := offB ux' 0 (W.heap.size + 1) v) (fun b hb => ⟨⟨Nat.lt_of_lt_of_le hb.1 bx.size, fun e => by have := OWN.out b e; omega, .inr (by omega)⟩, bx.block b hb.1⟩))
                      have hL := HL.out
                      have hB := HBB.out
                      clear HL HBB
                      clear hus OWN HK hu6s
                      replace hL := hL.below bx
                      replace hB := hB.trans (bx.mono hB.size)
                      clear bx
                      generalize ux' = u at *
                      obtain ⟨ub, hub⟩ : ∃ z, u.alloc (.cells #[.int .i64 6, .int .i64 (n : Int), (.slice (some ⟨g6, 0, none⟩) 1 1)] 24) = z := ⟨_, rfl⟩
                      have hn := heap_alloc_new u (.cells #[.int .i64 6, .int .i64 (n : Int), (.slice (some ⟨g6, 0, none⟩) 1 1)] 24)
                      rw [hub] at hn
                      have bb : Below u.heap.size u ub := by rw [← hub]; exact (Below.refl _ _).alloc (Nat.le_refl _) _
                      have hLb := hL.below bb
                      have own := hL.2.ownLt
                      have hsb := bb.size
                      have HA := Lib.hid (AD.out _ _ [⟨6, n, D1.fo .nil⟩] (some ⟨u.heap.size, 0, none⟩) 1 1 ub hLb rfl (by simp only [List.length_append, List.length_nil]; omega) (.inr ⟨_, [.int .i64 6, .int .i64 (n : Int), (.slice (some ⟨g6, 0, none⟩) 1 1)], rfl, ⟨_, [], rfl, HK2.out.carry (fun b hb => ⟨⟨Nat.lt_of_lt_of_le hb.1 hsb, hb.2⟩, bb.block b hb.1⟩), rfl⟩, cells3 hn⟩))
                      replace hB := hB.trans (bb.mono hB.size)
                      have HB := Lib.hid hB
                      have HUB := Lib.hid hub
                      clear hub hn bb hLb own hsb hL hB
                      go_wp2_with fail
                      rw [HUB.out]
                      clear HUB
                      refine HA.out.mono ?_
                      rintro e uy ⟨⟨z, rfl⟩, ⟨vy, hLy⟩, by_⟩
                      have hBy := HB.out.trans by_
                      clear HA HB by_
                      generalize vy = v at *
                      (try go_wp2_with fail)
                      go_meet
                      case rel => exact ⟨⟨_, by rw [O6Y.out hc, HD.out]; exact hLy⟩, hBy⟩
                    · have dc : decide (3 ≤ n ∧ prb n = true) = false := decide_eq_false hc
                      have HL := Lib.hid hL
                      have HBB := Lib.hid hB
                      clear hL hB
                      (try rw [dc])
                      (try go_wp2_with fail)
                      go_meet
                      case rel => exact ⟨⟨_, by rw [O6N.out hc, List.append_nil]; exact HL.out⟩, HBB.out⟩
                  case rest =>
                    obtain ⟨⟨v, hL⟩, hB⟩ := hcut
                    generalize wc = u at *
                    obtain ⟨mm, ee, HMY, HMN⟩ : ∃ mm ee : Int, Hid (n ≤ 8388608 → mm = (abvN (2 * n - 1) : Nat) ∧ ee = 0) ∧ Hid (¬ n ≤ 8388608 → mm = 0 ∧ ee = 3) := by
                      by_cases hb : n ≤ 8388608
                      · exact ⟨_, 0, Lib.hid (fun _ => ⟨rfl, rfl⟩), Lib.hid (fun h => absurd hb h)⟩
                      · exact ⟨0, 3, Lib.hid (fun h => absurd h hb), Lib.hid (fun _ => ⟨rfl, rfl⟩)⟩
                    go_upto_region 14 with fail
                    go_cut [5, 6] (fun x y wx => x = .int .i64 mm ∧ y = .int .i64 ee ∧ St W ([] ++ o1 ++ o2 ++ o3 ++ p4 ++ p5 ++ o6) wx)
                    case first =>
                      have HL := Lib.hid hL
                      have HBB := Lib.hid hB
                      clear hL hB
                      by_cases hb : n ≤ 8388608
                      · have CLb := Lib.hid (fun w => CL.out w hb)
                        obtain ⟨e1, e2⟩ := HMY.out hb
                        have E1 := Lib.hid e1
                        have E2 := Lib.hid e2
                        clear e1 e2
                        go_wp2_with fail
                        refine (CLb.out _).mono ?_
                        rintro e uq ⟨m, rfl, hm, rfl⟩
                        have EM := Lib.hid (isAbv_uniqb hm ABI.out)
                        clear hm
                        (try go_wp2_with fail)
                        go_meet
                        case rel => exact ⟨by rw [E1.out, EM.out], by rw [E2.out], ⟨_, HL.out⟩, HBB.out⟩
                      · have CNb := Lib.hid (fun w => CN.out w (by omega))
                        obtain ⟨e1, e2⟩ := HMN.out hb
                        have E1 := Lib.hid e1
                        have E2 := Lib.hid e2
                        clear e1 e2
                        go_wp2_with fail
                        refine (CNb.out _).mono ?_
                        rintro e uq ⟨rfl, rfl⟩
                        (try go_wp2_with fail)
                        go_meet
                        case rel => exact ⟨by rw [E1.out], by rw [E2.out], ⟨_, HL.out⟩, HBB.out⟩
                    case rest =>
                      obtain ⟨rfl, rfl, ⟨v, hL⟩, hB⟩ := hcut
                      generalize wc = u at *
                      go_upto_region 15 with fail
                      go_cut [70] (fun x wx => x = .bool (decide (2 ≤ n ∧ n ≤ 8388608)) ∧ St W ([] ++ o1 ++ o2 ++ o3 ++ p4 ++ p5 ++ o6) wx)
                      case first =>
                        by_cases h2n : 2 ≤ n
                        · have d2 : decide ((2 : Int) ≤ (n : Int)) = true := decide_eq_true (by omega)
                          have HL := Lib.hid hL
                          have HBB := Lib.hid hB
                          clear hL hB
                          by_cases hb : n ≤ 8388608
                          · have E := Lib.hid (show decide (2 ≤ n ∧ n ≤ 8388608) = true from decide_eq_true ⟨h2n, hb⟩)
                            have de : (ee == 0) = true := by rw [(HMY.out hb).2]; rfl
                            (try go_wp2_with fail)
                            go_meet
                            case rel => exact ⟨by rw [E.out], ⟨_, HL.out⟩, HBB.out⟩
                          · have E := Lib.hid (show decide (2 ≤ n ∧ n ≤ 8388608) = false from decide_eq_false (by omega))
                            have de : (ee == 0) = false := by rw [(HMN.out hb).2]; rfl
                            (try go_wp2_with fail)
                            go_meet
                            case rel => exact ⟨by rw [E.out], ⟨_, HL.out⟩, HBB.out⟩
                        · have d2 : decide ((2 : Int) ≤ (n : Int)) = false := decide_eq_false (by omega)
                          have HL := Lib.hid hL
                          have HBB := Lib.hid hB
                          clear hL hB
                          have E := Lib.hid (show decide (2 ≤ n ∧ n ≤ 8388608) = false from decide_eq_false (by omega))
                          (try go_wp2_with fail)
                          go_meet
                          case rel => exact ⟨by rw [E.out], ⟨_, HL.out⟩, HBB.out⟩
                      case rest =>
                        obtain ⟨rfl, ⟨v, hL⟩, hB⟩ := hcut
                        generalize wc = u at *
                        go_upto_if 70 with fail
                        go_cut [] (fun wx => St W (([] ++ o1 ++ o2 ++ o3 ++ p4 ++ p5 ++ o6) ++ o7) wx)
                        case first =>
                          by_cases hc : 2 ≤ n ∧ n ≤ 8388608
                          · have dc : decide (2 ≤ n ∧ n ≤ 8388608) = true := decide_eq_true hc
                            have IP7 := Lib.hid (fun w => IP.out (abvN (2 * n - 1)) (abv_pos ABI.out) (abv_le ABI.out (by omega)) w)
                            have HD := Lib.hid (show oneT 7 n (abvN (2 * n - 1)) = ⟨7, n, (plT 16777216 (abvN (2 * n - 1))).fo .nil⟩ from rfl)
                            generalize plT 16777216 (abvN (2 * n - 1)) = D1 at IP7 HD
                            rw [← (HMY.out hc.2).1] at IP7
                            have HL := Lib.hid hL
                            have HBB := Lib.hid hB
                            clear hL hB
                            (try rw [dc])
                            go_wp2_with fail
                            have hL := HL.out
                            have hB := HBB.out
                            clear HL HBB
                            refine (IP7.out _).mono ?_
                            rintro e ux ⟨v1, rfl, hk1, bx⟩
                            obtain ⟨p1, m1, c1', rfl⟩ := hk1.form
                            have own := hL.2.ownLt
                            have hlX := hL.lt
                            replace hL := hL.below bx
                            replace hB := hB.trans (bx.mono hB.size)
                            obtain ⟨u6, hu6⟩ : ∃ u6, ux.alloc (.cells #[.int .i64 D1.k, .int .i64 D1.n, .slice p1 m1 c1'] 24) = u6 := ⟨_, rfl⟩
                            have hn6 := heap_alloc_new ux (.cells #[.int .i64 D1.k, .int .i64 D1.n, .slice p1 m1 c1'] 24)
                            have hs6 := World.size_alloc ux (.cells #[.int .i64 D1.k, .int .i64 D1.n, .slice p1 m1 c1'] 24)
                            have b6 : Below ux.heap.size ux u6 := by rw [← hu6]; exact (Below.refl _ _).alloc (Nat.le_refl _) _
                            rw [hu6] at hn6 hs6
                            have hsx := bx.size
                            have HK := Lib.hid (show KidsS u6 (fun b => b < u6.heap.size ∧ u.heap.size ≤ b) (.slice (some ⟨ux.heap.size, 0, none⟩) 1 1) (D1.fo .nil) from kidsS_one hn6 ⟨by omega, by omega⟩ (hk1.carry (fun b hb => ⟨⟨Nat.lt_of_lt_of_le hb.1 b6.size, hb.2⟩, b6.block b hb.1⟩)) (Nat.le_refl _) (by unfold maxLen; omega))
                            replace hL := hL.below b6
                            replace hB := hB.trans (b6.mono hB.size)
                            have HU6 := Lib.hid hu6
                            have OWN := Lib.hid own
                            have hu6s : u.heap.size ≤ u6.heap.size := by omega
                            clear hu6 hn6 hs6 b6 hsx bx hk1 own
                            have HL := Lib.hid hL
                            have HBB := Lib.hid hB
                            clear hL hB
                            go_wp2_with fail
                            rw [HU6.out]
                            clear HU6
                            generalize ux.heap.size = g6 at *
                            generalize hus : u.heap.size = us at *
                            refine (OF.out 7 _ _ _ _).mono ?_
                            rintro e ux' ⟨rfl, bx⟩
                            have HK2 := Lib.hid (HK.out.carry (w' := ux') (S' := offB ux' 0 (W.heap.size + 1) v) (fun b hb => ⟨⟨Nat.lt_of_lt_of_le hb.1 bx.size, fun e => by have := OWN.out b e; omega, .inr (by omega)⟩, bx.block b hb.1⟩))
                            have hL := HL.out
                            have hB := HBB.out
                            clear HL HBB
                            clear hus OWN HK hu6s
                            replace hL := hL.below bx
                            replace hB := hB.trans (bx.mono hB.size)
                            clear bx
                            generalize ux' = u at *
                            obtain ⟨ub, hub⟩ : ∃ z, u.alloc (.cells #[.int .i64 7, .int .i64 (n : Int), (.slice (some ⟨g6, 0, none⟩) 1 1)] 24) = z := ⟨_, rfl⟩
                            have hn := heap_alloc_new u (.cells #[.int .i64 7, .int .i64 (n : Int), (.slice (some ⟨g6, 0, none⟩) 1 1)] 24)
                            rw [hub] at hn
                            have bb : Below u.heap.size u ub := by rw [← hub]; exact (Below.refl _ _).alloc (Nat.le_refl _) _
                            have hLb := hL.below bb
                            have own := hL.2.ownLt
                            have hsb := bb.size
                            have HA := Lib.hid (AD.out _ _ [⟨7, n, D1.fo .nil⟩] (some ⟨u.heap.size, 0, none⟩) 1 1 ub hLb rfl (by simp only [List.length_append, List.length_nil]; omega) (.inr ⟨_, [.int .i64 7, .int .i64 (n : Int), (.slice (some ⟨g6, 0, none⟩) 1 1)], rfl, ⟨_, [], rfl, HK2.out.carry (fun b hb => ⟨⟨Nat.lt_of_lt_of_le hb.1 hsb, hb.2⟩, bb.block b hb.1⟩), rfl⟩, cells3 hn⟩))
                            replace hB := hB.trans (bb.mono hB.size)
                            have HB := Lib.hid hB
                            have HUB := Lib.hid hub
                            clear hub hn bb hLb own hsb hL hB
                            go_wp2_with fail
                            rw [HUB.out]
                            clear HUB
                            refine HA.out.mono ?_
                            rintro e uy ⟨⟨z, rfl⟩, ⟨vy, hLy⟩, by_⟩
                            have hBy := HB.out.trans by_
                            clear HA HB by_
                            generalize vy = v at *
                            (try go_wp2_with fail)
                            go_meet
                            case rel => exact ⟨⟨_, by rw [O7Y.out hc, HD.out]; exact hLy⟩, hBy⟩
                          · have dc : decide (2 ≤ n ∧ n ≤ 8388608) = false := decide_eq_false hc
                            have HL := Lib.hid hL
                            have HBB := Lib.hid hB
                            clear hL hB
                            (try rw [dc])
                            (try go_wp2_with fail)
                            go_meet
                            case rel => exact ⟨⟨_, by rw [O7N.out hc, List.append_nil]; exact HL.out⟩, HBB.out⟩
                        case rest =>
                          obtain ⟨⟨v, hL⟩, hB⟩ := hcut
                          generalize wc = u at *
                          have x0 := (box_cells hL.1).1
                          have HL := Lib.hid hL
                          have HBB := Lib.hid hB
                          clear hL hB
                          go_wp2_with fail
                          go_ret2
                          exact ⟨v, rfl, by have := HL.out.2; simpa only [List.nil_append] using this, HBB.out⟩
end Go.Proofs.Ytfjioflggkmhcaa
