/- Reference 15's Has and Once. -/
import Derived.Test.YticljddfdeocbaaAppn
import Derived.Test.YticljddfdeocbaaNsame
namespace Go.Proofs.Yticljddfdeocbaa
open Go.ChangeShapes Go.WideShapes Go.ChangeAt Go.RowKit
set_option linter.unusedVariables false
set_option maxRecDepth 100000 in
set_option maxHeartbeats 2000000 in
theorem r15_has (l : List Nam) (x : Nam) (p : Option Addr) (c limp : Nat) (W : World) (hp : NRow W limp p l) (hlp : limp ≤ W.heap.size) (hlen : l.length ≤ 4194304) :
    Calls Try.prog 53 #[.slice p l.length c, .agg #[.int .i64 x.k, .int .i64 x.n, .int .i64 x.m, .int .i64 x.d]] W fun e w' => e = .returned (.bool (decide (x ∈ l))) ∧ Below W.heap.size W w' := by
  obtain ⟨w0, hw0, c0, c1, c2, c3, hB, hsz⟩ := box4n W x.k x.n x.m x.d 54
  obtain ⟨m, hm⟩ : ∃ m, l.length = m := ⟨_, rfl⟩
  have HM := Lib.hid hm
  have HP := Lib.hid (hp.carry (hB.mono hlp))
  rw [hm] at hlen ⊢
  have EY := Lib.hid (fun (i : Nat) (hi : i < l.length) (h : l[i] = x) => (show decide (x ∈ l) = true from decide_eq_true (h ▸ List.getElem_mem hi)))
  have EN := Lib.hid (fun (h : ∀ y ∈ l.take m, y ≠ x) => (show decide (x ∈ l) = false from decide_eq_false (fun hx => h x (by rwa [List.take_of_length_le (by omega)]) rfl)))
  have TS := Lib.hid (fun (i : Nat) (hi : i < l.length) (h : ∀ y ∈ l.take i, y ≠ x) (e : l[i] ≠ x) => (show ∀ y ∈ l.take (i + 1), y ≠ x from fun y hy => by
    rw [List.take_succ_eq_append_getElem hi, List.mem_append, List.mem_singleton] at hy
    rcases hy with hy | rfl
    · exact h y hy
    · exact e))
  have x0 : W.heap.size < w0.heap.size := by omega
  have QE := Lib.hid (fun y => eq_names x y)
  generalize decide (x ∈ l) = z at *
  clear hm hp
  go_enter Try.func53, Try.ntmps53
  go_wp2_with fail
  rw [← hw0]
  clear hw0
  go_loopw [5] (fun y wr => ∃ i : Nat, i ≤ m ∧ y = .int .i64 i ∧ Hid (∀ y ∈ l.take i, y ≠ x) ∧ Hid (Below w0.heap.size w0 wr)) (fun y _ => m - (intOf y).toNat)
  case atStart => exact ⟨0, Nat.zero_le _, rfl, Lib.hid (by simp), Lib.hid (Below.refl _ _)⟩
  case round =>
    obtain ⟨i, hi, rfl, HT, HB⟩ := hrel
    have d0 := (HB.out.cell (p := ⟨W.heap.size, 0, none⟩) x0).trans c0
    have d1 := (HB.out.cell (p := ⟨W.heap.size, 1, none⟩) x0).trans c1
    have d2 := (HB.out.cell (p := ⟨W.heap.size, 2, none⟩) x0).trans c2
    have d3 := (HB.out.cell (p := ⟨W.heap.size, 3, none⟩) x0).trans c3
    by_cases hlt : i < m
    · have hi1 : i < l.length := by rw [HM.out]; exact hlt
      obtain ⟨b, o, rfl, hb, g0, g1, g2, g3⟩ := HP.out.get hi1
      have g0 := (HB.out.cell (p := ⟨b, _, none⟩) (by show b < _; omega)).trans g0
      have g1 := (HB.out.cell (p := ⟨b, _, none⟩) (by show b < _; omega)).trans g1
      have g2 := (HB.out.cell (p := ⟨b, _, none⟩) (by show b < _; omega)).trans g2
      have g3 := (HB.out.cell (p := ⟨b, _, none⟩) (by show b < _; omega)).trans g3
      have dd : decide ((i : Int) < (m : Int)) = true := decide_eq_true (by omega)
      have qe := QE.out l[i]
      have EY1 := Lib.hid (EY.out i hi1)
      have TS1 := Lib.hid (TS.out i hi1 HT.out)
      clear c0 c1 c2 c3
      generalize l[i] = X at *
      by_cases hxy : X = x
      · rw [decide_eq_true hxy] at qe
        have HE := Lib.hid (EY1.out hxy)
        clear hxy TS1 EY1
        go_wp2_with fail
        go_quiet (fail)
        go_wp2_with fail
        go_ret
        exact ⟨ret_bool HE.out.symm, hB.trans ((below_drewN HB.out _).mono hB.size)⟩
      · rw [decide_eq_false hxy] at qe
        have HT1 := Lib.hid (TS1.out hxy)
        clear hxy TS1 EY1
        go_wp2_with fail
        go_quiet (fail)
        go_wp2_with fail
        go_roundw
        case rel => exact ⟨i + 1, by omega, by go_num, HT1, Lib.hid (below_drewN HB.out _)⟩
        case measure => (first | (simp [intOf]; done) | (simp [intOf]; omega) | (simp only [intOf]; omega))
    · obtain rfl : i = m := by omega
      have dd : decide ((i : Int) < (i : Int)) = false := decide_eq_false (by omega)
      have HE := Lib.hid (EN.out HT.out)
      go_wp2_with fail
      go_ret
      exact ⟨ret_bool HE.out.symm, hB.trans (HB.out.mono hB.size)⟩
set_option maxRecDepth 100000 in
set_option maxHeartbeats 2000000 in
theorem r15_once (l : List Nam) (p : Option Addr) (c limp : Nat) (W : World) (hp : NRow W limp p l) (hlp : limp ≤ W.heap.size) (hlen : l.length ≤ 4194304) :
    Calls Try.prog 52 #[.slice p l.length c] W fun e w' => ∃ v, e = .returned v ∧ OwnNm w' W.heap.size v (once l) ∧ Below W.heap.size W w' := by
  obtain ⟨m, hm⟩ : ∃ m, l.length = m := ⟨_, rfl⟩
  have HM := Lib.hid hm
  have HP := Lib.hid hp
  rw [hm] at hlen ⊢
  have HA := Lib.hid (fun (l2 : List Nam) (x : Nam) p c limp w h1 h2 h3 => r15_has l2 x p c limp w h1 h2 h3)
  have O0 := Lib.hid (show OwnNm W W.heap.size (.slice none 0 0) (once (l.take 0)) from World.ownsRow_nil W W.heap.size 54 4)
  have OS := Lib.hid (fun (i : Nat) (hi : i < l.length) => (show once (l.take (i + 1)) = if l[i] ∈ once (l.take i) then once (l.take i) else once (l.take i) ++ [l[i]] by rw [List.take_succ_eq_append_getElem hi, once_snoc]))
  have OE := Lib.hid (show once (l.take m) = once l by rw [List.take_of_length_le (by omega)])
  have OL := Lib.hid (fun i => (show (once (l.take i)).length ≤ 4194304 from Nat.le_trans (once_len _) (by rw [List.length_take]; omega)))
  clear hm hp
  go_enter Try.func52, Try.ntmps52
  go_wp2_with fail
  go_loopw [3, 4] (fun x y wr => ∃ i : Nat, i ≤ m ∧ y = .int .i64 i ∧ Hid (OwnNm wr W.heap.size x (once (l.take i))) ∧ Hid (Below W.heap.size W wr)) (fun _ y _ => m - (intOf y).toNat)
  case atStart => exact ⟨0, Nat.zero_le _, rfl, O0, Lib.hid (Below.refl _ _)⟩
  case round =>
    clear O0
    obtain ⟨i, hi, rfl, HO, HB⟩ := hrel
    have hs := HB.out.size
    by_cases hlt : i < m
    · have hi1 : i < l.length := by rw [HM.out]; exact hlt
      obtain ⟨b, o, rfl, hb, g0, g1, g2, g3⟩ := HP.out.get hi1
      have g0 := (HB.out.cell (p := ⟨b, _, none⟩) (by show b < _; omega)).trans g0
      have g1 := (HB.out.cell (p := ⟨b, _, none⟩) (by show b < _; omega)).trans g1
      have g2 := (HB.out.cell (p := ⟨b, _, none⟩) (by show b < _; omega)).trans g2
      have g3 := (HB.out.cell (p := ⟨b, _, none⟩) (by show b < _; omega)).trans g3
      have hbl : b < wr.heap.size := by omega
      have dd : decide ((i : Int) < (m : Int)) = true := decide_eq_true (by omega)
      obtain ⟨u, cu, rfl, hru, _, _⟩ := HO.out.row
      have OS1 := OS.out i hi1
      have CI := Lib.hid (HA.out (once (l.take i)) l[i] u cu wr.heap.size wr hru (Nat.le_refl _) (OL.out i))
      have OL1 := OL.out i
      clear hru
      generalize hX : l[i] = X at *
      by_cases hin : X ∈ once (l.take i)
      · rw [if_pos hin] at OS1
        rw [decide_eq_true hin] at CI
        have OS2 := Lib.hid OS1
        clear OS1 hin hX OL1
        generalize once (l.take i) = acc at *
        go_wp2_with fail
        refine CI.out.mono ?_
        rintro e w4 ⟨rfl, b4⟩
        have HO4 := Lib.hid (HO.out.below b4)
        have HB4 := Lib.hid (HB.out.trans (b4.mono hs))
        clear b4 g0 g1 g2 g3
        go_wp2_with fail
        go_roundw
        case rel => exact ⟨i + 1, by omega, by go_num, Lib.hid (by rw [OS2.out]; exact HO4.out), HB4⟩
        case measure => (first | (simp [intOf]; done) | (simp [intOf]; omega) | (simp only [intOf]; omega))
      · rw [if_neg hin] at OS1
        rw [decide_eq_false hin] at CI
        have OS2 := Lib.hid OS1
        clear OS1 hin hX
        generalize once (l.take i) = acc at *
        go_wp2_with fail
        refine CI.out.mono ?_
        rintro e w4 ⟨rfl, b4⟩
        have HO4 := Lib.hid (HO.out.below b4)
        have HB4 := Lib.hid (HB.out.trans (b4.mono hs))
        have k0 := (b4.cell (p := ⟨b, _, none⟩) hbl).trans g0
        have k1 := (b4.cell (p := ⟨b, _, none⟩) hbl).trans g1
        have k2 := (b4.cell (p := ⟨b, _, none⟩) hbl).trans g2
        have k3 := (b4.cell (p := ⟨b, _, none⟩) hbl).trans g3
        have hs4 := HB4.out.size
        clear b4 g0 g1 g2 g3
        go_wp2_with (at_builtin; refine append_nm rfl _ _ rfl rfl HO4.out rfl hs4 (by omega) ?_; intro v' w5 hO' hb' _ _; have HO5 := Lib.hid hO'; have HB5 := Lib.hid (HB4.out.trans hb'); clear hO' hb')
        go_roundw
        case rel => exact ⟨i + 1, by omega, by go_num, Lib.hid (by rw [OS2.out]; exact HO5.out), HB5⟩
        case measure => (first | (simp [intOf]; done) | (simp [intOf]; omega) | (simp only [intOf]; omega))
    · obtain rfl : i = m := by omega
      have dd : decide ((i : Int) < (i : Int)) = false := decide_eq_false (by omega)
      have HO2 := HO.out
      rw [OE.out] at HO2
      have HO3 := Lib.hid HO2
      clear HO2
      go_wp2_with fail
      go_ret
      exact ⟨_, rfl, HO3.out, HB.out⟩
end Go.Proofs.Yticljddfdeocbaa
