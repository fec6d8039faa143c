/- perm.Sign. -/
import Derived.Test.YtblohakflpedoaaCyw
namespace Go.Proofs.Ytblohakflpedoaa
open Go.ChangeShapes Go.WideShapes Go.ChangeAt Go.RowKit
set_option linter.unusedVariables false
set_option linter.unusedSimpArgs false
set_option maxRecDepth 100000 in
set_option maxHeartbeats 4000000 in
theorem c_cycles_bad (p : Option Addr) (n c : Nat) (ps : List Int) (W : World) (hr : RowI W p n ps) (hg : rgt ps n n = false) :
    Calls Try.prog 5 #[.slice p n c] W fun e w' => e = .returned (.tuple #[.slice none 0 0, .int .i64 2]) ∧ Below W.heap.size W w' := by
  have CR := Lib.hid (perm_right p n c ps W hr)
  rw [hg] at CR
  clear hr hg
  go_enter Try.func5, Try.ntmps5
  go_wp2_with fail
  refine (CR.out).mono ?_
  rintro e x1 ⟨rfl, hb1⟩
  have HB1 := Lib.hid hb1
  clear hb1
  go_wp2_with fail
  go_ret2
  exact ⟨rfl, HB1.out⟩
set_option maxRecDepth 100000 in
set_option maxHeartbeats 4000000 in
theorem c_sign_bad (p : Option Addr) (n c : Nat) (ps : List Int) (W : World) (hr : RowI W p n ps) (hg : rgt ps n n = false) :
    Calls Try.prog 7 #[.slice p n c] W fun e w' => e = .returned (.int .i64 0) ∧ Below W.heap.size W w' := by
  have CC := Lib.hid (c_cycles_bad p n c ps W hr hg)
  clear hr hg
  go_enter Try.func7, Try.ntmps7
  go_wp2_with fail
  refine (CC.out).mono ?_
  rintro e x1 ⟨rfl, hb1⟩
  have HB1 := Lib.hid hb1
  clear hb1
  go_wp2_with fail
  go_ret
  exact ⟨rfl, HB1.out⟩
theorem own_formX {w : World} {B : Nat} {E : TypeId} {sz : Nat} {v : Value} {n : Nat} {xs : List Value} (h : w.ownsRow B E sz v n xs) : (v = .slice none 0 0 ∧ n = 0) ∨ ∃ g cap, v = .slice (some ⟨g, 0, none⟩) n cap := by
  obtain ⟨-, h | ⟨g, cap, cur, e, -⟩⟩ := h
  · exact .inl h
  · exact .inr ⟨g, cap, e⟩
theorem own_cellX {w : World} {B : Nat} {E : TypeId} {v : Value} {xs : List Value} (h : w.ownsRow B E 1 v xs.length xs) : ∃ q cap, v = .slice q xs.length cap ∧ ∀ a u, xs[a]? = some u → ∃ g, q = some ⟨g, 0, none⟩ ∧ g < w.heap.size ∧ w.cell? ⟨g, a, none⟩ = some u := by
  obtain ⟨hl, h | ⟨g, cap, cur, rfl, hb, hh, hn, hm, hs, ht⟩⟩ := h
  · obtain ⟨rfl, hz⟩ := h
    have : xs = [] := List.length_eq_zero_iff.1 hz
    subst this
    exact ⟨none, 0, rfl, fun a u h => by simp at h⟩
  · refine ⟨_, cap, rfl, fun a u hu => ⟨g, rfl, g_ltY hh, ?_⟩⟩
    have la := (List.getElem?_eq_some_iff.1 hu).1
    rw [cell_of_row w g a _ _ _ hh]
    have : cur[a]? = xs[a]? := by
      rw [← ht, List.getElem?_take, if_pos (by omega)]
      simp
    rw [this, hu]
def sgnP (ls : List (List Nat)) (a : Nat) : Int := 1 - 2 * ((chgs (ls.take a) % 2 : Nat) : Int)
theorem sgnP_succ {ls : List (List Nat)} {a : Nat} {r : List Nat} (h : ls[a]? = some r) (hne : r ≠ []) : sgnP ls (a + 1) = if r.length % 2 = 0 then - sgnP ls a else sgnP ls a := by
  have hl := List.length_pos_iff.2 hne
  unfold sgnP
  rw [List.take_add_one, h, show (some r).toList = [r] from rfl, chgs_snoc]
  split <;> omega
set_option maxRecDepth 100000 in
set_option maxHeartbeats 8000000 in
theorem c_sign (p : Option Addr) (n c : Nat) (ps : List Int) (W : World) (hr : RowI W p n ps) (hn : n ≤ 1000) (hg : rgt ps n n = true) (pf : Nat → Nat) (hp0 : ∀ x, x < n → ps[x]? = some (pf x : Int)) (hp1 : ∀ x, x < n → pf x < n) (hinj : ∀ x y, x < n → y < n → pf x = pf y → x = y) :
    Calls Try.prog 7 #[.slice p n c] W fun e w' => e = .returned (.int .i64 (1 - 2 * ((invs (fun x => (pf x : Int)) n % 2 : Nat) : Int))) ∧ Below W.heap.size W w' := by
  have CC := Lib.hid (c_cycles p n c ps W hr hn hg pf hp0 hp1 hinj)
  have HIJ := Lib.hid (show apt (fun x => (pf x : Int)) n from fun x y hxy hy e => by
    have e2 : (pf x : Int) = (pf y : Int) := e
    have := hinj x y (by omega) hy (by omega)
    omega)
  clear hr hg hp0 hp1 hinj
  go_enter Try.func7, Try.ntmps7
  go_wp2_with fail
  refine (CC.out).mono ?_
  rintro e x1 ⟨B, l, lv, vals, ls, rfl, hci⟩
  have HCI := Lib.hid hci
  have HS := Lib.hid (hci.rd.sign HIJ.out)
  clear hci
  obtain ⟨q, cap, hle, hq⟩ := own_cellX HCI.out.l
  subst hle
  have HQ := Lib.hid hq
  have HLN := Lib.hid HCI.out.rw'.1
  have HCN := Lib.hid (show vals.length ≤ 1000 by rw [HLN.out]; exact Nat.le_trans HCI.out.rd.count hn)
  clear hq hn
  go_wp2_with fail
  go_loopw [5, 17] (fun s x wr => ∃ a : Nat, s = .int .i64 (sgnP ls a) ∧ x = .int .i64 a ∧ Hid (a ≤ vals.length) ∧ Hid (Below x1.heap.size x1 wr)) (fun _ x _ => vals.length - (intOf x).toNat)
  case atStart => exact ⟨0, by simp [sgnP, chgs], rfl, Lib.hid (Nat.zero_le _), Lib.hid (Below.refl _ _)⟩
  case round =>
    obtain ⟨a, rfl, rfl, HA, HB⟩ := hrel
    obtain ⟨x2, rfl⟩ : ∃ w, w = wr := ⟨_, rfl⟩
    by_cases ha : a < vals.length
    · obtain ⟨u, hu⟩ : ∃ u, vals[a]? = some u := ⟨_, List.getElem?_eq_getElem ha⟩
      obtain ⟨r, hr⟩ : ∃ r, ls[a]? = some r := ⟨_, List.getElem?_eq_getElem (by rw [← HLN.out]; exact ha)⟩
      obtain ⟨g, rfl, hgl, hc⟩ := HQ.out a u hu
      obtain ⟨ua, uc, rfl, -, -, -⟩ := (HCI.out.rw'.2 a u r hu hr).shape
      have hne := HCI.out.rd.ne r (List.mem_of_getElem? hr)
      have hil : (ints' r).length = r.length := by unfold ints'; rw [List.length_map]
      rw [hil] at hc
      have hc2 : x2.cell? ⟨g, a, none⟩ = some (.slice ua r.length uc) := (HB.out.cell (p := ⟨g, a, none⟩) hgl).trans hc
      have HAN := Lib.hid ha
      have HST := Lib.hid (sgnP_succ hr hne)
      have haa : (a : Int) < (vals.length : Int) := by omega
      have ha0 : (0 : Int) ≤ (a : Int) := by omega
      have WR := Lib.hid (show wrap64 ((a : Int) + 1) = ((a + 1 : Nat) : Int) by have := HCN.out; simp only [wrap64]; omega)
      have hsb : -1 ≤ sgnP ls a ∧ sgnP ls a ≤ 1 := by unfold sgnP; omega
      obtain ⟨sg, hsg⟩ : ∃ sg, sgnP ls a = sg := ⟨_, rfl⟩
      rw [hsg] at hsb
      have HSG := Lib.hid hsg
      rw [hsg]
      have WN := Lib.hid (show wrap64 (-sg) = -sg by simp only [wrap64]; omega)
      have hrm : (r.length : Int).tmod 2 = ((r.length % 2 : Nat) : Int) := by rw [show (2 : Int) = ((2 : Nat) : Int) from rfl, ← Int.ofNat_tmod]
      clear hc hu hr hne hil hsg hsb ha
      by_cases he : r.length % 2 = 0
      · have hm : (((r.length : Nat) : Int) % 2 == 0) = true := by simp only [beq_iff_eq]; omega
        have HE := Lib.hid he
        clear he hrm
        go_wp2_with fail
        go_roundw
        case rel => exact ⟨a + 1, by rw [HST.out, if_pos HE.out, HSG.out]; first | rw [WN.out] | rfl, by first | rw [WR.out] | simp, Lib.hid HAN.out, HB⟩
        case measure => first | exact cy_meas' vals.length a HAN.out | (rw [WR.out]; exact cy_meas vals.length a HAN.out)
      · have hm : (((r.length : Nat) : Int) % 2 == 0) = false := by simp only [beq_eq_false_iff_ne, ne_eq]; omega
        have HE := Lib.hid he
        clear he hrm
        go_wp2_with fail
        go_roundw
        case rel => exact ⟨a + 1, by rw [HST.out, if_neg HE.out, HSG.out], by first | rw [WR.out] | simp, Lib.hid HAN.out, HB⟩
        case measure => first | exact cy_meas' vals.length a HAN.out | (rw [WR.out]; exact cy_meas vals.length a HAN.out)
    · have h9 : a = vals.length := by have := HA.out; omega
      subst h9
      have haa : ¬ (vals.length : Int) < (vals.length : Int) := by omega
      have HT := Lib.hid (show sgnP ls vals.length = 1 - 2 * ((invs (fun x => (pf x : Int)) n % 2 : Nat) : Int) by unfold sgnP; rw [HLN.out, List.take_length, HS.out])
      go_wp2_with fail
      go_ret
      exact ⟨by show Ending.returned (.int .i64 (sgnP ls vals.length)) = _; rw [HT.out]; first | done | rfl | simp, HCI.out.be.trans (HB.out.mono HCI.out.be.size)⟩
end Go.Proofs.Ytblohakflpedoaa
