/- Put together by program (merge2.py): Sbl Ownt Lay Lv. -/
import Derived.Test.YtafmiilkdhdngaaGreatDoorD11
import Derived.Test.YtafmiilkdhdngaaGreatDoorR6
/- slices' stable sorting of entries in place: blocks of 20 by insertion, then symMerge, block by block. -/
namespace Go.Proofs.YtafmiilkdhdngaaGreatDoor
open Go.ChangeShapes Go.WideShapes Go.ChangeAt Go.RowKit
set_option linter.unusedVariables false
set_option linter.unusedSimpArgs false
attribute [local go_sem ↓] Go.wp_at_zero Go.wp_at_succ
/-- The first na elements are done in blocks of 20. -/
def St1 (w : World) (g : Nat) (T : TypeId) (l : List E5) (na : Nat) : Prop := ∃ D X R, l = D ++ R ∧ D.length = na ∧ X.length = na ∧ Srt.Dn elt 20 D X ∧ RowE w g T (X ++ R)
/-- The first na elements are done in blocks of 2 s, the others in blocks of s. -/
def St2 (s : Nat) (w : World) (g : Nat) (T : TypeId) (l : List E5) (na : Nat) : Prop := ∃ D X R, l = D ++ R ∧ D.length = na ∧ X.length = na ∧ Srt.Dn elt (2 * s) D X ∧ RowE w g T (X ++ Srt.bl elt s R)
theorem dn_mem {s : Nat} {D X : List E5} (h : Srt.Dn elt s D X) {z : E5} (hz : z ∈ X) : z ∈ D := by
  have := h []
  rw [Srt.bl_nil, List.append_nil, List.append_nil] at this
  exact Srt.mem_bl s D (this ▸ hz)
theorem dn_eq {s : Nat} {D X : List E5} (h : Srt.Dn elt s D X) (R : List E5) : Srt.bl elt s (D ++ R) = X ++ Srt.bl elt s R := h R
section
variable {B g N c : Nat} {T : TypeId} {l : List E5} {W : World}
theorem st1_step (hS : Srtr W B) (hne : B ≠ g) (hl : l.length = N) (hsm : N ≤ 1000000) (hc : N ≤ c ∧ c ≤ maxLen) (hform : Slv l) {w : World} (hB : But W w g) {na : Nat} (h : St1 w g T l na) (hn : na + 20 ≤ N) :
    Calls Tryz.prog 98 #[.slice (some ⟨g, 0, none⟩) N c, .int .i64 na, .int .i64 ((na + 20 : Nat) : Int), .func (.func 62) #[] #[.pointer (some ⟨B, 0, none⟩)]] w fun e w' => e = .returned (.tuple #[]) ∧ But w w' g ∧ St1 w' g T l (na + 20) := by
  obtain ⟨D, X, R, rfl, hD, hX, hdn, hr⟩ := h
  rw [List.length_append] at hl
  have hR : R = R.take 20 ++ R.drop 20 := (List.take_append_drop _ _).symm
  have l20 : (R.take 20).length = 20 := by rw [List.length_take]; omega
  have hf : ∀ e ∈ X ++ (R.take 20 ++ R.drop 20), ∃ a n c, e.v = .slice a n c := fun e he => hform e (by
    rw [← hR] at he
    rcases List.mem_append.1 he with he | he
    · exact List.mem_append_left _ (dn_mem hdn he)
    · exact List.mem_append_right _ he)
  have := ins_sort g B N c T X (R.take 20) (R.drop 20) w (hS.but hB hne) hne (by rw [l20, List.length_drop]; omega) hsm hc hf (by rw [← hR]; exact hr)
  rw [l20, hX] at this
  refine this.mono ?_
  rintro e w' ⟨rfl, hb, hr'⟩
  refine ⟨rfl, hb, D ++ R.take 20, X ++ sortE (R.take 20), R.drop 20, by rw [List.append_assoc, ← hR], by rw [List.length_append]; omega, by rw [List.length_append, sortE_len]; omega, hdn.step (by omega) l20, by rw [List.append_assoc]; exact hr'⟩
theorem st1_last (hS : Srtr W B) (hne : B ≠ g) (hl : l.length = N) (hsm : N ≤ 1000000) (hc : N ≤ c ∧ c ≤ maxLen) (hform : Slv l) {w : World} (hB : But W w g) {na : Nat} (h : St1 w g T l na) (hn : N < na + 20) :
    Calls Tryz.prog 98 #[.slice (some ⟨g, 0, none⟩) N c, .int .i64 na, .int .i64 N, .func (.func 62) #[] #[.pointer (some ⟨B, 0, none⟩)]] w fun e w' => e = .returned (.tuple #[]) ∧ But w w' g ∧ RowE w' g T (Srt.bl elt 20 l) := by
  obtain ⟨D, X, R, rfl, hD, hX, hdn, hr⟩ := h
  rw [List.length_append] at hl
  have hf : ∀ e ∈ X ++ (R ++ []), ∃ a n c, e.v = .slice a n c := fun e he => hform e (by
    rw [List.append_nil] at he
    rcases List.mem_append.1 he with he | he
    · exact List.mem_append_left _ (dn_mem hdn he)
    · exact List.mem_append_right _ he)
  have := ins_sort g B N c T X R [] w (hS.but hB hne) hne (by simp; omega) hsm hc hf (by rw [List.append_nil]; exact hr)
  rw [hX, show na + R.length = N by omega] at this
  refine this.mono ?_
  rintro e w' ⟨rfl, hb, hr'⟩
  rw [List.append_nil] at hr'
  exact ⟨rfl, hb, by rw [dn_eq hdn, Srt.bl_small (by omega)]; exact hr'⟩
theorem slv_two {s : Nat} {D X R : List E5} (hform : Slv (D ++ R)) (hdn : Srt.Dn elt (2 * s) D X) {L : List E5} (hL : ∀ e ∈ L, e ∈ R) : Slv (X ++ L) := fun e he => hform e (by
  rcases List.mem_append.1 he with he | he
  · exact List.mem_append_left _ (dn_mem hdn he)
  · exact List.mem_append_right _ (hL e he))
theorem st2_step {s : Nat} (hs : 1 ≤ s) (hS : Srtr W B) (hne : B ≠ g) (hl : l.length = N) (hsm : N ≤ 1000000) (hc : N ≤ c ∧ c ≤ maxLen) (hform : Slv l) {w : World} (hB : But W w g) {na : Nat} (h : St2 s w g T l na) (hn : na + 2 * s ≤ N) :
    Calls Tryz.prog 99 #[.slice (some ⟨g, 0, none⟩) N c, .int .i64 na, .int .i64 ((na + s : Nat) : Int), .int .i64 ((na + 2 * s : Nat) : Int), .func (.func 62) #[] #[.pointer (some ⟨B, 0, none⟩)]] w fun e w' => e = .returned (.tuple #[]) ∧ But w w' g ∧ St2 s w' g T l (na + 2 * s) := by
  obtain ⟨D, X, R, rfl, hD, hX, hdn, hr⟩ := h
  rw [List.length_append] at hl
  have hR : R = R.take (2 * s) ++ R.drop (2 * s) := (List.take_append_drop _ _).symm
  have l2 : (R.take (2 * s)).length = 2 * s := by rw [List.length_take]; omega
  have e := Srt.bl_two (lt := elt) (R := R.take (2 * s)) (Z := R.drop (2 * s)) hs l2
  rw [← hR] at e
  rw [e] at hr
  have hf := slv_two (L := Srt.bl elt s R) hform hdn (fun e he => Srt.mem_bl s R he)
  rw [e] at hf
  have := sym_merge B _ na (na + s) (na + 2 * s) g N c T X _ _ _ w (Nat.le_refl _) (hS.but hB hne) hne hX (by rw [Srt.isort_len, List.length_take]; omega) (by rw [Srt.isort_len, Srt.isort_len, List.length_take, List.length_drop]; omega) (by rw [Srt.isort_len, List.length_take]; omega) (by rw [Srt.isort_len, List.length_drop]; omega) (by rw [Srt.isort_len, Srt.isort_len, Srt.bl_len, List.length_take, List.length_drop, List.length_drop]; omega) hsm hc hf hr (Srt.isort_up elt_ord _) (Srt.isort_up elt_ord _)
  refine this.mono ?_
  rintro e w' ⟨rfl, hb, hr'⟩
  rw [Srt.two_mrg elt_ord] at hr'
  refine ⟨rfl, hb, D ++ R.take (2 * s), X ++ Srt.isort elt (R.take (2 * s)), R.drop (2 * s), by rw [List.append_assoc, ← hR], by rw [List.length_append]; omega, by rw [List.length_append, Srt.isort_len]; omega, hdn.step (by omega) l2, by rw [List.append_assoc]; exact hr'⟩
theorem st2_last {s : Nat} (hs : 1 ≤ s) (hS : Srtr W B) (hne : B ≠ g) (hl : l.length = N) (hsm : N ≤ 1000000) (hc : N ≤ c ∧ c ≤ maxLen) (hform : Slv l) {w : World} (hB : But W w g) {na : Nat} (h : St2 s w g T l na) (hn : N < na + 2 * s) (hn2 : na + s < N) :
    Calls Tryz.prog 99 #[.slice (some ⟨g, 0, none⟩) N c, .int .i64 na, .int .i64 ((na + s : Nat) : Int), .int .i64 N, .func (.func 62) #[] #[.pointer (some ⟨B, 0, none⟩)]] w fun e w' => e = .returned (.tuple #[]) ∧ But w w' g ∧ RowE w' g T (Srt.bl elt (2 * s) l) := by
  obtain ⟨D, X, R, rfl, hD, hX, hdn, hr⟩ := h
  rw [List.length_append] at hl
  have e := Srt.bl_last (lt := elt) (R := R) hs (by omega) (by omega)
  have e' : Srt.bl elt s R = Srt.isort elt (R.take s) ++ (Srt.isort elt (R.drop s) ++ []) := by rw [List.append_nil]; exact e
  rw [e'] at hr
  have hf := slv_two (L := Srt.bl elt s R) hform hdn (fun e he => Srt.mem_bl s R he)
  rw [e'] at hf
  have := sym_merge B _ na (na + s) N g N c T X _ _ _ w (Nat.le_refl _) (hS.but hB hne) hne hX (by rw [Srt.isort_len, List.length_take]; omega) (by rw [Srt.isort_len, Srt.isort_len, List.length_take, List.length_drop]; omega) (by rw [Srt.isort_len, List.length_take]; omega) (by rw [Srt.isort_len, List.length_drop]; omega) (by rw [Srt.isort_len, Srt.isort_len, List.length_take, List.length_drop]; simp; omega) hsm hc hf hr (Srt.isort_up elt_ord _) (Srt.isort_up elt_ord _)
  refine this.mono ?_
  rintro e w' ⟨rfl, hb, hr'⟩
  rw [Srt.two_mrg elt_ord, List.append_nil] at hr'
  exact ⟨rfl, hb, by rw [dn_eq hdn, Srt.bl_small (by omega)]; exact hr'⟩
theorem st2_none {s : Nat} (hl : l.length = N) {w : World} {na : Nat} (h : St2 s w g T l na) (hn2 : N ≤ na + s) : RowE w g T (Srt.bl elt (2 * s) l) := by
  obtain ⟨D, X, R, rfl, hD, hX, hdn, hr⟩ := h
  rw [List.length_append] at hl
  rw [dn_eq hdn, Srt.bl_small (by omega)]
  rw [Srt.bl_small (by omega)] at hr
  exact hr
end
set_option maxRecDepth 100000 in
set_option maxHeartbeats 8000000 in
theorem stable (g B N c : Nat) (T : TypeId) (l : List E5) (W : World) (hS : Srtr W B) (hne : B ≠ g) (hl : l.length = N) (hsm : N ≤ 1000000) (hc : N ≤ c ∧ c ≤ maxLen) (hform : Slv l) (h : RowE W g T l) :
    Calls Tryz.prog 82 #[.slice (some ⟨g, 0, none⟩) N c, .int .i64 N, .func (.func 62) #[] #[.pointer (some ⟨B, 0, none⟩)]] W fun e w' => e = .returned (.tuple #[]) ∧ But W w' g ∧ RowE w' g T (sortE l) := by
  have A1 := Lib.hid (fun w (hB : But W w g) na (h : St1 w g T l na) hn => st1_step hS hne hl hsm hc hform hB h hn)
  have A2 := Lib.hid (fun w (hB : But W w g) na (h : St1 w g T l na) hn => st1_last hS hne hl hsm hc hform hB h hn)
  have A3 := Lib.hid (fun s hs w (hB : But W w g) na (h : St2 s w g T l na) hn => st2_step hs hS hne hl hsm hc hform hB h hn)
  have A4 := Lib.hid (fun s hs w (hB : But W w g) na (h : St2 s w g T l na) hn hn2 => st2_last hs hS hne hl hsm hc hform hB h hn hn2)
  have A5 := Lib.hid (fun s w na (h : St2 s w g T l na) hn2 => st2_none hl h hn2)
  have H0 : Hid (St1 W g T l 0) := Lib.hid ⟨[], [], l, rfl, rfl, rfl, Srt.Dn.nil _, h⟩
  have EE := Lib.hid (fun s (hs : N ≤ s) => (show Srt.bl elt s l = sortE l from Srt.bl_small (by omega)))
  have Z2 := Lib.hid (fun s w (h : RowE w g T (Srt.bl elt s l)) => (show St2 s w g T l 0 from ⟨[], [], l, rfl, rfl, rfl, Srt.Dn.nil _, h⟩))
  clear h hform hl hc hS hne
  go_enter Tryz.func82, Tryz.ntmps82
  go_wp2_with fail
  go_loopw [7, 8] (fun a b wr => ∃ na : Nat, a = .int .i64 na ∧ b = .int .i64 ((na + 20 : Nat) : Int) ∧ na ≤ N ∧ Hid (St1 wr g T l na) ∧ Hid (But W wr g)) (fun a _ _ => N - (intOf a).toNat)
  case atStart => exact ⟨0, rfl, rfl, by omega, H0, Lib.hid (But.refl _ _)⟩
  case round =>
    obtain ⟨na, rfl, rfl, hna, HR, HB⟩ := hrel
    obtain ⟨nb, hnb⟩ : ∃ nb, na + 20 = nb := ⟨_, rfl⟩
    rw [hnb]
    by_cases hlt : nb ≤ N
    case pos =>
      have d1 : decide ((nb : Int) ≤ (N : Int)) = true := decide_eq_true (by omega)
      have d1' : decide (nb ≤ N) = true := decide_eq_true hlt
      have C := A1.out wr HB.out na HR.out (by omega)
      rw [hnb] at C
      have v1 : IntKind.i64.wrap ((nb : Int) + 20) = ((nb + 20 : Nat) : Int) := by rw [IntWalk.i64_in _ (by omega)]; omega
      have HN := Lib.hid hnb
      clear hnb HR
      go_wp2_with fail
      refine C.mono ?_
      rintro e w1 ⟨rfl, hb, hr⟩
      have H1 := Lib.hid hr
      have H2 := Lib.hid (HB.out.trans hb)
      clear C hb hr
      go_wp2_with fail
      go_roundw
      case rel => exact ⟨nb, rfl, rfl, hlt, H1, H2⟩
      case measure => simp only [intOf]; have := HN.out; omega
    case neg =>
      have d1 : decide ((nb : Int) ≤ (N : Int)) = false := decide_eq_false (by omega)
      have d1' : decide (nb ≤ N) = false := decide_eq_false hlt
      have C := A2.out wr HB.out na HR.out (by omega)
      clear hnb HR
      go_wp2_with fail
      refine C.mono ?_
      rintro e w1 ⟨rfl, hb, hr⟩
      have H1 := Lib.hid hr
      have H2 := Lib.hid (HB.out.trans hb)
      clear C hb hr A1 A2 H0
      go_wp2_with fail
      go_loopw [6, 7, 8] (fun s _ _ wr => ∃ bs : Nat, s = .int .i64 bs ∧ 1 ≤ bs ∧ bs ≤ 2000000 ∧ Hid (RowE wr g T (Srt.bl elt bs l)) ∧ Hid (But W wr g)) (fun s _ _ _ => N - (intOf s).toNat)
      case atStart => exact ⟨20, rfl, by omega, by omega, H1, H2⟩
      case round =>
        obtain ⟨bs, rfl, hb1, hb2, HR, HB⟩ := hrel
        by_cases hlt : bs < N
        case neg =>
          have d2 : decide ((bs : Int) < (N : Int)) = false := decide_eq_false (by omega)
          have d2' : decide (bs < N) = false := decide_eq_false hlt
          go_wp2_with fail
          go_end0
          exact ⟨rfl, HB.out, by rw [← EE.out bs (by omega)]; exact HR.out⟩
        case pos =>
          have d2 : decide ((bs : Int) < (N : Int)) = true := decide_eq_true (by omega)
          have d2' : decide (bs < N) = true := decide_eq_true hlt
          obtain ⟨ds, hds⟩ : ∃ ds, 2 * bs = ds := ⟨_, rfl⟩
          have v2 : IntKind.i64.wrap (2 * (bs : Int)) = (ds : Int) := by rw [IntWalk.i64_in _ (by omega)]; omega
          have v2' : IntKind.i64.wrap ((bs : Int) * 2) = (ds : Int) := by rw [IntWalk.i64_in _ (by omega)]; omega
          have HZ := Lib.hid (Z2.out bs wr HR.out)
          have HDS := Lib.hid hds
          clear hds HR
          go_wp2_with fail
          go_loopw [7, 8] (fun a b wr => ∃ na : Nat, a = .int .i64 na ∧ b = .int .i64 ((na + ds : Nat) : Int) ∧ na ≤ N ∧ Hid (St2 bs wr g T l na) ∧ Hid (But W wr g)) (fun a _ _ => N - (intOf a).toNat)
          case atStart => exact ⟨0, rfl, by rw [Nat.zero_add], by omega, HZ, HB⟩
          case round =>
            obtain ⟨na, rfl, rfl, hna, HR, HBB⟩ := hrel
            obtain ⟨nb, hnb⟩ : ∃ nb, na + ds = nb := ⟨_, rfl⟩
            rw [hnb]
            obtain ⟨nm, hnm⟩ : ∃ nm, na + bs = nm := ⟨_, rfl⟩
            have v3 : IntKind.i64.wrap ((na : Int) + (bs : Int)) = (nm : Int) := by rw [IntWalk.i64_in _ (by omega)]; omega
            have hdd := HDS.out
            by_cases hlt3 : nb ≤ N
            case pos =>
              have d3 : decide ((nb : Int) ≤ (N : Int)) = true := decide_eq_true (by omega)
              have d3' : decide (nb ≤ N) = true := decide_eq_true hlt3
              have C := A3.out bs hb1 wr HBB.out na HR.out (by omega)
              rw [show na + 2 * bs = nb by omega, hnm] at C
              have v4 : IntKind.i64.wrap ((nb : Int) + (ds : Int)) = ((nb + ds : Nat) : Int) := by rw [IntWalk.i64_in _ (by omega)]; omega
              have HN := Lib.hid (show na < nb by omega)
              clear hnb hnm hdd HR
              go_wp2_with fail
              refine C.mono ?_
              rintro e w1 ⟨rfl, hb, hr⟩
              have H1 := Lib.hid hr
              have H2 := Lib.hid (HBB.out.trans hb)
              clear C hb hr
              go_wp2_with fail
              go_roundw
              case rel => exact ⟨nb, rfl, rfl, hlt3, H1, H2⟩
              case measure => simp only [intOf]; have := HN.out; omega
            case neg =>
              have d3 : decide ((nb : Int) ≤ (N : Int)) = false := decide_eq_false (by omega)
              have d3' : decide (nb ≤ N) = false := decide_eq_false hlt3
              by_cases hlt4 : nm < N
              case pos =>
                have d4 : decide ((nm : Int) < (N : Int)) = true := decide_eq_true (by omega)
                have d4' : decide (nm < N) = true := decide_eq_true hlt4
                have C := A4.out bs hb1 wr HBB.out na HR.out (by omega) (by omega)
                rw [hnm] at C
                have HDD := Lib.hid hdd
                clear hnb hnm hdd HR
                go_wp2_with fail
                refine C.mono ?_
                rintro e w1 ⟨rfl, hb, hr⟩
                have H1 : Hid (RowE w1 g T (Srt.bl elt ds l)) := Lib.hid (by rw [← HDD.out]; exact hr)
                have H2 := Lib.hid (HBB.out.trans hb)
                clear C hb hr
                go_wp2_with fail
                go_roundw
                case rel => exact ⟨ds, rfl, by have := HDD.out; omega, by have := HDD.out; omega, H1, H2⟩
                case measure => simp only [intOf]; have := HDD.out; omega
              case neg =>
                have d4 : decide ((nm : Int) < (N : Int)) = false := decide_eq_false (by omega)
                have d4' : decide (nm < N) = false := decide_eq_false hlt4
                have H1 : Hid (RowE wr g T (Srt.bl elt ds l)) := Lib.hid (by rw [← hdd]; exact A5.out bs wr na HR.out (by omega))
                have HDD := Lib.hid hdd
                clear hnb hnm hdd HR
                go_wp2_with fail
                go_roundw
                case rel => exact ⟨ds, rfl, by have := HDD.out; omega, by have := HDD.out; omega, H1, HBB⟩
                case measure => simp only [intOf]; have := HDD.out; omega
end Go.Proofs.YtafmiilkdhdngaaGreatDoor
/- Rows of nodes that grow by append, whose kids may lie in memory laid later than the row. -/
namespace Go.Proofs.YtafmiilkdhdngaaGreatDoor
open Go.ChangeShapes Go.WideShapes Go.ChangeAt Go.RowKit
set_option linter.unusedVariables false
set_option linter.unusedSimpArgs false
/-- The nodes lie from place o of block b on, in the blocks S. -/
def Fo.AtS (w : World) (S : Nat → Prop) : Fo → Nat → Nat → Prop
  | nil, _, _ => True
  | cons k n ks r, b, o => S b ∧ w.cell? ⟨b, o, none⟩ = some (.int .i64 k) ∧ w.cell? ⟨b, o + 1, none⟩ = some (.int .i64 n) ∧
    (∃ a c, w.cell? ⟨b, o + 2, none⟩ = some (.slice a ks.len c) ∧ ks.len ≤ c ∧ c ≤ maxLen ∧ (ks.len = 0 ∨ ∃ b' o', a = some ⟨b', o', none⟩ ∧ ks.AtS w S b' o')) ∧ r.AtS w S b (o + 3)
theorem Fo.AtS.of : ∀ {f : Fo} {w : World} {lim b o : Nat} (_ : f.At w lim b o), f.AtS w (fun b => b < lim) b o
  | .nil, _, _, _, _, _ => trivial
  | .cons _ _ ks r, w, lim, b, o, ⟨hb, c0, c1, ⟨a, c, c2, h1, h2, h3⟩, hr⟩ => by
    refine ⟨hb, c0, c1, ⟨a, c, c2, h1, h2, ?_⟩, Fo.AtS.of hr⟩
    rcases h3 with h3 | ⟨b', o', e, h3⟩
    · exact .inl h3
    · exact .inr ⟨b', o', e, Fo.AtS.of h3⟩
theorem Fo.AtS.to : ∀ {f : Fo} {w : World} {S : Nat → Prop} {lim b o : Nat} (_ : f.AtS w S b o) (_ : ∀ b, S b → b < lim), f.At w lim b o
  | .nil, _, _, _, _, _, _, _ => trivial
  | .cons _ _ ks r, w, S, lim, b, o, ⟨hb, c0, c1, ⟨a, c, c2, h1, h2, h3⟩, hr⟩, hS => by
    refine ⟨hS _ hb, c0, c1, ⟨a, c, c2, h1, h2, ?_⟩, Fo.AtS.to hr hS⟩
    rcases h3 with h3 | ⟨b', o', e, h3⟩
    · exact .inl h3
    · exact .inr ⟨b', o', e, Fo.AtS.to h3 hS⟩
theorem Fo.AtS.carry : ∀ {f : Fo} {w w' : World} {S S' : Nat → Prop} {b o : Nat} (_ : f.AtS w S b o) (_ : ∀ b, S b → S' b ∧ w'.heap[b]? = w.heap[b]?), f.AtS w' S' b o
  | .nil, _, _, _, _, _, _, _, _ => trivial
  | .cons _ _ ks r, w, w', S, S', b, o, ⟨hb, c0, c1, ⟨a, c, c2, h1, h2, h3⟩, hr⟩, hS => by
    have hw := (hS b hb).2
    refine ⟨(hS b hb).1, (World.cell?_of_block (a := ⟨b, o, none⟩) hw).trans c0, (World.cell?_of_block (a := ⟨b, o + 1, none⟩) hw).trans c1, ⟨a, c, (World.cell?_of_block (a := ⟨b, o + 2, none⟩) hw).trans c2, h1, h2, ?_⟩, Fo.AtS.carry hr hS⟩
    rcases h3 with h3 | ⟨b', o', e, h3⟩
    · exact .inl h3
    · exact .inr ⟨b', o', e, Fo.AtS.carry h3 hS⟩
def KidsS (w : World) (S : Nat → Prop) (v : Value) (f : Fo) : Prop := ∃ a c, v = .slice a f.len c ∧ f.len ≤ c ∧ c ≤ maxLen ∧ (f.len = 0 ∨ ∃ b o, a = some ⟨b, o, none⟩ ∧ f.AtS w S b o)
theorem KidsS.of {w : World} {lim : Nat} {v : Value} {f : Fo} (h : Kids w lim v f) : KidsS w (fun b => b < lim) v f := by
  obtain ⟨a, c, rfl, h1, h2, h3⟩ := h
  exact ⟨a, c, rfl, h1, h2, h3.imp id (fun ⟨b, o, e, h⟩ => ⟨b, o, e, .of h⟩)⟩
theorem KidsS.to {w : World} {S : Nat → Prop} {lim : Nat} {v : Value} {f : Fo} (h : KidsS w S v f) (hS : ∀ b, S b → b < lim) : Kids w lim v f := by
  obtain ⟨a, c, rfl, h1, h2, h3⟩ := h
  exact ⟨a, c, rfl, h1, h2, h3.imp id (fun ⟨b, o, e, h⟩ => ⟨b, o, e, h.to hS⟩)⟩
theorem KidsS.carry {w w' : World} {S S' : Nat → Prop} {v : Value} {f : Fo} (h : KidsS w S v f) (hS : ∀ b, S b → S' b ∧ w'.heap[b]? = w.heap[b]?) : KidsS w' S' v f := by
  obtain ⟨a, c, rfl, h1, h2, h3⟩ := h
  exact ⟨a, c, rfl, h1, h2, h3.imp id (fun ⟨b, o, e, h⟩ => ⟨b, o, e, h.carry hS⟩)⟩
/-- Cells that hold these nodes, three to a node. -/
def NodsS (w : World) (S : Nat → Prop) : List Value → List Nd → Prop
  | xs, [] => xs = []
  | xs, d :: l => ∃ v ys, xs = .int .i64 d.k :: .int .i64 d.n :: v :: ys ∧ KidsS w S v d.ks ∧ NodsS w S ys l
theorem NodsS.len : ∀ {w : World} {S : Nat → Prop} {xs : List Value} {l : List Nd}, NodsS w S xs l → xs.length = l.length * 3
  | _, _, _, [], h => by rw [show _ = [] from h]; rfl
  | _, _, _, d :: l, ⟨v, ys, e, _, h⟩ => by rw [e]; simp [NodsS.len h]; omega
theorem NodsS.append : ∀ {w : World} {S : Nat → Prop} {xs ys : List Value} {l m : List Nd}, NodsS w S xs l → NodsS w S ys m → NodsS w S (xs ++ ys) (l ++ m)
  | _, _, _, _, [], _, h, h2 => by rw [show _ = [] from h]; exact h2
  | _, _, _, _, d :: l, m, ⟨v, zs, e, hk, h⟩, h2 => by rw [e]; exact ⟨v, _, rfl, hk, NodsS.append h h2⟩
theorem NodsS.carry : ∀ {w w' : World} {S S' : Nat → Prop} {xs : List Value} {l : List Nd}, NodsS w S xs l → (∀ b, S b → S' b ∧ w'.heap[b]? = w.heap[b]?) → NodsS w' S' xs l
  | _, _, _, _, _, [], h, _ => h
  | _, _, _, _, _, d :: l, ⟨v, ys, e, hk, h⟩, hb => ⟨v, ys, e, hk.carry hb, h.carry hb⟩
theorem NodsS.one : ∀ {w : World} {S : Nat → Prop} {xs : List Value} {l : List Nd}, NodsS w S xs l → ∀ u ∈ xs, u.oneCell' = true
  | _, _, _, [], h, u, hu => by rw [show _ = [] from h] at hu; cases hu
  | _, _, _, d :: l, ⟨v, ys, e, hk, h⟩, u, hu => by
    obtain ⟨a, c, rfl, _⟩ := hk
    rw [e] at hu
    simp only [List.mem_cons] at hu
    rcases hu with rfl | rfl | rfl | hu
    · rfl
    · rfl
    · rfl
    · exact NodsS.one h u hu
/-- The nodes of a row. -/
def Fo.top : Fo → List Nd
  | .nil => []
  | .cons k n ks r => ⟨k, n, ks⟩ :: r.top
theorem Fo.top_len : ∀ f : Fo, f.top.length = f.len
  | .nil => rfl
  | .cons _ _ _ r => by simp [Fo.top, Fo.len, Fo.top_len r]
theorem Fo.top_at : ∀ (f : Fo) (i : Nat), i < f.len → f.top[i]? = some ⟨f.k i, f.n i, f.kids i⟩
  | .nil, _, h => by simp [Fo.len] at h
  | .cons _ _ _ r, 0, _ => rfl
  | .cons _ _ _ r, i + 1, h => by
    have := Fo.top_at r i (by simp [Fo.len] at h; omega)
    simpa [Fo.top, Fo.k, Fo.n, Fo.kids] using this
theorem nodsS_at {w : World} {S S' : Nat → Prop} {g : Nat} (hS : ∀ b, S b → S' b) (hg : S' g) : ∀ (f : Fo) (xs : List Value) (o : Nat), NodsS w S xs f.top → (∀ j u, xs[j]? = some u → w.cell? ⟨g, o + j, none⟩ = some u) → f.AtS w S' g o
  | .nil, _, _, _, _ => trivial
  | .cons k n ks r, xs, o, ⟨v, ys, e, hk, h⟩, hc => by
    subst e
    obtain ⟨a, c, rfl, h1, h2, h3⟩ := hk
    refine ⟨hg, hc 0 _ rfl, hc 1 _ rfl, ⟨a, c, hc 2 _ rfl, h1, h2, h3.imp id (fun ⟨b', o', e', h'⟩ => ⟨b', o', e', h'.carry (fun b hb => ⟨hS b hb, rfl⟩)⟩)⟩, nodsS_at hS hg r ys (o + 3) h (fun j u hu => ?_)⟩
    have := hc (j + 3) u (by simpa using hu)
    rw [show o + 3 + j = o + (j + 3) by omega]
    exact this
/-- The blocks of the world, but for a row's own. -/
def offB (w : World) (lim B : Nat) (v : Value) (b : Nat) : Prop := b < w.heap.size ∧ v.ownBlock ≠ some b ∧ (b < lim ∨ B ≤ b)
/-- A row of nodes of the call's own; the kids lie anywhere but in it. -/
def OwnT (w : World) (lim B : Nat) (v : Value) (l : List Nd) : Prop := ∃ xs, w.ownsRow B 42 3 v l.length xs ∧ NodsS w (offB w lim B v) xs l
theorem OwnT.nil (w : World) (lim B : Nat) : OwnT w lim B (.slice none 0 0) [] := ⟨[], World.ownsRow_nil w B 42 3, rfl⟩
/-- What leaves the row's block, and all others that there are, as they are. -/
theorem OwnT.below {w w' : World} {lim B : Nat} {v : Value} {l : List Nd} (h : OwnT w lim B v l) (hb : Below w.heap.size w w') : OwnT w' lim B v l := by
  obtain ⟨xs, h1, h2⟩ := h
  exact ⟨xs, World.ownsRow.kept h1 (row := none) ⟨hb.os, hb.tape, hb.output, hb.size, fun i hi _ => hb.block i hi⟩ (by
    by_cases hn : v.ownBlock = none
    · exact .inl hn
    · exact .inr hn), h2.carry (fun b ⟨h3, h4⟩ => ⟨⟨Nat.lt_of_lt_of_le h3 hb.size, h4⟩, hb.block b h3⟩)⟩
/-- A store into a block between. -/
theorem OwnT.keep {w w' : World} {lim B X : Nat} {v : Value} {l : List Nd} (h : OwnT w lim B v l) (hb : But w w' X) (hlX : lim ≤ X) (hXB : X < B) : OwnT w' lim B v l := by
  obtain ⟨xs, h1, h2⟩ := h
  have hz := hb.z
  have hb0 := hb.b 0 (Nat.zero_le _) (Nat.zero_le _)
  refine ⟨xs, World.ownsRow.kept h1 (row := some X) ⟨hb0.os, hb0.tape, hb0.output, hz, fun i hi hne => hb.o i hi (fun e => hne (by rw [e]))⟩ (by
    by_cases hn : v.ownBlock = none
    · exact .inl hn
    · exact .inr (fun e => by have := (World.ownsRow.lt h1 X e).1; omega)), h2.carry (fun b ⟨h3, h4, h5⟩ => ⟨⟨Nat.lt_of_lt_of_le h3 hz, h4, h5⟩, hb.o b h3 (by omega)⟩)⟩
/-- 'append(l, m...)' of one node at least onto such a row, at the operation. -/
theorem wp_append_t {o : Oper} {a : Act} {K : Act → World → Prop} {Q : Exit → Act → World → Prop} {W : World} {lim B : Nat} {v : Value} {l l2 : List Nd} {ad : Addr} {m c : Nat} {news : List Value} (s x : Operand)
    (ho : o.op = .call { callee := .builtin .append, args := #[s, x], argTypes := #[40, 40] }) (hs : a.eval s = v) (hown : OwnT W lim B v l) (hx : a.eval x = .slice (some ad) m c) (hm : l2.length = m) (hn : NodsS W (offB W lim B v) news l2) (hc : ∀ j u, news[j]? = some u → W.cell? (ad.add j) = some u)
    (hB : B ≤ W.heap.size) (h0 : 0 < m) (hlen : l.length + m ≤ 1099511627776)
    (h : ∀ v' w', OwnT w' lim B v' (l ++ l2) → W.grownBy w' v.ownBlock → K (a.put o.dst v') w') : o.wp Tryz.prog a W K Q := by
  obtain ⟨i0, hi⟩ : ∃ i, Tryz.prog.info? 42 = some i := by
    cases h0 : Tryz.prog.info? 42 with
    | none => have := info_desc; rw [h0] at this; cases this
    | some i => exact ⟨i, rfl⟩
  have h1 := info_desc
  rw [hi] at h1
  simp only [Option.map_some, Option.some.injEq, Prod.mk.injEq] at h1
  obtain ⟨hz, hsz, hby⟩ := h1
  obtain ⟨z, hz1, hz2⟩ : ∃ z, i0.zero = some z ∧ z.cells.size = 3 := by
    cases h0 : i0.zero with
    | none => rw [h0] at hz; cases hz
    | some z => rw [h0] at hz; simp at hz; exact ⟨z, rfl, hz⟩
  obtain ⟨xs, ho1, ho2⟩ := hown
  refine wp_append_lies _ s x 40 ho B 42 i0 z 3 40 Tryz.underlying40 hi hz1 hsz hby hz2 (by decide) v l.length xs hs ho1 ad m c news hx (by rw [hn.len, hm]) hc hn.one h0 (by unfold maxLen; omega) (by omega) hB _ rfl ?_
  intro g cap w' h2 h3 h4 _
  refine h _ w' ⟨_, by rw [List.length_append, hm]; exact h2, (ho2.append hn).carry (fun b ⟨hb1, hb2, hb3⟩ => ⟨⟨Nat.lt_of_lt_of_le hb1 h3.size, fun e => ?_, hb3⟩, h3.block b hb1 (fun e => hb2 e.symm)⟩)⟩ h3
  have e' : g = b := by simpa [Value.ownBlock] using e
  subst e'
  rcases h4 with h4 | h4
  · exact hb2 h4
  · omega
/-- At the end: the row's value, with all that is below it. -/
theorem OwnT.kidsS {w : World} {lim B : Nat} {v : Value} {f : Fo} (h : OwnT w lim B v f.top) : KidsS w (fun b => b < w.heap.size ∧ (b < lim ∨ B ≤ b)) v f := by
  obtain ⟨xs, ⟨h0, h1⟩, h2⟩ := h
  rw [Fo.top_len] at h1
  rcases h1 with ⟨rfl, hn⟩ | ⟨g, cap, cur, rfl, hb, hh, hn, hm, hs, ht⟩
  · exact ⟨none, 0, by rw [hn], by omega, by unfold maxLen; omega, .inl (by omega)⟩
  · have hg : g < w.heap.size := Nat.lt_of_not_le fun hn => by rw [Array.getElem?_eq_none hn] at hh; cases hh
    refine ⟨_, cap, rfl, by omega, hm, .inr ⟨g, 0, rfl, nodsS_at (fun b hb => ⟨hb.1, hb.2.2⟩) ⟨hg, .inr hb⟩ f xs 0 h2 (fun j u hu => ?_)⟩⟩
    rw [Fo.top_len] at h0
    have hj : j < f.len * 3 := by rw [← h0]; exact (List.getElem?_eq_some_iff.1 hu).1
    rw [Nat.zero_add, cell_of_row w g j _ _ _ hh, ← hu, ← ht, List.getElem?_take, if_pos hj]
    simp
theorem OwnT.kids {w : World} {lim B : Nat} {v : Value} {f : Fo} (h : OwnT w lim B v f.top) : Kids w w.heap.size v f := h.kidsS.to (fun _ hb => hb.1)
theorem OwnT.ownLe {w : World} {lim B : Nat} {v : Value} {l : List Nd} (h : OwnT w lim B v l) : ∀ i, v.ownBlock = some i → B ≤ i := fun i hi => by
  obtain ⟨xs, h1, _⟩ := h
  exact (World.ownsRow.lt h1 i hi).1
theorem OwnT.ownLt {w : World} {lim B : Nat} {v : Value} {l : List Nd} (h : OwnT w lim B v l) : ∀ i, v.ownBlock = some i → i < w.heap.size := fun i hi => by
  obtain ⟨xs, h1, _⟩ := h
  exact (World.ownsRow.lt h1 i hi).2
theorem OwnT.form {w : World} {lim B : Nat} {v : Value} {l : List Nd} (h : OwnT w lim B v l) : ∃ a n c, v = .slice a n c := by
  obtain ⟨xs, ⟨_, h1⟩, _⟩ := h
  rcases h1 with ⟨rfl, hn⟩ | ⟨g, cap, cur, rfl, _⟩
  · exact ⟨none, 0, 0, rfl⟩
  · exact ⟨_, _, cap, rfl⟩
end Go.Proofs.YtafmiilkdhdngaaGreatDoor
/- Nodes level by level: the layout that package desc's Clone makes, and another node put into it: numbers. -/
namespace Go.Proofs.YtafmiilkdhdngaaGreatDoor
open Go.ChangeShapes Go.WideShapes Go.ChangeAt Go.RowKit
set_option linter.unusedVariables false
set_option linter.unusedSimpArgs false
/-- How many are below some nodes. -/
def kin : List Nd → Nat
  | [] => 0
  | d :: q => d.ks.cnt + kin q
theorem kin_append : ∀ a b : List Nd, kin (a ++ b) = kin a + kin b
  | [], b => by simp [kin]
  | d :: a, b => by simp [kin, kin_append a b]; omega
theorem Fo.top_kin : ∀ f : Fo, f.cnt = f.len + kin f.top
  | .nil => rfl
  | .cons _ _ ks r => by have := Fo.top_kin r; simp only [Fo.cnt, Fo.len, Fo.top, kin]; omega
/-- Where the kids of the j-th node begin. -/
def pos : Nat → List Nd → Nat → Nat
  | m, _, 0 => m
  | m, [], _ + 1 => m
  | m, d :: q, j + 1 => pos (m + d.ks.len) q j
theorem pos_zero (m : Nat) (q : List Nd) : pos m q 0 = m := by cases q <;> rfl
theorem pos_succ : ∀ (q : List Nd) (m j : Nat) (d : Nd), q[j]? = some d → pos m q (j + 1) = pos m q j + d.ks.len
  | [], _, _, _, h => by simp at h
  | x :: q, m, 0, d, h => by
    obtain rfl : x = d := by simpa using h
    show pos (m + x.ks.len) q 0 = pos m (x :: q) 0 + x.ks.len
    rw [pos_zero, pos_zero]
  | x :: q, m, j + 1, d, h => by
    have := pos_succ q (m + x.ks.len) j d (by simpa using h)
    exact this
theorem pos_append : ∀ (q r : List Nd) (m j : Nat), j ≤ q.length → pos m (q ++ r) j = pos m q j
  | q, r, m, 0, _ => by rw [pos_zero, pos_zero]
  | [], r, m, j + 1, h => by simp at h
  | x :: q, r, m, j + 1, h => pos_append q r (m + x.ks.len) j (by simpa using h)
/-- Who has kids lies ahead of them. -/
def Rises (m : Nat) (q : List Nd) : Prop := ∀ j d, q[j]? = some d → 0 < d.ks.len → j < pos m q j
/-- e is j, or lies below it. -/
inductive Sub (m : Nat) (q : List Nd) (j : Nat) : Nat → Prop where
  | refl : Sub m q j j
  | step {p e : Nat} (d : Nd) (h : Sub m q j p) (hp : q[p]? = some d) (h1 : pos m q p ≤ e) (h2 : e < pos m q p + d.ks.len) : Sub m q j e
theorem Sub.le {m : Nat} {q : List Nd} (hR : Rises m q) {j e : Nat} (h : Sub m q j e) : j ≤ e := by
  induction h with
  | refl => exact Nat.le_refl _
  | step d _ hp h1 h2 ih => have := hR _ d hp (by omega); omega
theorem Sub.front {m : Nat} {q : List Nd} {j c e : Nat} {d : Nd} (hj : q[j]? = some d) (h1 : pos m q j ≤ c) (h2 : c < pos m q j + d.ks.len) (h : Sub m q c e) : Sub m q j e := by
  induction h with
  | refl => exact .step d .refl hj h1 h2
  | step d' _ hp g1 g2 ih => exact .step d' ih hp g1 g2
/-- A row's nodes stand from place s on. -/
def Ly (q : List Nd) (f : Fo) (s : Nat) : Prop := ∀ t, t < f.len → q[s + t]? = some ⟨f.k t, f.n t, f.kids t⟩
theorem Ly.tail {q : List Nd} {k n : Int} {ks r : Fo} {s : Nat} (h : Ly q (.cons k n ks r) s) : Ly q r (s + 1) := fun t ht => by
  have := h (t + 1) (by show t + 1 < r.len + 1; omega)
  rw [show s + 1 + t = s + (t + 1) by omega]
  exact this
/-- The value of a row of kids in block F. -/
def kidv (F s : Nat) : Nat → Value
  | 0 => .slice none 0 0
  | l + 1 => .slice (some ⟨F, s * 3, none⟩) (l + 1) (l + 1)
theorem kidv_kids {w : World} {lim F s : Nat} {f : Fo} (hm : f.len ≤ maxLen) (h : f.At w lim F (s * 3)) : Kids w lim (kidv F s f.len) f := by
  cases hf : f.len with
  | zero => exact ⟨none, 0, by rw [hf]; rfl, by omega, by unfold maxLen; omega, .inl hf⟩
  | succ l => exact ⟨some ⟨F, s * 3, none⟩, l + 1, by rw [hf]; rfl, by omega, by omega, .inr ⟨F, s * 3, rfl, h⟩⟩
/-- All nodes lie in block F, but for those that are not ok. -/
def Laid (w : World) (F m : Nat) (q : List Nd) (ok : Nat → Prop) : Prop := ∀ j d, ok j → q[j]? = some d → w.cell? ⟨F, j * 3, none⟩ = some (.int .i64 d.k) ∧ w.cell? ⟨F, j * 3 + 1, none⟩ = some (.int .i64 d.n) ∧ w.cell? ⟨F, j * 3 + 2, none⟩ = some (kidv F (pos m q j) d.ks.len)
/-- Each one's kids stand where they begin. -/
def Full (m : Nat) (q : List Nd) : Prop := ∀ j d, q[j]? = some d → Ly q d.ks (pos m q j) ∧ d.ks.len ≤ maxLen
theorem laid_at {w : World} {lim F m : Nat} {q : List Nd} {ok : Nat → Prop} (hF : F < lim) (hL : Laid w F m q ok) (hf : Full m q) : ∀ (f : Fo) (s : Nat), Ly q f s → (∀ t, t < f.len → ∀ x, Sub m q (s + t) x → ok x) → f.At w lim F (s * 3)
  | .nil, _, _, _ => trivial
  | .cons k n ks r, s, h, hok => by
    have h0 : q[s]? = some ⟨k, n, ks⟩ := h 0 (by show 0 < r.len + 1; omega)
    obtain ⟨c0, c1, c2⟩ := hL s _ (hok 0 (by show 0 < r.len + 1; omega) _ .refl) h0
    obtain ⟨l1, l2⟩ := hf s _ h0
    have hk := laid_at hF hL hf ks (pos m q s) l1 (fun t ht x hx => hok 0 (by show 0 < r.len + 1; omega) x (Sub.front h0 (Nat.le_add_right _ _) (Nat.add_lt_add_left ht _) hx))
    obtain ⟨a, c, e, h1, h2, h3⟩ := kidv_kids l2 hk
    refine ⟨hF, c0, c1, ⟨a, c, by rw [c2]; exact congrArg some e, h1, h2, h3⟩, ?_⟩
    have := laid_at hF hL hf r (s + 1) h.tail (fun t ht x hx => hok (t + 1) (by show t + 1 < r.len + 1; omega) x (by rw [show s + (t + 1) = s + 1 + t by omega]; exact hx))
    rw [show s * 3 + 3 = (s + 1) * 3 by omega]
    exact this
end Go.Proofs.YtafmiilkdhdngaaGreatDoor
/- Nodes level by level: how the list of all nodes grows: numbers. -/
namespace Go.Proofs.YtafmiilkdhdngaaGreatDoor
open Go.ChangeShapes Go.WideShapes Go.ChangeAt Go.RowKit
set_option linter.unusedVariables false
set_option linter.unusedSimpArgs false
theorem Ly.append {q r : List Nd} {f : Fo} {s : Nat} (h : Ly q f s) : Ly (q ++ r) f s := fun t ht => by
  have := h t ht
  rw [List.getElem?_append_left (List.getElem?_eq_some_iff.1 this).1]
  exact this
theorem Ly.of_top (q : List Nd) (f : Fo) : Ly (q ++ f.top) f q.length := fun t ht => by
  rw [List.getElem?_append_right (by omega), show q.length + t - q.length = t by omega]
  exact Fo.top_at f t ht
/-- The list q of nodes, behind i of them. -/
structure Lv (f : Fo) (q : List Nd) (i : Nat) : Prop where
  top : Ly q f 0
  le : i ≤ q.length
  cnt : q.length + kin (q.drop i) = f.cnt
  nx : pos f.len q i = q.length
  ly : ∀ j d, j < i → q[j]? = some d → Ly q d.ks (pos f.len q j)
  up : ∀ j, j < i → j < pos f.len q j
theorem Lv.start (f : Fo) : Lv f f.top 0 := by
  refine ⟨fun t ht => ?_, Nat.zero_le _, ?_, ?_, fun j d h => by omega, fun j h => by omega⟩
  · rw [Nat.zero_add]; exact Fo.top_at f t ht
  · rw [List.drop_zero, Fo.top_len]; exact (Fo.top_kin f).symm
  · rw [pos_zero, Fo.top_len]
theorem drop_at {q : List Nd} {i : Nat} {d : Nd} (hd : q[i]? = some d) : q.drop i = d :: q.drop (i + 1) := by
  obtain ⟨h1, h2⟩ := List.getElem?_eq_some_iff.1 hd
  rw [← h2]; exact List.drop_eq_getElem_cons h1
theorem Lv.room {f : Fo} {q : List Nd} {i : Nat} (h : Lv f q i) {d : Nd} (hd : q[i]? = some d) : q.length + d.ks.len ≤ f.cnt := by
  have h1 := h.cnt
  have h2 := Fo.top_kin d.ks
  rw [drop_at hd, kin] at h1
  omega
theorem Lv.step {f : Fo} {q : List Nd} {i : Nat} (h : Lv f q i) {d : Nd} (hd : q[i]? = some d) : Lv f (q ++ d.ks.top) (i + 1) := by
  have hlt := (List.getElem?_eq_some_iff.1 hd).1
  have hdi : (q ++ d.ks.top)[i]? = some d := by rw [List.getElem?_append_left hlt]; exact hd
  have hp : pos f.len (q ++ d.ks.top) i = q.length := by rw [pos_append _ _ _ _ h.le]; exact h.nx
  refine ⟨h.top.append, by simp; omega, ?_, ?_, fun j e hj he => ?_, fun j hj => ?_⟩
  · have h1 := h.cnt
    have h2 := Fo.top_kin d.ks
    rw [drop_at hd, kin] at h1
    rw [List.drop_append_of_le_length (by omega), kin_append, List.length_append, Fo.top_len]
    omega
  · rw [pos_succ _ _ _ _ hdi, hp, List.length_append, Fo.top_len]
  · by_cases e1 : j = i
    · subst e1
      rw [hdi] at he; cases he
      rw [hp]
      exact Ly.of_top q _
    · have hj2 : j < q.length := by omega
      rw [List.getElem?_append_left hj2] at he
      rw [pos_append _ _ _ _ (by omega)]
      exact (h.ly j e (by omega) he).append
  · by_cases e1 : j = i
    · subst e1; rw [hp]; exact hlt
    · rw [pos_append _ _ _ _ (by omega)]
      exact h.up j (by omega)
theorem Lv.lens {f : Fo} {q : List Nd} {i : Nat} (h : Lv f q i) : q.length ≤ f.cnt := by have := h.cnt; omega
theorem Ly.len {q : List Nd} {f : Fo} {s : Nat} (h : Ly q f s) : f.len ≤ q.length := by
  cases hf : f.len with
  | zero => omega
  | succ l =>
    have := (List.getElem?_eq_some_iff.1 (h l (by omega))).1
    omega
theorem Lv.done {f : Fo} {q : List Nd} (h : Lv f q q.length) (hC : f.cnt ≤ 1048576) : q.length = f.cnt ∧ Full f.len q ∧ Rises f.len q := by
  have h1 := h.cnt
  rw [List.drop_length] at h1
  refine ⟨by simpa [kin] using h1, fun j d hj => ?_, fun j d hj _ => h.up j (List.getElem?_eq_some_iff.1 hj).1⟩
  have := h.ly j d (List.getElem?_eq_some_iff.1 hj).1 hj
  have h2 := this.len
  have h3 := h.lens
  exact ⟨this, by unfold maxLen; omega⟩
end Go.Proofs.YtafmiilkdhdngaaGreatDoor
