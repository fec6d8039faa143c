/- Put together by program (merge2.py): Wrp Wru. -/
import Derived.Laws.Concat
import Derived.Deep.RegionWith
import Derived.Test.YtafmiilkdhdngaaGreatDoorR22
import Derived.Test.YtafmiilkdhdngaaGreatDoorR25
import Derived.Test.YtafmiilkdhdngaaGreatDoorR26
import Derived.Test.YtafmiilkdhdngaaGreatDoorR28
import Derived.Test.YtafmiilkdhdngaaGreatDoorR29
import Derived.Test.YtafmiilkdhdngaaGreatDoorR30
import Derived.Test.YtafmiilkdhdngaaGreatDoorR32
/- Reference 25: Parse. -/
namespace Go.Proofs.YtafmiilkdhdngaaGreatDoor
open Go.ChangeShapes Go.WideShapes Go.ChangeAt Go.RowKit
set_option linter.unusedVariables false
set_option linter.unusedSimpArgs false
attribute [local go_sem ↓] Go.wp_at_zero Go.wp_at_succ
theorem head_at (j : Nat) (h : j < 10) : headB[j]? ≠ some 10 := by
  have : ∀ j : Fin 10, headB[j.val]? ≠ some 10 := by decide
  exact this ⟨j, h⟩
theorem Hd.fst {s : ByteArray} (h : Hd s) : Fst s ((0 : Nat) : Int) 10 := by
  have hz := h.size
  have hat : ∀ j, j < 11 → s.data.toList[j]? = headB[j]? := fun j hj => by
    rw [← show s.data.toList.take 11 = headB from h, List.getElem?_take, if_pos hj]
  refine ⟨by decide, by decide, by omega, (bt10 (by omega)).2 (by rw [hat 10 (by omega)]; rfl), fun j h1 h2 h3 => ?_⟩
  have := (bt10 (by omega)).1 h3
  rw [hat j (by omega)] at this
  exact head_at j h2 this
theorem hd_iff {s : ByteArray} {i : Nat} (h : Fst s ((0 : Nat) : Int) i) : Hd s ↔ (s.extract 0 i).data.toList = headB.take 10 := by
  have hd := fst_drop h
  rw [List.drop_zero] at hd
  constructor
  · intro hh
    obtain rfl := h.uniq hh.fst
    have h2 : s.data.toList.take 11 = headB := hh
    rw [Lib.extract_data, List.drop_zero, Nat.sub_zero, ← h2, List.take_take]
    rfl
  · intro hh
    have hl := congrArg List.length hh
    unfold Hd
    rw [hd, hh]
    rfl
/-- What Parse tells. -/
def WPaOk (s : ByteArray) (W : World) (e : Ending) (w' : World) : Prop := ∃ (o : List En) (ln : Nat) (c : Int) (v : Value), WPar s o ln c ∧ e = .returned (.tuple #[v, .int .i64 ln, .int .i64 c]) ∧ RowN w' w'.heap.size v (sortN o) ∧ Below W.heap.size W w'
theorem wpa_bad {s : ByteArray} {W w' : World} {ln : Nat} {c : Int} (h : WPar s [] ln c) (hb : Below W.heap.size W w') : WPaOk s W (.returned (.tuple #[.slice none 0 0, .int .i64 ln, .int .i64 c])) w' :=
  ⟨[], ln, c, _, h, rfl, RowN.nought _ _, hb⟩
set_option maxRecDepth 100000 in
set_option maxHeartbeats 8000000 in
theorem r25_parse (s : ByteArray) (hs : s.size ≤ 4000) (W : World) : Calls Tryz.prog 14 #[.string s] W (WPaOk s W) := by
  have d0 : decide ((s.size : Int) > 65536) = false := decide_eq_false (by omega)
  have d0' : decide (65536 < s.size) = false := decide_eq_false (by omega)
  have RL := Lib.hid (fun (p : Nat) (w : World) (hp : p ≤ 70000) => ref_line s (by omega) p (by omega) w)
  have L0 := RL.out 0 W (by omega)
  go_enter Tryz.func14, Tryz.ntmps14
  go_wp2_with fail
  refine L0.mono ?_
  rintro e w1 ⟨rfl, hcase⟩
  clear L0
  rcases hcase with ⟨hn, rfl⟩ | ⟨i, hf, rfl⟩
  · have FIN := Lib.hid (wpa_bad (W := W) (.inr (.inl ⟨by omega, fun h => h.fst.not hn, rfl, rfl, rfl⟩)) (Below.refl _ _) : WPaOk s W _ W)
    clear hn RL
    go_wp2_with fail
    go_ret3
    exact FIN.out
  · obtain ⟨x, hx⟩ : ∃ x, s.extract 0 i = x := ⟨_, rfl⟩
    have hxe : s.extract ((0 : Nat) : Int).toNat i = x := hx
    rw [hxe]
    have hdi := hd_iff hf
    rw [hx] at hdi
    by_cases hh : Hd s
    case neg =>
      have e1 : (x.toList == [100, 117, 108, 99, 105, 109, 101, 114, 32, 49]) = false := by
        rw [beq_eq_false_iff_ne, Lib.toList_data]
        exact fun h => hh (hdi.2 h)
      have e1' : (x.toList != [100, 117, 108, 99, 105, 109, 101, 114, 32, 49]) = true := by simp [bne, e1]
      have FIN := Lib.hid (wpa_bad (W := W) (.inr (.inl ⟨by omega, hh, rfl, rfl, rfl⟩)) (Below.refl _ _) : WPaOk s W _ W)
      clear hf hdi hh hx hxe RL
      go_wp2_with fail
      go_ret3
      exact FIN.out
    case pos =>
      have e1 : (x.toList == [100, 117, 108, 99, 105, 109, 101, 114, 32, 49]) = true := by
        rw [beq_iff_eq, Lib.toList_data]
        exact hdi.1 hh
      have e1' : (x.toList != [100, 117, 108, 99, 105, 109, 101, 114, 32, 49]) = false := by simp [bne, e1]
      obtain rfl := hf.uniq hh.fst
      have hz := hh.size
      have FIN := Lib.hid (fun (o : List En) (ln : Nat) (c : Int) (h : Par s 11 2 [] o ln c) => (show WPar s o ln c from .inr (.inr ⟨by omega, hh, h⟩)))
      obtain ⟨F, hF⟩ : ∃ F, W.heap.size = F := ⟨_, rfl⟩
      have HF := Lib.hid hF
      clear hf hdi hh hx hxe hF
      go_wp2_with fail
      go_loopw [6, 8, 9] (fun p v n wr => ∃ (at_ k : Nat) (vv : Value) (l : List En), p = .int .i64 at_ ∧ vv = v ∧ n = .int .i64 k ∧ at_ ≤ s.size ∧ k ≤ at_ ∧ l.length ≤ at_ ∧ Hid (∀ o ln c, Par s at_ k l o ln c → Par s 11 2 [] o ln c) ∧ Hid (OwnK wr F vv l) ∧ Hid (∀ e ∈ l, e.ks.cnt ≤ 1048576) ∧ Hid (Below W.heap.size W wr)) (fun p _ _ _ => s.size - (intOf p).toNat)
      case atStart => exact ⟨11, 2, _, [], rfl, rfl, rfl, by omega, by omega, by simp, Lib.hid (fun _ _ _ h => h), Lib.hid (OwnK.nil _ _), Lib.hid (fun e he => by cases he), Lib.hid (Below.refl _ _)⟩
      case round =>
        obtain ⟨at_, k, vv, l, rfl, rfl, rfl, hat, hk, hl, HP, HO, HW, HB⟩ := hrel
        obtain ⟨wu, rfl⟩ : ∃ wu, wu = wr := ⟨_, rfl⟩
        by_cases hlt : at_ < s.size
        case neg =>
          obtain rfl : at_ = s.size := by omega
          have d1 : decide ((s.size : Int) < (s.size : Int)) = false := decide_eq_false (by omega)
          have SO := r24_sort vv l wu.heap.size wu HO.out.rowN (Nat.le_refl _) (by omega)
          have FI := Lib.hid (FIN.out _ _ _ (HP.out l 0 0 (.fin (Nat.le_refl _))))
          obtain ⟨va, vc, rfl, -, -⟩ := HO.out.form
          clear HP
          go_wp2_with fail
          refine SO.mono ?_
          rintro e w3 ⟨v', rfl, hO, hb3⟩
          have HR := Lib.hid (hO.rowN hb3.size)
          have HB3 := Lib.hid (HB.out.trans (hb3.mono HB.out.size))
          clear hO hb3 SO
          go_wp2_with fail
          go_ret3
          exact ⟨l, 0, 0, v', FI.out, rfl, HR.out, HB3.out⟩
        case pos =>
          have d1 : decide ((at_ : Int) < (s.size : Int)) = true := decide_eq_true (by omega)
          have d1' : decide (at_ < s.size) = true := decide_eq_true hlt
          have LN := RL.out at_ wu (by omega)
          go_wp2_with fail
          refine LN.mono ?_
          rintro e w1 ⟨rfl, hcase⟩
          clear LN
          rcases hcase with ⟨hn, rfl⟩ | ⟨i, hf, rfl⟩
          · have FI := Lib.hid (wpa_bad (W := W) (FIN.out _ _ _ (HP.out [] k 10 (.opn hlt hn))) HB.out)
            clear hn HP
            go_wp2_with fail
            go_ret3
            exact FI.out
          · have hi2 : i < s.size := hf.2.2.1
            have hi1 : at_ ≤ i := by have := hf.2.1; omega
            have hxe : s.extract ((at_ : Nat) : Int).toNat i = s.extract at_ i := rfl
            rw [hxe]
            have hz4 : (s.extract at_ i).size ≤ 4100 := by rw [ByteArray.size_extract]; omega
            have PA := r24_parse (s.extract at_ i) hz4 wu
            have HF2 := Lib.hid hf
            obtain ⟨x, hx⟩ : ∃ x, s.extract at_ i = x := ⟨_, rfl⟩
            have HX := Lib.hid hx
            rw [hx] at PA ⊢
            clear hf hxe hz4 hx
            go_wp2_with fail
            refine PA.mono ?_
            rintro e w3 ⟨hb3, hcase⟩
            have HB3 := Lib.hid (HB.out.trans (hb3.mono HB.out.size))
            have HO3 := Lib.hid (HO.out.below hb3)
            rcases hcase with ⟨hc, rfl⟩ | ⟨hc, a, b, kk, m, ks, v, hent, hK, rfl⟩
            · obtain ⟨w4, hw4, r4, hb4, hs4⟩ := box5 w3 0 0 0 0 (.slice none 0 0) 44
              have HW4 := Lib.hid hw4
              have HB4 := Lib.hid (HB3.out.trans (hb4.mono HB3.out.size))
              have FI := Lib.hid (wpa_bad (W := W) (FIN.out _ _ _ (HP.out [] k (ecode x) (by rw [← HX.out]; exact .bad hlt HF2.out (by rw [HX.out]; exact hc)))) HB4.out)
              obtain ⟨z, hz⟩ : ∃ z, ecode x = z := ⟨_, rfl⟩
              rw [hz] at hc FI ⊢
              have e2 : (z != 0) = true := by simp [bne, hc]
              clear hw4 r4 hb4 hs4 hb3 hz PA HP HF2
              go_upto_region 14 with fail
              rw [← HW4.out]
              go_wp2_with fail
              go_ret3
              exact FI.out
            · obtain ⟨va, vn, vc, rfl⟩ : ∃ a n c, v = .slice a n c := by
                obtain ⟨a, c, rfl, _⟩ := hK
                exact ⟨_, _, _, rfl⟩
              obtain ⟨w4, hw4, r4, hb4, hs4⟩ := box5 w3 a b kk m (.slice va vn vc) 44
              have HW4 := Lib.hid hw4
              have HB4 := Lib.hid (HB3.out.trans (hb4.mono HB3.out.size))
              have HO4 := Lib.hid (HO3.out.below hb4)
              have HK4 := Lib.hid (hK.below hb4)
              obtain ⟨x0, x1, x2, x3, x4⟩ := cells5 r4
              have HR4 := Lib.hid r4
              have HA := r25_has vv l a b w4.heap.size w4 HO4.out.rowN (Nat.le_refl _) (by omega)
              have TWC := Lib.hid (fun (h : hasE l a b = true) => FIN.out _ _ _ (HP.out [] k 11 (by have hE := hent; rw [← HX.out] at hc hE; exact .twc hlt HF2.out hc hE h)))
              have GO := Lib.hid (fun (h : hasE l a b = false) => (show ∀ o ln c, Par s (i + 1) (k + 1) (l ++ [⟨a, b, kk, m, ks⟩]) o ln c → Par s 11 2 [] o ln c from fun o ln c hp => HP.out o ln c (by have hE := hent; rw [← HX.out] at hc hE; exact .go hlt HF2.out hc hE h hp)))
              have HCN := Lib.hid ((good_of hent.chkE).1.2)
              have hlw : w3.heap.size < w4.heap.size := by omega
              have hwz := hb3.size
              obtain ⟨za, zc, rfl, -, -⟩ := HO.out.form
              clear hw4 r4 hb4 hb3 PA HP hent hK hc
              go_upto_region 14 with fail
              rw [← HW4.out]
              go_wp2_with fail
              refine HA.mono ?_
              rintro e w5 ⟨rfl, hb5⟩
              have HB5 := Lib.hid (HB4.out.trans (hb5.mono HB4.out.size))
              have HO5 := Lib.hid (HO4.out.below hb5)
              have HK5 := Lib.hid (HK4.out.below hb5)
              have r5 := (hb5.block _ hlw).trans HR4.out
              have hz5 := hb5.size
              clear x0 x1 x2 x3 x4 HA hb5
              cases hh : hasE l a b
              case true =>
                have FI := Lib.hid (wpa_bad (W := W) (TWC.out hh) HB5.out)
                clear TWC GO hh r5
                go_wp2_with fail
                go_ret3
                exact FI.out
              case false =>
                have G2 := Lib.hid (GO.out hh)
                obtain ⟨x0, x1, x2, x3, x4⟩ := cells5 r5
                have hown := HO.out.ownLt
                have hFw : F ≤ wu.heap.size := by have := HB.out.size; have := HF.out; omega
                clear TWC GO hh r5
                go_wp2_with (at_builtin; refine append_k1 (e := ⟨a, b, kk, m, ks⟩) rfl _ _ rfl rfl HO5.out rfl HK5.out ⟨hFw, hown⟩ (by omega) (by omega) ?_; intro v6 w6 hO6 hg6)
                have HB6 := Lib.hid (HB5.out.grown hg6 HB5.out.size (fun i hi => by have := HO5.out.ownLe i hi; have := HF.out; omega))
                have HO6 := Lib.hid hO6
                obtain ⟨ua, uc, rfl, -, -⟩ := HO6.out.form
                clear hO6 hg6 x0 x1 x2 x3 x4
                go_wp2_with fail
                go_roundw
                case rel => exact ⟨i + 1, k + 1, _, _, by go_num, rfl, by go_num, by omega, by omega, by rw [List.length_append, List.length_singleton]; omega, G2, HO6, Lib.hid (fun e he => by
                  rcases List.mem_append.1 he with he | he
                  · exact HW.out e he
                  · rw [List.mem_singleton] at he; subst he; have := HCN.out; dsimp only at this ⊢; omega), HB6⟩
                case measure => simp only [intOf]; omega
end Go.Proofs.YtafmiilkdhdngaaGreatDoor
/- What a list of lines is read as; rows and maps behind a range over a function. -/
namespace Go.Proofs.YtafmiilkdhdngaaGreatDoor
open Go.ChangeShapes Go.WideShapes Go.ChangeAt Go.RowKit
set_option linter.unusedVariables false
open Go.Shelf
set_option linter.unusedSimpArgs false
inductive Run : Nat → List En → List Ln → List En → Nat → Int → Prop
  | nil {n : Nat} {l : List En} : Run n l [] l 0 0
  | opn {n : Nat} {l : List En} {x : Ln} {r : List Ln} : x.e = false → Run n l (x :: r) [] n 10
  | bad {n : Nat} {l : List En} {x : Ln} {r : List Ln} : x.e = true → ecode x.t ≠ 0 → Run n l (x :: r) [] n (ecode x.t)
  | twc {n : Nat} {l : List En} {x : Ln} {r : List Ln} {a b k m : Int} {ks : Fo} : x.e = true → ecode x.t = 0 → Ent x.t a b k m ks → hasE l a b = true → Run n l (x :: r) [] n 11
  | go {n : Nat} {l : List En} {x : Ln} {r : List Ln} {a b k m : Int} {ks : Fo} {o : List En} {ln : Nat} {e : Int} : x.e = true → ecode x.t = 0 → Ent x.t a b k m ks → hasE l a b = false → Run (n + 1) (l ++ [⟨a, b, k, m, ks⟩]) r o ln e → Run n l (x :: r) o ln e
/-- The text behind the first line. -/
theorem rest_at {s rest : ByteArray} (hr : rest.data.toList = s.data.toList.drop 11) (j : Nat) : rest.data.toList[j]? = s.data.toList[j + 11]? := by
  rw [hr, List.getElem?_drop, Nat.add_comm]
theorem rest_size {s rest : ByteArray} (hr : rest.data.toList = s.data.toList.drop 11) : rest.size = s.size - 11 := by
  rw [Lib.size_eq, hr, List.length_drop, ← Lib.size_eq]
theorem rest_bt {s rest : ByteArray} (hr : rest.data.toList = s.data.toList.drop 11) {j : Nat} (hj : j < rest.size) : bt rest j = 10 ↔ bt s (j + 11) = 10 := by
  rw [bt10 hj, bt10 (by have := rest_size hr; omega), rest_at hr]
theorem rest_fst {s rest : ByteArray} (hr : rest.data.toList = s.data.toList.drop 11) {p i : Nat} (h : Fst rest p i) : Fst s ((p + 11 : Nat) : Int) (i + 11) := by
  have hz := rest_size hr
  obtain ⟨h1, h2, h3, h4, h5⟩ := h
  refine ⟨by omega, by omega, by omega, (rest_bt hr h3).1 h4, fun j h6 h7 h8 => ?_⟩
  have hj : j = (j - 11) + 11 := by omega
  rw [hj] at h8
  exact h5 (j - 11) (by omega) (by omega) ((rest_bt hr (by omega)).2 h8)
theorem rest_nof {s rest : ByteArray} (hr : rest.data.toList = s.data.toList.drop 11) {p : Nat} (h : Nof rest p) : Nof s ((p + 11 : Nat) : Int) := by
  have hz := rest_size hr
  rcases h with h | h
  · omega
  · refine .inr fun j h6 h7 h8 => ?_
    have hj : j = (j - 11) + 11 := by omega
    rw [hj] at h8
    exact h (j - 11) (by omega) (by omega) ((rest_bt hr (by omega)).2 h8)
theorem rest_ext {s rest : ByteArray} (hr : rest.data.toList = s.data.toList.drop 11) (p i : Nat) : rest.extract p i = s.extract (p + 11) (i + 11) := by
  apply ba_ext
  rw [Lib.extract_data, Lib.extract_data, hr, List.drop_drop, show 11 + p = p + 11 by omega, show i + 11 - (p + 11) = i - p by omega]
theorem run_par {s rest : ByteArray} (hr : rest.data.toList = s.data.toList.drop 11) (h11 : 11 ≤ s.size) {p : Nat} {xs : List Ln} (h : Lns rest p xs) : ∀ {n : Nat} {l o : List En} {ln : Nat} {e : Int}, Run n l xs o ln e → Par s (p + 11) n l o ln e := by
  have hz := rest_size hr
  induction h with
  | fin h =>
    intro n l o ln e g
    cases g with
    | nil => exact .fin (by omega)
  | opn h hn ht he =>
    intro n l o ln e g
    cases g with
    | opn _ => exact .opn (by omega) (rest_nof hr hn)
    | bad g _ => rw [he] at g; cases g
    | twc g _ _ _ => rw [he] at g; cases g
    | go g _ _ _ _ => rw [he] at g; cases g
  | one h hf ht he _ ih =>
    intro n l o ln e g
    have hf2 := rest_fst hr hf
    rw [rest_ext hr] at ht
    cases g with
    | opn g => rw [he] at g; cases g
    | bad _ g => rw [ht] at g ⊢; exact .bad (by omega) hf2 g
    | twc _ g g2 g3 => rw [ht] at g g2; exact .twc (by omega) hf2 g g2 g3
    | go _ g g2 g3 g4 =>
      rw [ht] at g g2
      exact .go (by omega) hf2 g g2 g3 (by have := ih g4; rw [(fun q => by omega : ∀ q : Nat, q + 1 + 11 = q + 11 + 1)] at this; exact this)
/-- A block of cells. -/
def CellsB (V : World) (b : Nat) : Prop := ∃ o, V.heap[b]? = some o ∧ o.isCells = true
theorem cellsB_of_cell {V : World} {a : Addr} {v : Value} (h : V.cell? a = some v) : CellsB V a.block := by
  unfold World.cell? at h
  cases ho : V.heap[a.block]? with
  | none => simp [ho] at h
  | some o => exact ⟨o, ho, by cases o <;> simp_all [Obj.isCells]⟩
theorem Fo.AtS.cellsB : ∀ {f : Fo} {w : World} {S : Nat → Prop} {b o : Nat} (_ : f.AtS w S b o), f.AtS w (fun x => S x ∧ CellsB w x) b o
  | .nil, _, _, _, _, _ => trivial
  | .cons _ _ ks r, w, S, b, o, ⟨hb, c0, c1, ⟨a, c, c2, h1, h2, h3⟩, hr⟩ => by
    refine ⟨⟨hb, cellsB_of_cell c0⟩, c0, c1, ⟨a, c, c2, h1, h2, ?_⟩, Fo.AtS.cellsB hr⟩
    rcases h3 with h3 | ⟨b', o', e, h3⟩
    · exact .inl h3
    · exact .inr ⟨b', o', e, Fo.AtS.cellsB h3⟩
theorem KidsS.cellsB {w : World} {S : Nat → Prop} {v : Value} {f : Fo} (h : KidsS w S v f) : KidsS w (fun x => S x ∧ CellsB w x) v f := by
  obtain ⟨a, c, rfl, h1, h2, h3⟩ := h
  exact ⟨a, c, rfl, h1, h2, h3.imp id (fun ⟨b, o, e, h⟩ => ⟨b, o, e, .cellsB h⟩)⟩
theorem ECellsS.cellsB : ∀ {w : World} {S : Nat → Prop} {xs : List Value} {l : List En}, ECellsS w S xs l → ECellsS w (fun x => S x ∧ CellsB w x) xs l
  | _, _, _, [], h => h
  | _, _, _, d :: l, ⟨v, ys, e, hk, h⟩ => ⟨v, ys, e, hk.cellsB, ECellsS.cellsB h⟩
/-- The row stands what turns a block that is no cells. -/
theorem OwnK.grown {w w' : World} {F : Nat} {v : Value} {l : List En} {row : Option Nat} (h : OwnK w F v l) (hg : w.grownBy w' row) (hr : ∀ r, row = some r → ∃ o : Obj, w.heap[r]? = some o ∧ o.isCells = false) : OwnK w' F v l := by
  obtain ⟨xs, h1, h2⟩ := h
  refine ⟨xs, World.ownsRow.kept h1 hg ?_, h2.cellsB.carry (fun b ⟨⟨h3, h4, h5⟩, o, ho, hc⟩ => ⟨⟨h3, Nat.lt_of_lt_of_le h4 hg.size, h5⟩, hg.block b h4 (fun e => ?_)⟩)⟩
  · by_cases hn : v.ownBlock = none
    · exact .inl hn
    · right
      intro e
      obtain ⟨g, hgv⟩ := Option.ne_none_iff_exists'.1 hn
      obtain ⟨o, ho, hc⟩ := hr g (by rw [← e, hgv])
      rcases h1.2 with h | ⟨g', cap, cur, rfl, _, hh, _⟩
      · rw [h.1] at hgv; cases hgv
      · have : g' = g := by simpa [Value.ownBlock] using hgv
        subst this
        rw [ho] at hh
        cases hh
        cases hc
  · obtain ⟨o', ho', hc'⟩ := hr b e.symm
    rw [ho] at ho'
    cases ho'
    rw [hc] at hc'
    cases hc'
theorem box_keep {w w' : World} {row : Option Nat} {b B : Nat} {o : Obj} (h : w.heap[b]? = some o) (hg : w.grownBy w' row) (hb : b < B) (hr : ∀ r, row = some r → B ≤ r) : w'.heap[b]? = some o :=
  (hg.block b (Array.getElem?_eq_some_iff.1 h).1 (fun e => by have := hr b e.symm; omega)).trans h
/-- Between two rounds: what came is read as l; all at N and beyond. -/
structure PaS (W V : World) (N : Nat) (rest : ByteArray) (vv : Value) (l : List En) (ln : Nat) : Prop where
  lb : V.heap[N]? = some (.cells #[vv] 22 (0, 0))
  nb : V.heap[N + 1]? = some (.cells #[.int .i64 ln] 3 (0, 0))
  eb : V.heap[N + 1 + 1]? = some (.cells #[.int .i64 0] 25 (0, 0))
  mp : ∃ es clock, V.heap[N + 1 + 1 + 1]? = some (.map es clock) ∧ Cn l es clock l.length
  sb : V.heap[N + 1 + 1 + 1 + 1]? = some (.cells #[.map (some (N + 1 + 1 + 1))] 46 (0, 0))
  rb : V.heap[N + 1 + 1 + 1 + 1 + 1]? = some (.cells #[.string rest] 9 (0, 0))
  ow : OwnK V (N + 6) vv l
  be : Below N W V
theorem PaS.kept {W V V' : World} {N : Nat} {rest : ByteArray} {vv : Value} {l : List En} {ln : Nat} {row : Option Nat} (h : PaS W V N rest vv l ln) (hg : V.grownBy V' row) (hr : ∀ r, row = some r → N + 6 ≤ r ∧ ∃ o : Obj, V.heap[r]? = some o ∧ o.isCells = false) : PaS W V' N rest vv l ln := by
  have hB : ∀ r, row = some r → N + 6 ≤ r := fun r e => (hr r e).1
  obtain ⟨es, clock, h1, h2⟩ := h.mp
  refine ⟨box_keep h.lb hg (by omega) hB, box_keep h.nb hg (by omega) hB, box_keep h.eb hg (by omega) hB, ⟨es, clock, box_keep h1 hg (by omega) hB, h2⟩, box_keep h.sb hg (by omega) hB, box_keep h.rb hg (by omega) hB, h.ow.grown hg (fun r e => (hr r e).2), h.be.grown hg ?_ (fun r e => by have := hB r e; omega)⟩
  have := (Array.getElem?_eq_some_iff.1 h.lb).1
  omega
/-- A round has returned. -/
structure PaX (W V : World) (N : Nat) (ln : Nat) (c : Int) : Prop where
  lb : V.heap[N]? = some (.cells #[.slice none 0 0] 22 (0, 0))
  nb : V.heap[N + 1]? = some (.cells #[.int .i64 ln] 3 (0, 0))
  eb : V.heap[N + 1 + 1]? = some (.cells #[.int .i64 c] 25 (0, 0))
  be : Below N W V
theorem PaX.kept {W V V' : World} {N ln : Nat} {c : Int} {row : Option Nat} (h : PaX W V N ln c) (hg : V.grownBy V' row) (hr : ∀ r, row = some r → N + 6 ≤ r ∧ ∃ o : Obj, V.heap[r]? = some o ∧ o.isCells = false) : PaX W V' N ln c := by
  have hB : ∀ r, row = some r → N + 6 ≤ r := fun r e => (hr r e).1
  refine ⟨box_keep h.lb hg (by omega) hB, box_keep h.nb hg (by omega) hB, box_keep h.eb hg (by omega) hB, h.be.grown hg ?_ (fun r e => by have := hB r e; omega)⟩
  have := (Array.getElem?_eq_some_iff.1 h.lb).1
  omega
theorem PaS.nset {W V : World} {N : Nat} {rest : ByteArray} {vv : Value} {l : List En} {ln : Nat} (h : PaS W V N rest vv l ln) (ln' : Nat) : PaS W (V.setCell ⟨N + 1, 0, none⟩ (.int .i64 ln')) N rest vv l ln' := by
  have ho : ∀ k, k ≠ N + 1 → (V.setCell ⟨N + 1, 0, none⟩ (.int .i64 ln')).heap[k]? = V.heap[k]? := fun k hk => heap_setCell_other V ⟨N + 1, 0, none⟩ k _ hk
  have hb : Below N V (V.setCell ⟨N + 1, 0, none⟩ (.int .i64 ln')) := (Below.refl _ _).setCell (p := ⟨N + 1, 0, none⟩) (by show N ≤ N + 1; omega) _
  obtain ⟨es, clock, h1, h2⟩ := h.mp
  exact ⟨(ho _ (by omega)).trans h.lb, by rw [bset h.nb]; rfl, (ho _ (by omega)).trans h.eb, ⟨es, clock, (ho _ (by omega)).trans h1, h2⟩, (ho _ (by omega)).trans h.sb, (ho _ (by omega)).trans h.rb, h.ow.keep (hb.mono (Nat.zero_le _)) (fun k hk _ => ho k (by omega)), h.be.trans hb⟩
theorem PaS.size {W V : World} {N : Nat} {rest : ByteArray} {vv : Value} {l : List En} {ln : Nat} (h : PaS W V N rest vv l ln) : N + 6 ≤ V.heap.size := by
  have := (Array.getElem?_eq_some_iff.1 h.rb).1
  omega
theorem PaS.below {W V V' : World} {N : Nat} {rest : ByteArray} {vv : Value} {l : List En} {ln : Nat} (h : PaS W V N rest vv l ln) (hb : Below V.heap.size V V') : PaS W V' N rest vv l ln := by
  refine h.kept (row := none) ⟨hb.os, hb.tape, hb.output, hb.size, fun k hk _ => hb.block k hk⟩ (fun r e => by cases e)
theorem PaS.cells {W V : World} {N : Nat} {rest : ByteArray} {vv : Value} {l : List En} {ln : Nat} (h : PaS W V N rest vv l ln) : V.cell? ⟨N, 0, none⟩ = some vv ∧ V.cell? ⟨N + 1, 0, none⟩ = some (.int .i64 ln) ∧ V.cell? ⟨N + 1 + 1, 0, none⟩ = some (.int .i64 0) ∧ V.cell? ⟨N + 1 + 1 + 1 + 1, 0, none⟩ = some (.map (some (N + 1 + 1 + 1))) ∧ V.frozen? ⟨N, 0, none⟩ = false ∧ V.frozen? ⟨N + 1, 0, none⟩ = false ∧ V.frozen? ⟨N + 1 + 1, 0, none⟩ = false :=
  ⟨by rw [cell_of_row _ _ _ _ _ _ h.lb]; rfl, by rw [cell_of_row _ _ _ _ _ _ h.nb]; rfl, by rw [cell_of_row _ _ _ _ _ _ h.eb]; rfl, by rw [cell_of_row _ _ _ _ _ _ h.sb]; rfl, frozen_of_row _ _ _ _ _ h.lb, frozen_of_row _ _ _ _ _ h.nb, frozen_of_row _ _ _ _ _ h.eb⟩
theorem PaS.kp {W V V' : World} {N : Nat} {rest rest' : ByteArray} {vv vv' : Value} {l l' : List En} {ln ln' : Nat} (h : PaS W V N rest vv l ln) (h' : PaS W V' N rest vv' l' ln') (h0 : 0 < N) : KpL (N + 1 + 1 + 1 + 1 + 1) V V' := by
  constructor
  · intro v hv
    rw [cell_of_row _ _ _ _ _ _ h.rb] at hv
    rw [cell_of_row _ _ _ _ _ _ h'.rb]; exact hv
  · intro v hv
    have h1 := h.be.cell (p := ⟨0, 0, none⟩) h0
    have h2 := h'.be.cell (p := ⟨0, 0, none⟩) h0
    exact (h2.trans h1.symm).trans hv
/-- The three results stored. -/
theorem PaS.out {W V : World} {N : Nat} {rest : ByteArray} {vv : Value} {l : List En} {ln : Nat} (h : PaS W V N rest vv l ln) (c : Int) : PaX W (((V.drew.setCell ⟨N, 0, none⟩ (.slice none 0 0)).setCell ⟨N + 1, 0, none⟩ (.int .i64 ln)).setCell ⟨N + 1 + 1, 0, none⟩ (.int .i64 c)) N ln c ∧ KeepsFrom (N + 6) V (((V.drew.setCell ⟨N, 0, none⟩ (.slice none 0 0)).setCell ⟨N + 1, 0, none⟩ (.int .i64 ln)).setCell ⟨N + 1 + 1, 0, none⟩ (.int .i64 c)) := by
  have hl : V.drew.heap[N]? = some (.cells #[vv] 22 (0, 0)) := h.lb
  have hn : V.drew.heap[N + 1]? = some (.cells #[.int .i64 ln] 3 (0, 0)) := h.nb
  have he : V.drew.heap[N + 1 + 1]? = some (.cells #[.int .i64 0] 25 (0, 0)) := h.eb
  have hb : Below N V V.drew := (Below.refl _ _).drew
  have g1 : ∀ (U : World) (v : Value) (k : Nat), k ≠ N → (U.setCell ⟨N, 0, none⟩ v).heap[k]? = U.heap[k]? := fun U v k hk => heap_setCell_other U ⟨N, 0, none⟩ k _ hk
  have g2 : ∀ (U : World) (v : Value) (k : Nat), k ≠ N + 1 → (U.setCell ⟨N + 1, 0, none⟩ v).heap[k]? = U.heap[k]? := fun U v k hk => heap_setCell_other U ⟨N + 1, 0, none⟩ k _ hk
  have g3 : ∀ (U : World) (v : Value) (k : Nat), k ≠ N + 1 + 1 → (U.setCell ⟨N + 1 + 1, 0, none⟩ v).heap[k]? = U.heap[k]? := fun U v k hk => heap_setCell_other U ⟨N + 1 + 1, 0, none⟩ k _ hk
  refine ⟨⟨?_, ?_, ?_, ?_⟩, (((KeepsOthers.drew V).trans (KeepsOthers.setCell _ _ _)).trans ((KeepsOthers.setCell _ _ _).trans (KeepsOthers.setCell _ _ _))).from _⟩
  · rw [g3 _ _ _ (by omega), g2 _ _ _ (by omega), bset hl]; rfl
  · rw [g3 _ _ _ (by omega), bset ((g1 _ _ _ (by omega)).trans hn)]; rfl
  · rw [bset ((g2 _ _ _ (by omega)).trans ((g1 _ _ _ (by omega)).trans he))]; rfl
  · exact h.be.trans ((((hb.setCell (p := ⟨N, 0, none⟩) (Nat.le_refl _) _).setCell (p := ⟨N + 1, 0, none⟩) (by show N ≤ N + 1; omega) _).setCell (p := ⟨N + 1 + 1, 0, none⟩) (by show N ≤ N + 1 + 1; omega) _))
theorem par_start (W : World) (rest : ByteArray) : ∃ w6 : World, w6 = (((((W.alloc (.cells #[.slice none 0 0] 22)).alloc (.cells #[.int .i64 1] 3)).alloc (.cells #[.int .i64 0] 25)).alloc (.map #[] 0)).alloc (.cells #[.map (some (W.heap.size + 1 + 1 + 1))] 46)).alloc (.cells #[.string rest] 9) ∧ PaS W w6 W.heap.size rest (.slice none 0 0) [] 1 ∧ w6.heap.size = W.heap.size + 6 := by
  refine ⟨_, rfl, ⟨?_, ?_, ?_, ⟨#[], 0, ?_, Cn.nil⟩, ?_, ?_, OwnK.nil _ _, ?_⟩, by simp⟩
  · rw [Below.heap_alloc _ _ _ (by simp only [World.size_alloc]; omega), Below.heap_alloc _ _ _ (by simp only [World.size_alloc]; omega), Below.heap_alloc _ _ _ (by simp only [World.size_alloc]; omega), Below.heap_alloc _ _ _ (by simp only [World.size_alloc]; omega), Below.heap_alloc _ _ _ (by simp only [World.size_alloc]; omega)]
    exact heap_alloc_new _ _
  · rw [Below.heap_alloc _ _ _ (by simp only [World.size_alloc]; omega), Below.heap_alloc _ _ _ (by simp only [World.size_alloc]; omega), Below.heap_alloc _ _ _ (by simp only [World.size_alloc]; omega), Below.heap_alloc _ _ _ (by simp only [World.size_alloc]; omega)]
    have := heap_alloc_new (W.alloc (.cells #[.slice none 0 0] 22)) (.cells #[.int .i64 1] 3)
    rwa [World.size_alloc] at this
  · rw [Below.heap_alloc _ _ _ (by simp only [World.size_alloc]; omega), Below.heap_alloc _ _ _ (by simp only [World.size_alloc]; omega), Below.heap_alloc _ _ _ (by simp only [World.size_alloc]; omega)]
    have := heap_alloc_new ((W.alloc (.cells #[.slice none 0 0] 22)).alloc (.cells #[.int .i64 1] 3)) (.cells #[.int .i64 0] 25)
    rwa [World.size_alloc, World.size_alloc] at this
  · rw [Below.heap_alloc _ _ _ (by simp only [World.size_alloc]; omega), Below.heap_alloc _ _ _ (by simp only [World.size_alloc]; omega)]
    have := heap_alloc_new (((W.alloc (.cells #[.slice none 0 0] 22)).alloc (.cells #[.int .i64 1] 3)).alloc (.cells #[.int .i64 0] 25)) (.map #[] 0)
    rwa [World.size_alloc, World.size_alloc, World.size_alloc] at this
  · rw [Below.heap_alloc _ _ _ (by simp only [World.size_alloc]; omega)]
    have := heap_alloc_new ((((W.alloc (.cells #[.slice none 0 0] 22)).alloc (.cells #[.int .i64 1] 3)).alloc (.cells #[.int .i64 0] 25)).alloc (.map #[] 0)) (.cells #[.map (some (W.heap.size + 1 + 1 + 1))] 46)
    rwa [World.size_alloc, World.size_alloc, World.size_alloc, World.size_alloc] at this
  · have := heap_alloc_new (((((W.alloc (.cells #[.slice none 0 0] 22)).alloc (.cells #[.int .i64 1] 3)).alloc (.cells #[.int .i64 0] 25)).alloc (.map #[] 0)).alloc (.cells #[.map (some (W.heap.size + 1 + 1 + 1))] 46)) (.cells #[.string rest] 9)
    rwa [World.size_alloc, World.size_alloc, World.size_alloc, World.size_alloc, World.size_alloc] at this
  · exact ((((((Below.refl _ W).alloc (Nat.le_refl _) _).alloc (by simp) _).alloc (by simp; omega) _).alloc (by simp; omega) _).alloc (by simp; omega) _).alloc (by simp; omega) _
theorem results_cell3 {fn : Func} (h : fn.results = #[.cell 2 22, .cell 3 3, .cell 4 25]) (tmps : Array Value) (w : World) (N : Nat) (v x y : Value) (h2 : tmps.getD 2 undef = .pointer (some ⟨N, 0, none⟩)) (h3 : tmps.getD 3 undef = .pointer (some ⟨N + 1, 0, none⟩)) (h4 : tmps.getD 4 undef = .pointer (some ⟨N + 1 + 1, 0, none⟩))
    (c2 : w.cell? ⟨N, 0, none⟩ = some v) (c3 : w.cell? ⟨N + 1, 0, none⟩ = some x) (c4 : w.cell? ⟨N + 1 + 1, 0, none⟩ = some y) : (results fn tmps).run Tryz.prog w = .ok (.tuple #[v, x, y]) w := by
  have e2 : tmps[2]?.getD undef = .pointer (some ⟨N, 0, none⟩) := by simpa using h2
  have e3 : tmps[3]?.getD undef = .pointer (some ⟨N + 1, 0, none⟩) := by simpa using h3
  have e4 : tmps[4]?.getD undef = .pointer (some ⟨N + 1 + 1, 0, none⟩) := by simpa using h4
  have u2 := Tryz.underlying22
  have u3 := Tryz.underlying3
  have u4 := Tryz.underlying25
  simp [results, h, e2, e3, e4, asAddr, go_sem, c2, c3, c4, u2, u3, u4]
theorem PaX.res {W V : World} {N ln : Nat} {c : Int} (h : PaX W V N ln c) {fn : Func} (hf : fn.results = #[.cell 2 22, .cell 3 3, .cell 4 25]) (tmps : Array Value) (h2 : tmps.getD 2 undef = .pointer (some ⟨N, 0, none⟩)) (h3 : tmps.getD 3 undef = .pointer (some ⟨N + 1, 0, none⟩)) (h4 : tmps.getD 4 undef = .pointer (some ⟨N + 1 + 1, 0, none⟩)) : (results fn tmps).run Tryz.prog V = .ok (.tuple #[.slice none 0 0, .int .i64 ln, .int .i64 c]) V :=
  results_cell3 hf tmps V N _ _ _ h2 h3 h4 (by rw [cell_of_row _ _ _ _ _ _ h.lb]; rfl) (by rw [cell_of_row _ _ _ _ _ _ h.nb]; rfl) (by rw [cell_of_row _ _ _ _ _ _ h.eb]; rfl)
end Go.Proofs.YtafmiilkdhdngaaGreatDoor
