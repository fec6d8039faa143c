/- Put together by program (merge2.py): Srj Srs Srr. -/
import Derived.BigQuiet
import Derived.BigRegion
import Derived.Test.YtafmiilkdhdngaaGreatDoorR2
/- Insertion sort in place. -/
namespace Go.Proofs.YtafmiilkdhdngaaGreatDoor
open Go.ChangeShapes Go.WideShapes Go.ChangeAt Go.RowKit
set_option linter.unusedVariables false
set_option linter.unusedSimpArgs false
attribute [local go_sem ↓] Go.wp_at_zero Go.wp_at_succ
def elt (x y : E5) : Bool := Srt.klt (x.a, x.b) (y.a, y.b)
theorem elt_ord : Srt.SOrd elt := Srt.klt_ord (fun x : E5 => (x.a, x.b))
def sortE (l : List E5) : List E5 := Srt.isort elt l
/-- The inner loop's row: x on its way down. -/
structure Way (pre S rest : List E5) (x : E5) (L R : List E5) : Prop where
  s : L ++ R = S
  r : ∀ y ∈ R, elt x y = true
theorem Way.done {pre S rest L R : List E5} {x : E5} (h : Way pre S rest x L R) (hu : Srt.Up elt S) (he : L = [] ∨ ∃ L' y, L = L' ++ [y] ∧ elt x y = false) : L ++ x :: R = Srt.ins elt x S := by
  have hs := h.s
  subst hs
  refine (Srt.ins_cut ?_ h.r).symm
  rcases he with rfl | ⟨L', y, rfl, hy⟩
  · intro y hy; cases hy
  · exact Srt.up_last elt_ord (List.pairwise_append.1 hu).1 hy
theorem sortE_snoc (l : List E5) (x : E5) : sortE (l ++ [x]) = Srt.ins elt x (sortE l) := Srt.isort_snoc l x
theorem sortE_up (l : List E5) : Srt.Up elt (sortE l) := Srt.isort_up elt_ord l
theorem sortE_len (l : List E5) : (sortE l).length = l.length := Srt.isort_len l
theorem sortE_one (x : E5) : sortE [x] = [x] := rfl
theorem mem_fold {α : Type} {lt : α → α → Bool} (l : List α) : ∀ {o : List α} {z : α}, z ∈ l.foldl (fun o x => Srt.ins lt x o) o → z ∈ o ∨ z ∈ l := by
  induction l with
  | nil => intro o z h; exact .inl h
  | cons x l ih =>
    intro o z h
    rcases ih h with h | h
    · rcases Srt.mem_ins h with rfl | h
      · exact .inr (List.mem_cons_self ..)
      · exact .inl h
    · exact .inr (List.mem_cons_of_mem _ h)
theorem mem_sortE {l : List E5} {z : E5} (h : z ∈ sortE l) : z ∈ l := (mem_fold l h).resolve_left (by simp)
theorem way_swap {pre L' R D : List E5} {x y : E5} {w : World} {g : Nat} {T : TypeId} (h : RowE w g T (((pre ++ ((L' ++ [y]) ++ x :: (R ++ D))).set (pre.length + L'.length + 1) y).set (pre.length + L'.length) x)) :
    RowE w g T (pre ++ (L' ++ x :: ((y :: R) ++ D))) := by
  have e : pre ++ ((L' ++ [y]) ++ x :: (R ++ D)) = (pre ++ L') ++ y :: x :: (R ++ D) := by simp
  have e2 := set_swap' (pre ++ L') (R ++ D) x y
  rw [List.length_append] at e2
  rw [e, e2] at h
  simpa using h
set_option maxRecDepth 100000 in
set_option maxHeartbeats 8000000 in
theorem ins_sort (g B N c : Nat) (T : TypeId) (pre seg post : List E5) (W : World) (hS : Srtr W B) (hne : B ≠ g) (hN : N = pre.length + seg.length + post.length) (hsm : N ≤ 1000000) (hc : N ≤ c ∧ c ≤ maxLen)
    (hform : ∀ e ∈ pre ++ (seg ++ post), ∃ a n c, e.v = .slice a n c) (h : RowE W g T (pre ++ (seg ++ post))) :
    Calls Tryz.prog 98 #[.slice (some ⟨g, 0, none⟩) N c, .int .i64 pre.length, .int .i64 ((pre.length + seg.length : Nat) : Int), .func (.func 62) #[] #[.pointer (some ⟨B, 0, none⟩)]] W fun e w' => e = .returned (.tuple #[]) ∧ But W w' g ∧ RowE w' g T (pre ++ (sortE seg ++ post)) := by
  obtain ⟨A, hA⟩ : ∃ A, pre.length = A := ⟨_, rfl⟩
  obtain ⟨M, hM⟩ : ∃ M, pre.length + seg.length = M := ⟨_, rfl⟩
  have HA := Lib.hid hA
  have HM := Lib.hid hM
  have HN := Lib.hid hN
  have hsM : M ≤ 1000000 := by omega
  have hsA : A ≤ M := by omega
  rw [hM, hA]
  have HS := Lib.hid hS
  have HH := Lib.hid h
  have HF := Lib.hid hform
  clear hA hM hN hS h hform
  go_enter Tryz.func98, Tryz.ntmps98
  go_wp2_with fail
  go_loopw [8, 9] (fun i _ wr => ∃ t : Nat, i = .int .i64 ((A + t : Nat) : Int) ∧ 1 ≤ t ∧ t ≤ 1000001 ∧ Hid (t ≤ seg.length ∨ seg = []) ∧ Hid (RowE wr g T (pre ++ (sortE (seg.take t) ++ (seg.drop t ++ post)))) ∧ Hid (But W wr g)) (fun i _ _ => 3000000 - (intOf i).toNat)
  case atStart =>
    refine ⟨1, ?_, by omega, by omega, Lib.hid ?_, Lib.hid ?_, Lib.hid (But.refl _ _)⟩
    · first | rfl | (congr 1)
    · cases seg with
      | nil => exact .inr rfl
      | cons x l => exact .inl (by simp)
    · have := HH.out
      cases seg with
      | nil => simpa [sortE, Srt.isort] using this
      | cons x l => simpa [sortE_one] using this
  case round =>
    obtain ⟨t, rfl, ht1, ht2, HT, HR, HB⟩ := hrel
    obtain ⟨I, hI⟩ : ∃ I, A + t = I := ⟨_, rfl⟩
    rw [hI]
    by_cases hlt : I < M
    case neg =>
      have d1 : decide ((I : Int) < (M : Int)) = false := decide_eq_false (by omega)
      have d1' : decide (I < M) = false := decide_eq_false hlt
      have E := Lib.hid (show RowE wr g T (pre ++ (sortE seg ++ post)) by
        have h1 := HM.out
        have h2 := HA.out
        have h3 := HR.out
        rcases HT.out with h | h
        · have e : t = seg.length := by omega
          subst e
          simpa using h3
        · subst h; simpa using h3)
      clear hI
      go_wp2_with fail
      go_end0
      exact ⟨rfl, HB.out, E.out⟩
    case pos =>
      have d1 : decide ((I : Int) < (M : Int)) = true := decide_eq_true (by omega)
      have d1' : decide (I < M) = true := decide_eq_true hlt
      have hMs := HM.out
      have hAs := HA.out
      have hts : t < seg.length := by omega
      obtain ⟨x, hx⟩ : ∃ x, seg[t] = x := ⟨_, rfl⟩
      have hdr : seg.drop t = x :: seg.drop (t + 1) := by rw [List.drop_eq_getElem_cons hts, hx]
      have htk : seg.take (t + 1) = seg.take t ++ [x] := by rw [List.take_succ_eq_append_getElem hts, hx]
      obtain ⟨S, hSd⟩ : ∃ S, sortE (seg.take t) = S := ⟨_, rfl⟩
      have hSl : S.length = t := by rw [← hSd, sortE_len, List.length_take]; omega
      have HSU : Hid (Srt.Up elt S) := Lib.hid (hSd ▸ sortE_up _)
      obtain ⟨D, hD⟩ : ∃ D, seg.drop (t + 1) ++ post = D := ⟨_, rfl⟩
      have HR0 := Lib.hid (show RowE wr g T (pre ++ (S ++ x :: ([] ++ D))) by
        have := HR.out
        rw [hdr, hSd] at this
        rw [List.nil_append, ← hD]
        exact this)
      have NEXT := Lib.hid (fun (w' : World) (h : RowE w' g T (pre ++ (Srt.ins elt x S ++ D))) => (show RowE w' g T (pre ++ (sortE (seg.take (t + 1)) ++ (seg.drop (t + 1) ++ post))) by
        rw [htk, sortE_snoc, hSd, hD]; exact h))
      have MEMX := Lib.hid (show ∃ a n c, x.v = .slice a n c from HF.out x (by rw [← hx]; simp))
      have MEMS := Lib.hid (fun y (hy : y ∈ S) => HF.out y (by
        rw [← hSd] at hy
        have := List.mem_of_mem_take (mem_sortE hy)
        simp [this]))
      obtain ⟨xa, xb, xk, xn, xv⟩ := x
      obtain ⟨xp, xm, xc, hxv⟩ := MEMX.out
      simp only at hxv
      subst hxv
      have hIN : I < N := by have := HN.out; omega
      have HNN := Lib.hid (show M ≤ N by have := HN.out; omega)
      have hT1 : t + 1 ≤ seg.length := hts
      have HT1 : Hid (t + 1 ≤ seg.length ∨ seg = []) := Lib.hid (.inl hT1)
      have hLI : ∀ n : Nat, S.length = t → n ≤ S.length → A + n ≤ I := fun n h1 h2 => by omega
      have HI := Lib.hid hI
      have HSL := Lib.hid hSl
      have HAS := Lib.hid hAs
      clear hx hdr htk hSd hD hMs hAs hts HT HR MEMX hT1 hI hSl hLI ht2
      have ht3 : t ≤ 1000000 := by have := HI.out; omega
      go_wp2_with fail
      go_loopw [9] (fun j wi => ∃ L R : List E5, j = .int .i64 ((A + L.length : Nat) : Int) ∧ Hid (Way pre S D ⟨xa, xb, xk, xn, .slice xp xm xc⟩ L R) ∧ Hid (RowE wi g T (pre ++ (L ++ ⟨xa, xb, xk, xn, .slice xp xm xc⟩ :: (R ++ D)))) ∧ Hid (But wr wi g)) (fun j _ => (intOf j).toNat)
      case atStart =>
        refine ⟨S, [], ?_, Lib.hid ⟨by simp, fun y hy => by cases hy⟩, HR0, Lib.hid (But.refl _ _)⟩
        rw [HSL.out, HI.out]
      case round =>
        obtain ⟨L, R, rfl, HW, HRi, HBi⟩ := hrel
        have hFIN : (L = [] ∨ ∃ L' y, L = L' ++ [y] ∧ elt ⟨xa, xb, xk, xn, .slice xp xm xc⟩ y = false) → ∀ w', But wr w' g → RowE w' g T (pre ++ (L ++ ⟨xa, xb, xk, xn, .slice xp xm xc⟩ :: (R ++ D))) → Hid (RowE w' g T (pre ++ (sortE (seg.take (t + 1)) ++ (seg.drop (t + 1) ++ post)))) ∧ Hid (But W w' g) := fun he w' hb h => by
          refine ⟨Lib.hid (NEXT.out w' ?_), Lib.hid ((HB.out.trans HBi.out).trans hb)⟩
          rw [← HW.out.done HSU.out he]
          simpa using h
        have FIN := Lib.hid hFIN
        clear hFIN
        rcases List.eq_nil_or_concat L with hL | ⟨L', y, hL⟩
        · subst hL
          have d2 : decide (((A + ([] : List E5).length : Nat) : Int) > (A : Int)) = false := decide_eq_false (by simp)
          have d2' : decide ((A : Int) > (A : Int)) = false := decide_eq_false (by omega)
          have FB := Lib.hid (fun w' hb => FIN.out (.inl rfl) w' (But.of_below g hb) (HRi.out.below hb))
          rw [show ((A + ([] : List E5).length : Nat) : Int) = (A : Int) by simp]
          clear FIN NEXT HW HRi MEMS HSU HR0
          go_wp2_with fail
          go_quiet (fail)
          go_wp2_with fail
          go_roundw
          case rel =>
            obtain ⟨F1, F2⟩ := FB.out _ (below_drewN (Below.refl _ _) _)
            exact ⟨t + 1, by have := HI.out; rw [← this]; go_num, by omega, by omega, HT1, F1, F2⟩
          case measure => simp only [intOf]; omega
        · rw [List.concat_eq_append] at hL
          subst hL
          obtain ⟨ya, yb, yk, yn, yv⟩ := y
          obtain ⟨yp, ym, yc, hyv⟩ := MEMS.out ⟨ya, yb, yk, yn, yv⟩ (by rw [← HW.out.s]; simp)
          simp only at hyv
          subst hyv
          obtain ⟨q, hq⟩ : ∃ q, A + L'.length = q := ⟨_, rfl⟩
          obtain ⟨J, hJ⟩ : ∃ J, q + 1 = J := ⟨_, rfl⟩
          have hLl := congrArg List.length HW.out.s
          simp only [List.length_append, List.length_cons, List.length_nil] at hLl
          have hSl := HSL.out
          have hII := HI.out
          have hAA := HA.out
          have hJI : J ≤ I := by omega
          have hJN : J < N := by omega
          have hqN : q < N := by omega
          rw [show ((A + (L' ++ [(⟨ya, yb, yk, yn, .slice yp ym yc⟩ : E5)]).length : Nat) : Int) = (J : Int) by simp; omega]
          have hsub : (J : Int) - 1 = (q : Int) := by omega
          have hwr : IntKind.i64.wrap ((J : Int) - 1) = (q : Int) := by rw [IntWalk.i64_in _ (by omega)]; omega
          clear hsub
          have hq0 : (0 : Int) ≤ (q : Int) := by omega
          have hqI : (q : Int) < (N : Int) := by omega
          have hJ0 : (0 : Int) ≤ (J : Int) := by omega
          have hJI2 : (J : Int) < (N : Int) := by omega
          have d2 : decide ((J : Int) > (A : Int)) = true := decide_eq_true (by omega)
          have d2' : decide (A < J) = true := decide_eq_true (by omega)
          have iX : (pre ++ ((L' ++ [(⟨ya, yb, yk, yn, .slice yp ym yc⟩ : E5)]) ++ (⟨xa, xb, xk, xn, .slice xp xm xc⟩ : E5) :: (R ++ D)))[J]? = some ⟨xa, xb, xk, xn, .slice xp xm xc⟩ := by
            rw [← hJ, ← hq, ← hAA, show ∀ (u v : List E5), u ++ ((L' ++ [(⟨ya, yb, yk, yn, .slice yp ym yc⟩ : E5)]) ++ v) = (u ++ L' ++ [⟨ya, yb, yk, yn, .slice yp ym yc⟩]) ++ v from fun u v => by simp, List.getElem?_append_right (by simp; omega)]; rw [show pre.length + L'.length + 1 - (pre ++ L' ++ [(⟨ya, yb, yk, yn, .slice yp ym yc⟩ : E5)]).length = 0 by simp; omega]; rfl
          have iY : (pre ++ ((L' ++ [(⟨ya, yb, yk, yn, .slice yp ym yc⟩ : E5)]) ++ (⟨xa, xb, xk, xn, .slice xp xm xc⟩ : E5) :: (R ++ D)))[q]? = some ⟨ya, yb, yk, yn, .slice yp ym yc⟩ := by
            rw [← hq, ← hAA]; simp
          have MK := Lib.hid (fun w' (hb : Below wr.heap.size wr w') => (show w'.cell? ⟨g, J * 5, none⟩ = some (.int .i64 xa) ∧ w'.cell? ⟨g, J * 5 + 1, none⟩ = some (.int .i64 xb) ∧ w'.cell? ⟨g, J * 5 + 2, none⟩ = some (.int .i64 xk) ∧ w'.cell? ⟨g, J * 5 + 3, none⟩ = some (.int .i64 xn) ∧ w'.cell? ⟨g, J * 5 + 4, none⟩ = some (.slice xp xm xc) ∧ w'.cell? ⟨g, q * 5, none⟩ = some (.int .i64 ya) ∧ w'.cell? ⟨g, q * 5 + 1, none⟩ = some (.int .i64 yb) ∧ w'.cell? ⟨g, q * 5 + 2, none⟩ = some (.int .i64 yk) ∧ w'.cell? ⟨g, q * 5 + 3, none⟩ = some (.int .i64 yn) ∧ w'.cell? ⟨g, q * 5 + 4, none⟩ = some (.slice yp ym yc) ∧ Below wr.heap.size wr w' from by
            obtain ⟨x0, x1, x2, x3, x4⟩ := (HRi.out.below hb).cells iX
            obtain ⟨y0, y1, y2, y3, y4⟩ := (HRi.out.below hb).cells iY
            exact ⟨x0, x1, x2, x3, x4, y0, y1, y2, y3, y4, hb⟩))
          have KP := Lib.hid (fun (wa w' : World) (hS : wa.cell? ⟨g, J * 5, none⟩ = some (.int .i64 xa) ∧ wa.cell? ⟨g, J * 5 + 1, none⟩ = some (.int .i64 xb) ∧ wa.cell? ⟨g, J * 5 + 2, none⟩ = some (.int .i64 xk) ∧ wa.cell? ⟨g, J * 5 + 3, none⟩ = some (.int .i64 xn) ∧ wa.cell? ⟨g, J * 5 + 4, none⟩ = some (.slice xp xm xc) ∧ wa.cell? ⟨g, q * 5, none⟩ = some (.int .i64 ya) ∧ wa.cell? ⟨g, q * 5 + 1, none⟩ = some (.int .i64 yb) ∧ wa.cell? ⟨g, q * 5 + 2, none⟩ = some (.int .i64 yk) ∧ wa.cell? ⟨g, q * 5 + 3, none⟩ = some (.int .i64 yn) ∧ wa.cell? ⟨g, q * 5 + 4, none⟩ = some (.slice yp ym yc) ∧ Below wr.heap.size wr wa) (hb : Below wa.heap.size wa w') => MK.out w' (hS.2.2.2.2.2.2.2.2.2.2.trans (hb.mono hS.2.2.2.2.2.2.2.2.2.2.size)))
          have CL := Lib.hid (fun w' (hb : Below wr.heap.size wr w') => (show Calls Tryz.prog 62 #[.agg #[.int .i64 xa, .int .i64 xb, .int .i64 xk, .int .i64 xn, .slice xp xm xc], .agg #[.int .i64 ya, .int .i64 yb, .int .i64 yk, .int .i64 yn, .slice yp ym yc], .pointer (some ⟨B, 0, none⟩)] w' fun e w'' => e = .returned (.int .i64 (cmpK xa xb ya yb)) ∧ Below w'.heap.size w' w'' from e_clo B ⟨xa, xb, xk, xn, .slice xp xm xc⟩ ⟨ya, yb, yk, yn, .slice yp ym yc⟩ w' (((HS.out.but HB.out hne).but HBi.out hne).below hb)))
          have hk := cmpK_lt xa xb ya yb
          generalize cmpK xa xb ya yb = z at *
          by_cases he : Srt.klt (xa, xb) (ya, yb) = true
          · rw [he] at hk
            have hk' : decide (z < 0) = true := hk
            have he' : elt ⟨xa, xb, xk, xn, .slice xp xm xc⟩ ⟨ya, yb, yk, yn, .slice yp ym yc⟩ = true := by unfold elt; exact he
            have WAY := Lib.hid (show Way pre S D ⟨xa, xb, xk, xn, .slice xp xm xc⟩ L' (⟨ya, yb, yk, yn, .slice yp ym yc⟩ :: R) from ⟨by rw [← HW.out.s]; simp, fun u hu => by
              rcases List.mem_cons.1 hu with rfl | hu
              · exact he'
              · exact HW.out.r u hu⟩)
            have SW := Lib.hid (fun w' (hb : Below wr.heap.size wr w') => (show RowE (s5o (s5o w' g (J * 5) ⟨ya, yb, yk, yn, .slice yp ym yc⟩) g (q * 5) ⟨xa, xb, xk, xn, .slice xp xm xc⟩) g T (pre ++ (L' ++ ⟨xa, xb, xk, xn, .slice xp xm xc⟩ :: ((⟨ya, yb, yk, yn, .slice yp ym yc⟩ :: R) ++ D))) from by
              have h := ((HRi.out.below hb).set J ⟨ya, yb, yk, yn, .slice yp ym yc⟩).set q ⟨xa, xb, xk, xn, .slice xp xm xc⟩
              refine way_swap ?_
              have e1 : pre.length + L'.length + 1 = J := by omega
              have e2 : pre.length + L'.length = q := by omega
              rw [e1, e2]
              exact h))
            have BW := Lib.hid (fun w' (hb : Below wr.heap.size wr w') => (show But W (s5o (s5o w' g (J * 5) ⟨ya, yb, yk, yn, .slice yp ym yc⟩) g (q * 5) ⟨xa, xb, xk, xn, .slice xp xm xc⟩) g from
              (((HB.out.trans HBi.out).trans (But.of_below g hb)).trans (s5o_but _ _ _ _)).trans (s5o_but _ _ _ _)))
            have BI := Lib.hid (fun w' (hb : Below wr.heap.size wr w') => (show But _ (s5o (s5o w' g (J * 5) ⟨ya, yb, yk, yn, .slice yp ym yc⟩) g (q * 5) ⟨xa, xb, xk, xn, .slice xp xm xc⟩) g from
              ((HBi.out.trans (But.of_below g hb)).trans (s5o_but _ _ _ _)).trans (s5o_but _ _ _ _)))
            have FR := Lib.hid (fun w' (hb : Below wr.heap.size wr w') o => (HRi.out.below hb).free o)
            have hqL : q = A + L'.length := hq.symm
            have HQ := Lib.hid hqL
            have hJ1 : Hid (q + 1 = J) := Lib.hid hJ
            clear FIN NEXT HW MEMS HSU HR0 iX iY he he' hLl hSl hII hAA hq hqL hJ HRi
            go_wp2_with fail
            go_region_held3 (fun w' => w'.cell? ⟨g, J * 5, none⟩ = some (.int .i64 xa) ∧ w'.cell? ⟨g, J * 5 + 1, none⟩ = some (.int .i64 xb) ∧ w'.cell? ⟨g, J * 5 + 2, none⟩ = some (.int .i64 xk) ∧ w'.cell? ⟨g, J * 5 + 3, none⟩ = some (.int .i64 xn) ∧ w'.cell? ⟨g, J * 5 + 4, none⟩ = some (.slice xp xm xc) ∧ w'.cell? ⟨g, q * 5, none⟩ = some (.int .i64 ya) ∧ w'.cell? ⟨g, q * 5 + 1, none⟩ = some (.int .i64 yb) ∧ w'.cell? ⟨g, q * 5 + 2, none⟩ = some (.int .i64 yk) ∧ w'.cell? ⟨g, q * 5 + 3, none⟩ = some (.int .i64 yn) ∧ w'.cell? ⟨g, q * 5 + 4, none⟩ = some (.slice yp ym yc) ∧ Below wr.heap.size wr w') (first | exact MK.out _ ((Below.refl _ _).drew) | assumption | (refine KP.out _ _ ?_ hb; first | assumption | exact MK.out _ ((Below.refl _ _).drew))) (first | (go_at_call 62; (with_reducible refine (CL.out _ (by go_split_ands; assumption)).mono ?_); rintro e w' ⟨rfl, hb⟩))
            rename_i hEnd
            obtain ⟨x0, x1, x2, x3, x4, y0, y1, y2, y3, y4, hBB⟩ := hEnd
            have hB4 := Lib.hid hBB
            have fr := FR.out _ hBB
            have f0 := fr (J * 5)
            have f1 := fr (J * 5 + 1)
            have f2 := fr (J * 5 + 2)
            have f3 := fr (J * 5 + 3)
            have f4 := fr (J * 5 + 4)
            have g0 := fr (q * 5)
            have g1 := fr (q * 5 + 1)
            have g2 := fr (q * 5 + 2)
            have g3 := fr (q * 5 + 3)
            have g4 := fr (q * 5 + 4)
            have hJq : ¬ J = q := by have := hJ1.out; omega
            have hqJ : ¬ q = J := by have := hJ1.out; omega
            have E1 := SW.out _ hBB
            have E2 := BI.out _ hBB
            obtain ⟨wn, hwn⟩ : ∃ wn, s5o (s5o w' g (J * 5) ⟨ya, yb, yk, yn, .slice yp ym yc⟩) g (q * 5) ⟨xa, xb, xk, xn, .slice xp xm xc⟩ = wn := ⟨_, rfl⟩
            rw [hwn] at E1 E2
            simp only [s5o] at hwn
            have HWN := Lib.hid hwn
            have E3 : Hid (RowE wn.drew g T _) := Lib.hid E1
            have E4 := Lib.hid (E2.trans (But.drew _ _))
            clear E1 E2 hwn
            clear hBB hb fr MK KP CL SW BW BI FR
            go_wp2_with fail
            go_region
            rw [HWN.out]
            clear x0 x1 x2 x3 x4 y0 y1 y2 y3 y4 f0 f1 f2 f3 f4 g0 g1 g2 g3 g4 HWN hJq hqJ
            go_wp2_with fail
            go_roundw
            case rel => exact ⟨L', _, by rw [← HQ.out], WAY, E3, E4⟩
            case measure => simp only [intOf]; have := hJ1.out; omega
          · have he' : elt ⟨xa, xb, xk, xn, .slice xp xm xc⟩ ⟨ya, yb, yk, yn, .slice yp ym yc⟩ = false := by
              unfold elt; simpa using he
            rw [show Srt.klt (xa, xb) (ya, yb) = false from he'] at hk
            have hk' : decide (z < 0) = false := hk
            have FIN2 := Lib.hid (FIN.out (.inr ⟨L', _, rfl, he'⟩))
            have HRB := Lib.hid (fun w' (hb : Below wr.heap.size wr w') => HRi.out.below hb)
            clear FIN NEXT HW MEMS HSU HR0 iX iY he he' hLl hSl hII hAA hq hJ HRi
            go_wp2_with fail
            go_region_held3 (fun w' => w'.cell? ⟨g, J * 5, none⟩ = some (.int .i64 xa) ∧ w'.cell? ⟨g, J * 5 + 1, none⟩ = some (.int .i64 xb) ∧ w'.cell? ⟨g, J * 5 + 2, none⟩ = some (.int .i64 xk) ∧ w'.cell? ⟨g, J * 5 + 3, none⟩ = some (.int .i64 xn) ∧ w'.cell? ⟨g, J * 5 + 4, none⟩ = some (.slice xp xm xc) ∧ w'.cell? ⟨g, q * 5, none⟩ = some (.int .i64 ya) ∧ w'.cell? ⟨g, q * 5 + 1, none⟩ = some (.int .i64 yb) ∧ w'.cell? ⟨g, q * 5 + 2, none⟩ = some (.int .i64 yk) ∧ w'.cell? ⟨g, q * 5 + 3, none⟩ = some (.int .i64 yn) ∧ w'.cell? ⟨g, q * 5 + 4, none⟩ = some (.slice yp ym yc) ∧ Below wr.heap.size wr w') (first | exact MK.out _ ((Below.refl _ _).drew) | assumption | (refine KP.out _ _ ?_ hb; first | assumption | exact MK.out _ ((Below.refl _ _).drew))) (first | (go_at_call 62; (with_reducible refine (CL.out _ (by go_split_ands; assumption)).mono ?_); rintro e w' ⟨rfl, hb⟩))
            rename_i hEnd
            obtain ⟨-, -, -, -, -, -, -, -, -, -, hBB⟩ := hEnd
            obtain ⟨F1, F2⟩ := FIN2.out _ (But.of_below g hBB) (HRB.out _ hBB)
            clear FIN2 HRB hBB MK KP CL
            go_wp2_with fail
            go_roundw
            case rel => exact ⟨t + 1, by have := HI.out; rw [← this]; go_num, by omega, by omega, HT1, F1, F2⟩
            case measure => simp only [intOf]; omega
end Go.Proofs.YtafmiilkdhdngaaGreatDoor
/- Two ranges of a row swapped in place. -/
namespace Go.Proofs.YtafmiilkdhdngaaGreatDoor
open Go.ChangeShapes Go.WideShapes Go.ChangeAt Go.RowKit
set_option linter.unusedVariables false
set_option linter.unusedSimpArgs false
attribute [local go_sem ↓] Go.wp_at_zero Go.wp_at_succ
theorem set_two {α : Type} (P M Q : List α) (x z : α) : ((P ++ x :: (M ++ z :: Q)).set P.length z).set (P.length + 1 + M.length) x = P ++ z :: (M ++ x :: Q) := by
  have h1 : (P ++ x :: (M ++ z :: Q)).set P.length z = (P ++ z :: M) ++ z :: Q := by
    rw [List.set_append_right _ _ (Nat.le_refl _)]; simp
  rw [h1, show P.length + 1 + M.length = (P ++ z :: M).length by simp; omega, List.set_append_right _ _ (Nat.le_refl _)]
  simp
/-- The row when t are swapped. -/
def swp (pre X Y Z post : List E5) (t : Nat) : List E5 := pre ++ ((Z.take t ++ X.drop t) ++ (Y ++ ((X.take t ++ Z.drop t) ++ post)))
structure SwpAt (pre X Y Z post : List E5) (t : Nat) (x z : E5) (p r : Nat) : Prop where
  hx : (swp pre X Y Z post t)[p]? = some x
  hz : (swp pre X Y Z post t)[r]? = some z
  hs : ((swp pre X Y Z post t).set p z).set r x = swp pre X Y Z post (t + 1)
  mx : x ∈ X
  mz : z ∈ Z
theorem swp_at {pre X Y Z post : List E5} {t : Nat} (ht : t < X.length) (hl : X.length = Z.length) : ∃ x z, SwpAt pre X Y Z post t x z (pre.length + t) (pre.length + X.length + Y.length + t) := by
  have ht' : t < Z.length := by omega
  refine ⟨X[t], Z[t], ?_⟩
  have hX : X.drop t = X[t] :: X.drop (t + 1) := List.drop_eq_getElem_cons ht
  have hZ : Z.drop t = Z[t] :: Z.drop (t + 1) := List.drop_eq_getElem_cons ht'
  have hX2 : X.take (t + 1) = X.take t ++ [X[t]] := List.take_succ_eq_append_getElem ht
  have hZ2 : Z.take (t + 1) = Z.take t ++ [Z[t]] := List.take_succ_eq_append_getElem ht'
  have e : swp pre X Y Z post t = (pre ++ Z.take t) ++ X[t] :: ((X.drop (t + 1) ++ (Y ++ X.take t)) ++ Z[t] :: (Z.drop (t + 1) ++ post)) := by
    unfold swp; rw [hX, hZ]; simp only [List.append_assoc, List.cons_append, List.nil_append]
  have e' : swp pre X Y Z post (t + 1) = (pre ++ Z.take t) ++ Z[t] :: ((X.drop (t + 1) ++ (Y ++ X.take t)) ++ X[t] :: (Z.drop (t + 1) ++ post)) := by
    unfold swp; rw [hX2, hZ2]; simp only [List.append_assoc, List.cons_append, List.nil_append]
  have l1 : (pre ++ Z.take t).length = pre.length + t := by rw [List.length_append, List.length_take]; omega
  have l2 : (pre ++ Z.take t).length + 1 + (X.drop (t + 1) ++ (Y ++ X.take t)).length = pre.length + X.length + Y.length + t := by
    simp only [List.length_append, List.length_take, List.length_drop]; omega
  have hs := set_two (pre ++ Z.take t) (X.drop (t + 1) ++ (Y ++ X.take t)) (Z.drop (t + 1) ++ post) X[t] Z[t]
  rw [l2, l1] at hs
  refine ⟨?_, ?_, ?_, List.getElem_mem _, List.getElem_mem _⟩
  · rw [e, List.getElem?_append_right (by omega), l1, Nat.sub_self]; rfl
  · rw [e, show ∀ (P M Q : List E5) (x z : E5), P ++ x :: (M ++ z :: Q) = (P ++ x :: M) ++ z :: Q from fun P M Q x z => by simp]
    rw [List.getElem?_append_right (by rw [List.length_append, List.length_cons]; omega)]
    rw [show pre.length + X.length + Y.length + t - ((pre ++ Z.take t) ++ X[t] :: (X.drop (t + 1) ++ (Y ++ X.take t))).length = 0 by rw [List.length_append, List.length_cons]; omega]
    rfl
  · rw [e, e']; exact hs
theorem swp_zero (pre X Y Z post : List E5) : swp pre X Y Z post 0 = pre ++ (X ++ (Y ++ (Z ++ post))) := by simp [swp]
theorem swp_all {pre X Y Z post : List E5} (hl : X.length = Z.length) : swp pre X Y Z post X.length = pre ++ (Z ++ (Y ++ (X ++ post))) := by
  have h1 : Z.take X.length = Z := by rw [hl]; simp
  have h2 : Z.drop X.length = [] := by rw [hl]; simp
  simp [swp, h1, h2]
set_option maxRecDepth 100000 in
set_option maxHeartbeats 8000000 in
theorem swap_range (g N c : Nat) (T : TypeId) (pre X Y Z post : List E5) (f : Value) (W : World) (hl : X.length = Z.length) (hN : N = pre.length + X.length + Y.length + Z.length + post.length) (hsm : N ≤ 1000000) (hc : N ≤ c ∧ c ≤ maxLen)
    (hform : ∀ e ∈ pre ++ (X ++ (Y ++ (Z ++ post))), ∃ a n c, e.v = .slice a n c) (h : RowE W g T (pre ++ (X ++ (Y ++ (Z ++ post))))) :
    Calls Tryz.prog 129 #[.slice (some ⟨g, 0, none⟩) N c, .int .i64 pre.length, .int .i64 ((pre.length + X.length + Y.length : Nat) : Int), .int .i64 X.length, f] W fun e w' => e = .returned (.tuple #[]) ∧ But W w' g ∧ RowE w' g T (pre ++ (Z ++ (Y ++ (X ++ post)))) := by
  have HZ := Lib.hid (show RowE W g T (swp pre X Y Z post 0) by rw [swp_zero]; exact h)
  have HF := Lib.hid (show ∀ e, e ∈ X ∨ e ∈ Z → ∃ a n c, e.v = .slice a n c from fun e he => hform e (by rcases he with he | he <;> simp [he]))
  obtain ⟨A, hA⟩ : ∃ A, pre.length = A := ⟨_, rfl⟩
  obtain ⟨M, hM⟩ : ∃ M, pre.length + X.length + Y.length = M := ⟨_, rfl⟩
  obtain ⟨n, hn⟩ : ∃ n, X.length = n := ⟨_, rfl⟩
  have hAN : A + n ≤ N := by omega
  have hMN : M + n ≤ N := by omega
  have hAM : A + n ≤ M := by omega
  have HFM := Lib.hid (fun t (ht : t < n) => (show ∃ x z, SwpAt pre X Y Z post t x z (A + t) (M + t) by
    rw [← hA, ← hM]; exact swp_at (by omega) hl))
  have HE := Lib.hid (show swp pre X Y Z post n = pre ++ (Z ++ (Y ++ (X ++ post))) by rw [← hn]; exact swp_all hl)
  rw [hM, hn, hA]
  clear hA hM hn hN h hform hl
  go_enter Tryz.func129, Tryz.ntmps129
  go_wp2_with fail
  go_loopw [10] (fun i wr => ∃ t : Nat, i = .int .i64 t ∧ t ≤ n ∧ Hid (RowE wr g T (swp pre X Y Z post t)) ∧ Hid (But W wr g)) (fun i _ => n - (intOf i).toNat)
  case atStart => exact ⟨0, rfl, by omega, HZ, Lib.hid (But.refl _ _)⟩
  case round =>
    obtain ⟨t, rfl, ht, HR, HB⟩ := hrel
    by_cases hlt : t < n
    case neg =>
      obtain rfl : t = n := by omega
      have d1 : decide ((t : Int) < (t : Int)) = false := decide_eq_false (by omega)
      go_wp2_with fail
      go_end0
      refine ⟨rfl, HB.out, ?_⟩
      rw [← HE.out]; exact HR.out
    case pos =>
      have d1 : decide ((t : Int) < (n : Int)) = true := decide_eq_true (by omega)
      have d1' : decide (t < n) = true := decide_eq_true hlt
      obtain ⟨x, z, H⟩ := HFM.out t hlt
      obtain ⟨xa, xb, xk, xn, xv⟩ := x
      obtain ⟨ya, yb, yk, yn, yv⟩ := z
      obtain ⟨xp, xm, xc, hxv⟩ := HF.out _ (.inl H.mx)
      obtain ⟨yp, ym, yc, hyv⟩ := HF.out _ (.inr H.mz)
      simp only at hxv hyv
      subst hxv hyv
      obtain ⟨q, hq⟩ : ∃ q, A + t = q := ⟨_, rfl⟩
      obtain ⟨J, hJ⟩ : ∃ J, M + t = J := ⟨_, rfl⟩
      rw [hq, hJ] at H
      have w1 : IntKind.i64.wrap ((A : Int) + (t : Int)) = (q : Int) := by rw [IntWalk.i64_in _ (by omega)]; omega
      have w2 : IntKind.i64.wrap ((M : Int) + (t : Int)) = (J : Int) := by rw [IntWalk.i64_in _ (by omega)]; omega
      have hqN : q < N := by omega
      have hJN : J < N := by omega
      have hq0 : (0 : Int) ≤ (q : Int) := by omega
      have hqI : (q : Int) < (N : Int) := by omega
      have hJ0 : (0 : Int) ≤ (J : Int) := by omega
      have hJI : (J : Int) < (N : Int) := by omega
      have hJq : ¬ J = q := by omega
      have hqJ : ¬ q = J := by omega
      obtain ⟨x0, x1, x2, x3, x4⟩ := HR.out.cells H.hx
      obtain ⟨y0, y1, y2, y3, y4⟩ := HR.out.cells H.hz
      have fr := HR.out.free
      have f0 := fr (J * 5)
      have f1 := fr (J * 5 + 1)
      have f2 := fr (J * 5 + 2)
      have f3 := fr (J * 5 + 3)
      have f4 := fr (J * 5 + 4)
      have g0 := fr (q * 5)
      have g1 := fr (q * 5 + 1)
      have g2 := fr (q * 5 + 2)
      have g3 := fr (q * 5 + 3)
      have g4 := fr (q * 5 + 4)
      have E1 := (HR.out.set q ⟨ya, yb, yk, yn, .slice yp ym yc⟩).set J ⟨xa, xb, xk, xn, .slice xp xm xc⟩
      rw [H.hs] at E1
      have E2 := (HB.out.trans (s5o_but wr g (q * 5) ⟨ya, yb, yk, yn, .slice yp ym yc⟩)).trans (s5o_but _ g (J * 5) ⟨xa, xb, xk, xn, .slice xp xm xc⟩)
      obtain ⟨wn, hwn⟩ : ∃ wn, s5o (s5o wr g (q * 5) ⟨ya, yb, yk, yn, .slice yp ym yc⟩) g (J * 5) ⟨xa, xb, xk, xn, .slice xp xm xc⟩ = wn := ⟨_, rfl⟩
      rw [hwn] at E1 E2
      simp only [s5o] at hwn
      have HWN := Lib.hid hwn
      have E3 : Hid (RowE wn.drew g T _) := Lib.hid E1
      have E4 := Lib.hid (E2.trans (But.drew _ _))
      clear E1 E2 hwn fr H hq hJ HR
      go_wp2_with fail
      go_region
      rw [HWN.out]
      clear x0 x1 x2 x3 x4 y0 y1 y2 y3 y4 f0 f1 f2 f3 f4 g0 g1 g2 g3 g4 HWN hJq hqJ w1 w2
      go_wp2_with fail
      go_roundw
      case rel => exact ⟨t + 1, by go_num, by omega, E3, E4⟩
      case measure => simp only [intOf]; omega
end Go.Proofs.YtafmiilkdhdngaaGreatDoor
/- Two neighbouring parts of a row rotated in place. -/
namespace Go.Proofs.YtafmiilkdhdngaaGreatDoor
open Go.ChangeShapes Go.WideShapes Go.ChangeAt Go.RowKit
set_option linter.unusedVariables false
set_option linter.unusedSimpArgs false
attribute [local go_sem ↓] Go.wp_at_zero Go.wp_at_succ
def Slv (l : List E5) : Prop := ∀ e ∈ l, ∃ a n c, e.v = .slice a n c
theorem swap_range' (a b n g N c : Nat) (T : TypeId) (pre X Y Z post : List E5) (f : Value) (W : World) (ha : pre.length = a) (hb : pre.length + X.length + Y.length = b) (hn : X.length = n) (hl : X.length = Z.length) (hN : N = pre.length + X.length + Y.length + Z.length + post.length) (hsm : N ≤ 1000000) (hc : N ≤ c ∧ c ≤ maxLen)
    (hform : Slv (pre ++ (X ++ (Y ++ (Z ++ post))))) (h : RowE W g T (pre ++ (X ++ (Y ++ (Z ++ post))))) :
    Calls Tryz.prog 129 #[.slice (some ⟨g, 0, none⟩) N c, .int .i64 a, .int .i64 b, .int .i64 n, f] W fun e w' => e = .returned (.tuple #[]) ∧ But W w' g ∧ RowE w' g T (pre ++ (Z ++ (Y ++ (X ++ post)))) := by
  subst ha hb hn
  exact swap_range g N c T pre X Y Z post f W hl hN hsm hc hform h
/-- What is left to rotate. -/
structure Rot (F : List E5) (m N : Nat) (p P Q r : List E5) : Prop where
  i1 : 1 ≤ P.length
  j1 : 1 ≤ Q.length
  m : p.length + P.length = m
  n : N = p.length + P.length + Q.length + r.length
  f : p ++ (Q ++ (P ++ r)) = F
theorem Rot.big {F p P Q r : List E5} {m N : Nat} (h : Rot F m N p P Q r) (hg : Q.length < P.length) : Rot F m N (p ++ Q) (P.drop Q.length) (P.take Q.length) r ∧ p ++ (P.take Q.length ++ (P.drop Q.length ++ (Q ++ r))) = p ++ (P ++ (Q ++ r)) := by
  obtain ⟨h1, h2, h3, h4, h5⟩ := h
  refine ⟨⟨by rw [List.length_drop]; omega, by rw [List.length_take]; omega, by rw [List.length_append, List.length_drop]; omega, by rw [List.length_append, List.length_drop, List.length_take]; omega, ?_⟩, ?_⟩
  · rw [← h5, List.append_assoc, ← List.append_assoc (P.take Q.length), List.take_append_drop]
  · rw [← List.append_assoc (P.take Q.length), List.take_append_drop]
theorem Rot.small {F p P Q r : List E5} {m N : Nat} (h : Rot F m N p P Q r) (hg : P.length < Q.length) : Rot F m N p (Q.drop (Q.length - P.length)) (Q.take (Q.length - P.length)) (P ++ r) ∧ p ++ (P ++ (Q.take (Q.length - P.length) ++ (Q.drop (Q.length - P.length) ++ r))) = p ++ (P ++ (Q ++ r)) := by
  obtain ⟨h1, h2, h3, h4, h5⟩ := h
  refine ⟨⟨by rw [List.length_drop]; omega, by rw [List.length_take]; omega, by rw [List.length_drop]; omega, by rw [List.length_append, List.length_drop, List.length_take]; omega, ?_⟩, ?_⟩
  · rw [← h5, ← List.append_assoc (Q.take _), List.take_append_drop]
  · rw [← List.append_assoc (Q.take _), List.take_append_drop]
theorem slv_small {p P Q r : List E5} {K : Nat} (h : Slv (p ++ (P ++ (Q ++ r)))) : Slv (p ++ (Q.drop K ++ (Q.take K ++ (P ++ r)))) := fun e he => h e (by
  simp only [List.mem_append] at he ⊢
  rcases he with he | he | he | he | he
  · exact .inl he
  · exact .inr (.inr (.inl (List.mem_of_mem_drop he)))
  · exact .inr (.inr (.inl (List.mem_of_mem_take he)))
  · exact .inr (.inl he)
  · exact .inr (.inr (.inr he)))
theorem slv_big {p P Q r : List E5} {K : Nat} (h : Slv (p ++ (P ++ (Q ++ r)))) : Slv ((p ++ Q) ++ (P.drop K ++ (P.take K ++ r))) := fun e he => h e (by
  simp only [List.mem_append] at he ⊢
  rcases he with (he | he) | he | he | he
  · exact .inl he
  · exact .inr (.inr (.inl he))
  · exact .inr (.inl (List.mem_of_mem_drop he))
  · exact .inr (.inl (List.mem_of_mem_take he))
  · exact .inr (.inr (.inr he)))
set_option maxRecDepth 100000 in
set_option maxHeartbeats 8000000 in
theorem rotate_at (a m b g N c : Nat) (T : TypeId) (pre P Q post : List E5) (f : Value) (W : World) (ha : pre.length = a) (hm : pre.length + P.length = m) (hb : pre.length + P.length + Q.length = b) (hP : 1 ≤ P.length) (hQ : 1 ≤ Q.length) (hN : N = pre.length + P.length + Q.length + post.length) (hsm : N ≤ 1000000) (hc : N ≤ c ∧ c ≤ maxLen)
    (hform : Slv (pre ++ (P ++ (Q ++ post)))) (h : RowE W g T (pre ++ (P ++ (Q ++ post)))) :
    Calls Tryz.prog 111 #[.slice (some ⟨g, 0, none⟩) N c, .int .i64 a, .int .i64 m, .int .i64 b, f] W fun e w' => e = .returned (.tuple #[]) ∧ But W w' g ∧ RowE w' g T (pre ++ (Q ++ (P ++ post))) := by
  obtain ⟨F, hF⟩ : ∃ F, pre ++ (Q ++ (P ++ post)) = F := ⟨_, rfl⟩
  rw [hF]
  have HR0 := Lib.hid (show Rot F m N pre P Q post from ⟨hP, hQ, hm, hN, hF⟩)
  have HS0 := Lib.hid hform
  have HE0 := Lib.hid h
  obtain ⟨i0, hi0⟩ : ∃ i, P.length = i := ⟨_, rfl⟩
  obtain ⟨j0, hj0⟩ : ∃ j, Q.length = j := ⟨_, rfl⟩
  have HI0 := Lib.hid (show P.length = i0 ∧ Q.length = j0 from ⟨hi0, hj0⟩)
  have w1 : IntKind.i64.wrap ((m : Int) - (a : Int)) = (i0 : Int) := by rw [IntWalk.i64_in _ (by omega)]; omega
  have w2 : IntKind.i64.wrap ((b : Int) - (m : Int)) = (j0 : Int) := by rw [IntWalk.i64_in _ (by omega)]; omega
  have hmN : m ≤ N := by omega
  clear hform h hF ha hm hb hP hQ hN hi0 hj0
  go_enter Tryz.func111, Tryz.ntmps111
  go_wp2_with fail
  go_loopw [10, 11] (fun i j wr => ∃ (ni nj : Nat) (p P Q r : List E5), i = .int .i64 ni ∧ j = .int .i64 nj ∧ Hid (P.length = ni ∧ Q.length = nj) ∧ Hid (Rot F m N p P Q r) ∧ Hid (Slv (p ++ (P ++ (Q ++ r)))) ∧ Hid (RowE wr g T (p ++ (P ++ (Q ++ r)))) ∧ Hid (But W wr g)) (fun i j _ => (intOf i).toNat + (intOf j).toNat)
  case atStart => exact ⟨i0, j0, pre, P, Q, post, rfl, rfl, HI0, HR0, HS0, HE0, Lib.hid (But.refl _ _)⟩
  case round =>
    obtain ⟨ni, nj, p, P', Q', r, rfl, rfl, HL, HRo, HSl, HE, HB⟩ := hrel
    have hL := HL.out
    have hR := HRo.out
    have hi1 := hR.i1
    have hj1 := hR.j1
    have hpm := hR.m
    have hNN := hR.n
    rw [hL.1, hL.2] at hNN
    rw [hL.1] at hi1 hpm
    rw [hL.2] at hj1
    obtain ⟨ap, hap⟩ : ∃ ap, p.length = ap := ⟨_, rfl⟩
    rw [hap] at hpm hNN
    have v1 : IntKind.i64.wrap ((m : Int) - (ni : Int)) = (ap : Int) := by rw [IntWalk.i64_in _ (by omega)]; omega
    rcases Nat.lt_trichotomy ni nj with hlt | rfl | hgt
    · have d1 : ((ni : Int) != (nj : Int)) = true := by simp; omega
      have d1' : (ni != nj) = true := by simp; omega
      have d2 : decide ((ni : Int) > (nj : Int)) = false := decide_eq_false (by omega)
      have d2' : decide (nj < ni) = false := decide_eq_false (by omega)
      obtain ⟨d, hd⟩ : ∃ d, nj - ni = d := ⟨_, rfl⟩
      obtain ⟨bp, hbp⟩ : ∃ bp, m + d = bp := ⟨_, rfl⟩
      have v2 : IntKind.i64.wrap ((m : Int) + (nj : Int)) = ((m + nj : Nat) : Int) := by rw [IntWalk.i64_in _ (by omega)]; omega
      have v3 : IntKind.i64.wrap (((m + nj : Nat) : Int) - (ni : Int)) = (bp : Int) := by rw [IntWalk.i64_in _ (by omega)]; omega
      have v3' : IntKind.i64.wrap ((m : Int) + (nj : Int) - (ni : Int)) = (bp : Int) := by rw [IntWalk.i64_in _ (by omega)]; omega
      have v4 : IntKind.i64.wrap ((nj : Int) - (ni : Int)) = (d : Int) := by rw [IntWalk.i64_in _ (by omega)]; omega
      obtain ⟨hR2, he2⟩ := hR.small (by rw [hL.1, hL.2]; exact hlt)
      have hK : Q'.length - P'.length = d := by rw [hL.1, hL.2]; exact hd
      rw [hK] at hR2 he2
      have SW := swap_range' ap bp ni g N c T p P' (Q'.take d) (Q'.drop d) r f wr hap (by rw [hap, hL.1, List.length_take, hL.2]; omega) hL.1 (by rw [hL.1, List.length_drop, hL.2]; omega) (by rw [hap, hL.1, List.length_take, List.length_drop, hL.2]; omega) hsm hc (by rw [he2]; exact HSl.out) (by rw [he2]; exact HE.out)
      have HS2 := Lib.hid (slv_small (K := d) HSl.out)
      have HL2 := Lib.hid (show (Q'.drop d).length = ni ∧ (Q'.take d).length = d from ⟨by rw [List.length_drop, hL.2]; omega, by rw [List.length_take, hL.2]; omega⟩)
      have HR2 := Lib.hid hR2
      have HD := Lib.hid hd
      clear hL hR hap hpm hNN hj1 HL HRo HSl HE hR2 he2 hK hd hbp
      go_wp2_with fail
      refine SW.mono ?_
      rintro e w1 ⟨rfl, hb, hr⟩
      have H1 := Lib.hid (HB.out.trans hb)
      have H2 := Lib.hid hr
      clear SW hb hr v1 v2 v3 v3'
      go_wp2_with fail
      go_roundw
      case rel => exact ⟨ni, d, p, Q'.drop d, Q'.take d, P' ++ r, rfl, rfl, HL2, HR2, HS2, H2, H1⟩
      case measure => simp only [intOf]; have := HD.out; omega
    · have d1 : ((ni : Int) != (ni : Int)) = false := by simp
      have SW := swap_range' ap m ni g N c T p P' [] Q' r f wr hap (by rw [hap, hL.1]; simp; omega) hL.1 (by rw [hL.1, hL.2]) (by rw [hap, hL.1, hL.2]; simp; omega) hsm hc (by simpa using HSl.out) (by simpa using HE.out)
      have FF := Lib.hid hR.f
      clear hL hR hap hpm hNN hi1 hj1 HL HRo HSl HE
      go_wp2_with fail
      refine SW.mono ?_
      rintro e w1 ⟨rfl, hb, hr⟩
      have H1 := Lib.hid (HB.out.trans hb)
      have H2 := Lib.hid hr
      clear SW hb hr
      go_wp2_with fail
      go_end0
      exact ⟨rfl, H1.out, by have := H2.out; rw [← FF.out]; simpa using this⟩
    · have d1 : ((ni : Int) != (nj : Int)) = true := by simp; omega
      have d1' : (ni != nj) = true := by simp; omega
      have d2 : decide ((ni : Int) > (nj : Int)) = true := decide_eq_true (by omega)
      have d2' : decide (nj < ni) = true := decide_eq_true (by omega)
      obtain ⟨d, hd⟩ : ∃ d, ni - nj = d := ⟨_, rfl⟩
      have v4 : IntKind.i64.wrap ((ni : Int) - (nj : Int)) = (d : Int) := by rw [IntWalk.i64_in _ (by omega)]; omega
      obtain ⟨hR2, he2⟩ := hR.big (by rw [hL.1, hL.2]; exact hgt)
      rw [hL.2] at hR2 he2
      have SW := swap_range' ap m nj g N c T p (P'.take nj) (P'.drop nj) Q' r f wr hap (by rw [hap, List.length_take, List.length_drop, hL.1]; omega) (by rw [List.length_take, hL.1]; omega) (by rw [List.length_take, hL.1, hL.2]; omega) (by rw [hap, List.length_take, List.length_drop, hL.1, hL.2]; omega) hsm hc (by rw [he2]; exact HSl.out) (by rw [he2]; exact HE.out)
      have HS2 := Lib.hid (slv_big (K := nj) HSl.out)
      have HL2 := Lib.hid (show (P'.drop nj).length = d ∧ (P'.take nj).length = nj from ⟨by rw [List.length_drop, hL.1]; omega, by rw [List.length_take, hL.1]; omega⟩)
      have HR2 := Lib.hid hR2
      have HD := Lib.hid hd
      have HJ1 := Lib.hid hj1
      clear hL hR hap hpm hNN hi1 hj1 HL HRo HSl HE hR2 he2 hd
      go_wp2_with fail
      refine SW.mono ?_
      rintro e w1 ⟨rfl, hb, hr⟩
      have H1 := Lib.hid (HB.out.trans hb)
      have H2 := Lib.hid (show RowE w1 g T ((p ++ Q') ++ (P'.drop nj ++ (P'.take nj ++ r))) by rw [List.append_assoc]; exact hr)
      clear SW hb hr v1
      go_wp2_with fail
      go_roundw
      case rel => exact ⟨d, nj, p ++ Q', P'.drop nj, P'.take nj, r, rfl, rfl, HL2, HR2, HS2, H2, H1⟩
      case measure => simp only [intOf]; have := HD.out; have := HJ1.out; omega
end Go.Proofs.YtafmiilkdhdngaaGreatDoor
