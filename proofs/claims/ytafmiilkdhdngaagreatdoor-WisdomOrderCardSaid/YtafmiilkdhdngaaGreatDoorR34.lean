/- Put together by program (merge2.py): Wpa Lv25. -/
import Derived.Sort.CutIn
import Derived.BigRegionIn
import Derived.Test.YtafmiilkdhdngaaGreatDoorR19
import Derived.Test.YtafmiilkdhdngaaGreatDoorR29
import Derived.Test.YtafmiilkdhdngaaGreatDoorR33
/- wisdom.Parse. -/
namespace Go.Proofs.YtafmiilkdhdngaaGreatDoor
open Go.ChangeShapes Go.WideShapes Go.ChangeAt Go.RowKit
set_option linter.unusedVariables false
open Go.Shelf Go.WideMaps Go.MapKept Go.WideElems Go.ChangeMaps
set_option linter.unusedSimpArgs false
attribute [local go_sem] Oper.semAt_some
theorem hd_prefix (s : ByteArray) : Lib.hasPrefix s.data.toList (⟨#[100, 117, 108, 99, 105, 109, 101, 114, 32, 49, 10]⟩ : ByteArray).data.toList = true ↔ Hd s := by
  have h := Lib.hasPrefix_of_take s.data.toList headB
  show Lib.hasPrefix s.data.toList headB = true ↔ _
  rw [← h, Bool.and_eq_true, decide_eq_true_eq, beq_iff_eq]
  constructor
  · exact fun h => h.2
  · exact fun h => ⟨by have := h.size; rw [Lib.size_eq] at this; exact this, h⟩
/-- The round's memory: between two rounds, and where one has returned. -/
def IPa (W : World) (N : Nat) (rest : ByteArray) (pre : List Ln) (V : World) : Prop := ∃ (vv : Value) (l : List En), PaS W V N rest vv l (pre.length + 1) ∧ l.length = pre.length ∧ (∀ r o ln c, Run (pre.length + 2) l r o ln c → Run 2 [] (pre ++ r) o ln c) ∧ ∀ e ∈ l, GoodE e
def XPa (W : World) (N : Nat) (c : Code) (pre : List Ln) (V : World) : Prop := c = .ret ∧ ∃ (ln : Nat) (e : Int), PaX W V N ln e ∧ ∀ r, Run 2 [] (pre ++ r) [] ln e
theorem three (W : World) (c : Int) (n : Nat) : ∃ w3 : World, w3 = ((W.alloc (.cells #[.slice none 0 0] 22)).alloc (.cells #[.int .i64 n] 3)).alloc (.cells #[.int .i64 c] 25) ∧ PaX W w3 W.heap.size n c := by
  refine ⟨_, rfl, ?_, ?_, ?_, ?_⟩
  · rw [Below.heap_alloc _ _ _ (by simp only [World.size_alloc]; omega), Below.heap_alloc _ _ _ (by simp only [World.size_alloc]; omega)]
    exact heap_alloc_new _ _
  · rw [Below.heap_alloc _ _ _ (by simp only [World.size_alloc]; omega)]
    have := heap_alloc_new (W.alloc (.cells #[.slice none 0 0] 22)) (.cells #[.int .i64 n] 3)
    rwa [World.size_alloc] at this
  · have := heap_alloc_new ((W.alloc (.cells #[.slice none 0 0] 22)).alloc (.cells #[.int .i64 n] 3)) (.cells #[.int .i64 c] 25)
    rwa [World.size_alloc, World.size_alloc] at this
  · exact (((Below.refl _ W).alloc (Nat.le_refl _) _).alloc (by simp) _).alloc (by simp; omega) _
theorem kf_below {B : Nat} {A C : World} (h : Below A.heap.size A C) : KeepsFrom B A C := ⟨h.size, fun k _ _ hk _ => (h.block k (Array.getElem?_eq_some_iff.1 hk).1).trans hk⟩
theorem OwnK.kf {V V' : World} {F B : Nat} {v : Value} {l : List En} (h : OwnK V F v l) (hg : V.grownBy V' v.ownBlock) : KeepsFrom B V V' := by
  refine ⟨hg.size, fun k o _ hk hc => (hg.block k (Array.getElem?_eq_some_iff.1 hk).1 (fun e => ?_)).trans hk⟩
  obtain ⟨xs, ⟨_, h1 | ⟨g, cap, cur, rfl, _, hh, _⟩⟩, _⟩ := h
  · rw [h1.1] at e; cases e
  · have : g = k := by simpa [Value.ownBlock] using e.symm
    subst this
    rw [hk] at hh
    cases hh
    cases hc
/-- The map turned twice. -/
theorem PaS.push {W V : World} {N : Nat} {rest : ByteArray} {vv : Value} {l : List En} {ln : Nat} (h : PaS W V N rest vv l ln) (o1 o2 : Obj) :
    (∀ k, k ≠ N + 1 + 1 + 1 → (setBlock (setBlock V.drew (N + 1 + 1 + 1) o1) (N + 1 + 1 + 1) o2).heap[k]? = V.heap[k]?) ∧ (setBlock (setBlock V.drew (N + 1 + 1 + 1) o1) (N + 1 + 1 + 1) o2).heap[N + 1 + 1 + 1]? = some o2 ∧ Below N V (setBlock (setBlock V.drew (N + 1 + 1 + 1) o1) (N + 1 + 1 + 1) o2) ∧ (setBlock (setBlock V.drew (N + 1 + 1 + 1) o1) (N + 1 + 1 + 1) o2).heap.size = V.heap.size ∧ ∀ B, N + 6 ≤ B → KeepsFrom B V (setBlock (setBlock V.drew (N + 1 + 1 + 1) o1) (N + 1 + 1 + 1) o2) := by
  have hz := h.size
  have h1 : ∀ k, k ≠ N + 1 + 1 + 1 → (setBlock (setBlock V.drew (N + 1 + 1 + 1) o1) (N + 1 + 1 + 1) o2).heap[k]? = V.heap[k]? := fun k hk => (setBlock_heap hk).trans (setBlock_heap hk)
  refine ⟨h1, setBlock_at (by rw [setBlock_size]; show N + 1 + 1 + 1 < V.heap.size; omega), ((Below.refl _ _).drew.trans (setBlock_below (by omega))).trans (setBlock_below (by omega)), by rw [setBlock_size, setBlock_size]; rfl, fun B hB => ⟨by rw [setBlock_size, setBlock_size]; exact Nat.le_refl _, fun k o hk ho _ => (h1 k (by omega)).trans ho⟩⟩
/-- One entry more. -/
theorem PaS.more {W V V5 : World} {N : Nat} {rest : ByteArray} {vv v' : Value} {l : List En} {ln : Nat} {e : En} {es : Array MapEntry} {clock : Nat} (h : PaS W V N rest vv l ln) {V4 : World} (h1 : ∀ k, k ≠ N + 1 + 1 + 1 → V4.heap[k]? = V.heap[k]?) (h2 : V4.heap[N + 1 + 1 + 1]? = some (.map es clock)) (h3 : Below N V V4) (hC : Cn (l ++ [e]) es clock (l ++ [e]).length)
    (hO : OwnK V5 (N + 6) v' (l ++ [e])) (hg : V4.grownBy V5 vv.ownBlock) : PaS W (V5.setCell ⟨N, 0, none⟩ v') N rest v' (l ++ [e]) ln := by
  have hz := h.size
  have hle := h.ow.ownLe
  have hz4 := h3.size
  have k5 : ∀ k, k < N + 6 → V5.heap[k]? = V4.heap[k]? := fun k hk => hg.block k (by omega) (fun e => by have := hle k e.symm; omega)
  have ho : ∀ k, k ≠ N → (V5.setCell ⟨N, 0, none⟩ v').heap[k]? = V5.heap[k]? := fun k hk => heap_setCell_other V5 ⟨N, 0, none⟩ k _ hk
  have hb5 : Below N V4 V5 := (Below.refl _ _).grown hg (by omega) (fun k e => by have := hle k e; omega)
  have hb6 : Below N V5 (V5.setCell ⟨N, 0, none⟩ v') := (Below.refl _ _).setCell (p := ⟨N, 0, none⟩) (Nat.le_refl _) _
  refine ⟨?_, ?_, ?_, ⟨es, clock, ?_, hC⟩, ?_, ?_, hO.keep (hb6.mono (Nat.zero_le _)) (fun k hk _ => ho k (by omega)), h.be.trans (h3.trans (hb5.trans hb6))⟩
  · have : V5.heap[N]? = some (.cells #[vv] 22 (0, 0)) := (k5 _ (by omega)).trans ((h1 _ (by omega)).trans h.lb)
    rw [bset this]; rfl
  · exact (ho _ (by omega)).trans ((k5 _ (by omega)).trans ((h1 _ (by omega)).trans h.nb))
  · exact (ho _ (by omega)).trans ((k5 _ (by omega)).trans ((h1 _ (by omega)).trans h.eb))
  · exact (ho _ (by omega)).trans ((k5 _ (by omega)).trans h2)
  · exact (ho _ (by omega)).trans ((k5 _ (by omega)).trans ((h1 _ (by omega)).trans h.sb))
  · exact (ho _ (by omega)).trans ((k5 _ (by omega)).trans ((h1 _ (by omega)).trans h.rb))
set_option maxRecDepth 100000 in
set_option maxHeartbeats 16000000 in
theorem w_parse (s : ByteArray) (W : World) (hm : ∃ m, W.cell? ⟨0, 0, none⟩ = some (.int .i64 m)) : Calls Tryz.prog 10 #[.string s] W (WPaOk s W) := by
  have CP := Lib.hid (fun w => c_strings_CutPrefix s ⟨#[100, 117, 108, 99, 105, 109, 101, 114, 32, 49, 10]⟩ w)
  have hmm := @run_makeMap Tryz.prog
  refine (callsIn_wide (n := 20)).1 ?_
  refine callsIn_of_wp_marks Tryz.func10 rfl trivial ?_ rfl
  simp only [Tryz.ntmps10, List.size_toArray, List.length_cons, List.length_nil, Nat.reduceAdd, Nat.reduceSub, Array.replicate_succ, Array.replicate_zero, List.push_toArray, List.append_toArray, List.nil_append, List.cons_append]
  refine wpIn_wide.2 ?_
  by_cases hbig : 65536 < s.size
  case pos =>
    have d0 : decide ((s.size : Int) > 65536) = true := decide_eq_true (by omega)
    have d0' : decide (65536 < s.size) = true := decide_eq_true hbig
    obtain ⟨w3, hw3, hx⟩ := three W 12 0
    have HX := Lib.hid hx
    have FIN := Lib.hid (wpa_bad (W := W) (s := s) (.inl ⟨hbig, rfl, rfl, rfl⟩) hx.be)
    have HW3 := Lib.hid hw3.symm
    clear hx hw3 hbig CP hmm
    go_wp2_with fail
    rw [show ((0 : Int)) = ((0 : Nat) : Int) from rfl, HW3.out]
    exact ⟨_, HX.out.res rfl _ rfl rfl rfl, FIN.out⟩
  case neg =>
    have d0 : decide ((s.size : Int) > 65536) = false := decide_eq_false (by omega)
    have d0' : decide (65536 < s.size) = false := decide_eq_false hbig
    by_cases hh : Hd s
    case neg =>
      have hp : Lib.hasPrefix s.data.toList (⟨#[100, 117, 108, 99, 105, 109, 101, 114, 32, 49, 10]⟩ : ByteArray).data.toList = false := by
        cases hp : Lib.hasPrefix s.data.toList (⟨#[100, 117, 108, 99, 105, 109, 101, 114, 32, 49, 10]⟩ : ByteArray).data.toList
        · rfl
        · exact absurd ((hd_prefix s).1 hp) hh
      have C := CP.out
      rw [hp] at C
      obtain ⟨rest, hrest⟩ : ∃ rest : ByteArray, (⟨(Lib.trimPrefix s.data.toList (⟨#[100, 117, 108, 99, 105, 109, 101, 114, 32, 49, 10]⟩ : ByteArray).data.toList).toArray⟩ : ByteArray) = rest := ⟨_, rfl⟩
      rw [hrest] at C
      obtain ⟨w3, hw3, hx⟩ := three W 9 1
      have HX := Lib.hid hx
      have FIN := Lib.hid (wpa_bad (W := W) (s := s) (.inr (.inl ⟨by omega, hh, rfl, rfl, rfl⟩)) hx.be)
      have HW3 := Lib.hid hw3.symm
      clear hx hw3 hbig CP hmm hp hrest hh
      go_wp2_with fail
      refine (C _).mono ?_
      rintro e w1 ⟨rfl, rfl⟩
      go_wp2_with fail
      rw [show ((1 : Int)) = ((1 : Nat) : Int) from rfl, HW3.out]
      exact ⟨_, HX.out.res rfl _ rfl rfl rfl, FIN.out⟩
    case pos =>
      have hp : Lib.hasPrefix s.data.toList (⟨#[100, 117, 108, 99, 105, 109, 101, 114, 32, 49, 10]⟩ : ByteArray).data.toList = true := (hd_prefix s).2 hh
      have C := CP.out
      rw [hp] at C
      have hrl : (Lib.trimPrefix s.data.toList (⟨#[100, 117, 108, 99, 105, 109, 101, 114, 32, 49, 10]⟩ : ByteArray).data.toList) = s.data.toList.drop 11 := by
        unfold Lib.trimPrefix; rw [hp, if_pos rfl]; rfl
      obtain ⟨rest, hrest⟩ : ∃ rest : ByteArray, (⟨(Lib.trimPrefix s.data.toList (⟨#[100, 117, 108, 99, 105, 109, 101, 114, 32, 49, 10]⟩ : ByteArray).data.toList).toArray⟩ : ByteArray) = rest := ⟨_, rfl⟩
      rw [hrest] at C
      have hrd : rest.data.toList = s.data.toList.drop 11 := by rw [← hrest, hrl]
      have hrz : rest.size ≤ 70000 := by have := rest_size hrd; omega
      have h11 := hh.size
      have hsz : s.size ≤ 65536 := by omega
      have FINP := Lib.hid (fun (o : List En) (ln : Nat) (c : Int) (zs : List Ln) (hz : Lns rest 0 zs) (h : Run 2 [] zs o ln c) => (show WPar s o ln c from .inr (.inr ⟨by omega, hh, run_par hrd h11 hz h⟩)))
      obtain ⟨w6, hw6, hP6, hs6⟩ := par_start W rest
      have HW6 := Lib.hid hw6.symm
      have hN0 : 0 < W.heap.size := by obtain ⟨m, hm⟩ := hm; have := block_lt_of_cell hm; omega
      have HM := Lib.hid hm
      clear CP hbig hh hp hrl hrest hw6 hrd h11 hm
      go_wp2_with fail
      refine (C _).mono ?_
      rintro e w1 ⟨rfl, rfl⟩
      go_wp2_with fail
      refine (callsIn_wide.1 (lines_make 20 _ _)).mono ?_
      rintro e w2 ⟨rfl, rfl⟩
      go_wp2_with fail
      rw [HW6.out]
      obtain ⟨N, hN⟩ : ∃ N, W.heap.size = N := ⟨_, rfl⟩
      have HN := Lib.hid hN
      rw [hN] at hP6 hs6 hN0 ⊢
      clear C hmm hN
      refine (wpIn_wide (n := 20)).1 ?_
      have hm6 : ∃ m, w6.cell? ⟨0, 0, none⟩ = some (.int .i64 m) := HM.out.imp (fun m h => (hP6.be.cell (p := ⟨0, 0, none⟩) hN0).trans h)
      have hrb : w6.cell? ⟨N + 1 + 1 + 1 + 1 + 1, 0, none⟩ = some (.string rest) := by rw [cell_of_row _ _ _ _ _ _ hP6.rb]; rfl
      refine wpIn_rangeFunc_ownG rfl (by omega) (gf := 44) (lb := #[.pointer (some ⟨N + 1 + 1 + 1 + 1 + 1, 0, none⟩)]) rfl trivial (enters_of Tryz.func44 (by kernel_rfl) rfl)
        (lines_stops (20 - 1) (by omega) (N + 1 + 1 + 1 + 1 + 1) rest hrz w6 hrb hm6)
        kpL_t (kpL_b (w := w6)) (Below.refl _ _) (fun _ => rfl)
        (IPa W N rest) (XPa W N)
        (fun pre A B row h hg hr => by
          obtain ⟨vv, l, h1, h2⟩ := h
          exact ⟨vv, l, h1.kept hg (fun r e => by have := hr r e; exact ⟨by omega, this.2⟩), h2⟩)
        (fun c pre A B row h hg hr => by
          obtain ⟨rfl, ln, e, h1, h2⟩ := h
          exact ⟨rfl, ln, e, h1.kept hg (fun r e => by have := hr r e; exact ⟨by omega, this.2⟩), h2⟩)
        ⟨_, [], hP6, rfl, fun r o ln c h => h, fun e he => by cases he⟩
        (fun x => { tmps := #[.string s, undef, .pointer (some ⟨N, 0, none⟩), .pointer (some ⟨N + 1, 0, none⟩), .pointer (some ⟨N + 1 + 1, 0, none⟩), .string rest, .bool true, .pointer (some ⟨N + 1 + 1 + 1 + 1, 0, none⟩), .string x.t, .bool x.e, undef, undef, .string s, .int .i64 s.size, .bool false, .tuple #[.string rest, .bool true], .string s, .tuple #[.string rest, .bool true], .string rest, .bool true, .bool true, .bool false, .map (some (N + 1 + 1 + 1)), .string rest, .func (.func 44) #[] #[.pointer (some ⟨N + 1 + 1 + 1 + 1 + 1, 0, none⟩)], .string x.t, .bool x.e, undef, undef, undef, undef, undef, undef, undef, undef, undef, undef, undef, undef, undef, undef, undef, undef, undef, undef, undef, undef, undef, undef, undef, undef, undef, undef, undef, undef, undef, undef, undef, undef, undef], defers := [] })
        ?assign ?body ?done ?stop
      case assign =>
        intro l x W' K hK
        dsimp only [encL]
        gi_wp2
        exact hK
      case body =>
        rintro l2 pre ⟨x, hx, xe⟩ V ⟨vv, l, hS, hlen, hrun, hgood⟩ hlt
        dsimp only
        obtain ⟨m1, hm1⟩ : ∃ m1, pre.length + 1 = m1 := ⟨_, rfl⟩
        obtain ⟨m2, hm2⟩ : ∃ m2, m1 + 1 = m2 := ⟨_, rfl⟩
        rw [hm1] at hS
        have W1 : IntKind.i64.wrap ((m1 : Int) + 1) = (m2 : Int) := by rw [IntWalk.i64_in _ (by omega)]; omega
        obtain ⟨-, c1, -, -, -, f1, -⟩ := hS.cells
        obtain ⟨V1, hV1⟩ : ∃ V1, V.setCell ⟨N + 1, 0, none⟩ (.int .i64 (m2 : Int)) = V1 := ⟨_, rfl⟩
        have hS1 : PaS W V1 N rest vv l m2 := by rw [← hV1]; exact hS.nset m2
        have hkf1 : KeepsFrom w6.heap.size V V1 := by rw [← hV1]; exact (KeepsOthers.setCell _ _ _).from _
        have HV1 := Lib.hid hV1
        have HS1 := Lib.hid hS1
        have HKF1 := Lib.hid hkf1
        have HRUN := Lib.hid (show ∀ r o ln c, Run m2 l r o ln c → Run 2 [] (pre ++ r) o ln c from fun r o ln c h => hrun r o ln c (by rw [show pre.length + 2 = m2 by omega]; exact h))
        have HGOOD := Lib.hid hgood
        have HLEN := Lib.hid (show l.length = pre.length ∧ pre.length + 1 = m1 ∧ m1 + 1 = m2 from ⟨hlen, hm1, hm2⟩)
        have HS6 := Lib.hid hs6
        have HSV := Lib.hid hS
        have hll : l.length < 70000 := by omega
        have OUT := Lib.hid (fun (c : Int) (V2 : World) (rest2 : Value) (l2 : List En) (h2 : PaS W V2 N rest rest2 l2 m2) (hk : KeepsFrom w6.heap.size V V2) (hr : ∀ r, Run 2 [] ((pre ++ [⟨x, hx, xe⟩]) ++ r) [] m2 c) => (show KeepsFrom w6.heap.size V (((V2.drew.setCell ⟨N, 0, none⟩ (.slice none 0 0)).setCell ⟨N + 1, 0, none⟩ (.int .i64 m2)).setCell ⟨N + 1 + 1, 0, none⟩ (.int .i64 c)) ∧ XPa W N .ret (pre ++ [⟨x, hx, xe⟩]) (((V2.drew.setCell ⟨N, 0, none⟩ (.slice none 0 0)).setCell ⟨N + 1, 0, none⟩ (.int .i64 m2)).setCell ⟨N + 1 + 1, 0, none⟩ (.int .i64 c)) from by
          obtain ⟨q1, q2⟩ := h2.out c
          exact ⟨hk.trans (by rw [HS6.out]; exact q2), rfl, m2, c, q1, hr⟩))
        clear hV1 hS hlen hrun hgood hm1 hm2 hkf1 hs6 hlt hP6 HW6 hrb hm6
        gi_upto_region 12 with fail
        rw [HV1.out]
        clear c1 f1
        have hmx : Tryz.prog.follows .mixedOrders = true := by kernel_rfl
        cases xe
        case false =>
          obtain ⟨c0, c1, c2, -, f0, f1, f2⟩ := hS1.cells
          have FIN := Lib.hid (OUT.out 10 V1 vv l hS1 HKF1.out (fun r => by rw [List.append_assoc]; exact HRUN.out _ _ _ _ (.opn rfl)))
          clear OUT hS1
          gi_wp2
          gi_region
          all_goals gi_wp2
          all_goals exact FIN.out
        case true =>
          have hm1 : ∃ m, V1.cell? ⟨0, 0, none⟩ = some (.int .i64 m) := HM.out.imp (fun m h => (hS1.be.cell (p := ⟨0, 0, none⟩) hN0).trans h)
          have PA := e_parse x hx V1 hm1
          clear hm1
          gi_wp2
          refine ⟨trivial, (CallsIn.inRound l2 (callsIn_wide.2 PA)).mono ?_⟩
          rintro e V2 ⟨hb2, hcase⟩
          have HB2 := Lib.hid hb2
          have HS2 := Lib.hid (hS1.below hb2)
          have HKF2 := Lib.hid (HKF1.out.trans (kf_below hb2))
          have hown := hS1.ow.ownLt
          have hz1 := hS1.size
          have hz2 := hb2.size
          rcases hcase with ⟨hc, rfl⟩ | ⟨hc, a, b, kk, m, ks, v, hent, hK, rfl⟩
          · obtain ⟨V3, hV3, r3, hb3, hs3⟩ := box5 V2 0 0 0 0 (.slice none 0 0) 44
            have hS3 := HS2.out.below hb3
            obtain ⟨z, hz⟩ : ∃ z, ecode x = z := ⟨_, rfl⟩
            have FIN := Lib.hid (OUT.out z V3 vv l hS3 (HKF2.out.trans (kf_below hb3)) (fun r => by rw [List.append_assoc, ← hz]; exact HRUN.out _ _ _ _ (.bad rfl hc)))
            rw [hz] at hc ⊢
            have e2 : (z != 0) = true := by simp [bne, hc]
            have HV3 := Lib.hid hV3.symm
            obtain ⟨c0, c1, c2, -, f0, f1, f2⟩ := hS3.cells
            clear OUT hS1 hS3 hV3 r3 hb3 hs3 hz PA hb2 hc
            gi_upto_region 15 with fail
            rw [HV3.out]
            gi_wp2
            gi_region
            all_goals gi_wp2
            all_goals exact FIN.out
          · obtain ⟨ua, un, uc, rfl⟩ : ∃ a n c, v = .slice a n c := by
              obtain ⟨a, c, rfl, _⟩ := hK
              exact ⟨_, _, _, rfl⟩
            obtain ⟨V3, hV3, r3, hb3, hs3⟩ := box5 V2 a b kk m (.slice ua un uc) 44
            have hS3 := HS2.out.below hb3
            have HS3 := Lib.hid hS3
            have HKF3 := Lib.hid (HKF2.out.trans (kf_below hb3))
            have HV3 := Lib.hid hV3.symm
            have HK3 := Lib.hid (hK.below hb3)
            have hge := good_of hent.chkE
            have HGE := Lib.hid hge
            have HIE := Lib.hid (show En.inr' ⟨a, b, kk, m, ks⟩ from ⟨hge.1.1.1, hge.1.1.2.1⟩)
            have HWM := Lib.hid (show ∀ y ∈ l, y.inr' from fun y hy => ⟨(HGOOD.out y hy).1.1.1, (HGOOD.out y hy).1.1.2.1⟩)
            obtain ⟨es, clock, hmp, hcn⟩ := hS3.mp
            have HMP := Lib.hid hmp
            have HCN := Lib.hid hcn
            obtain ⟨c0, c1, c2, c4, f0, f1, f2⟩ := hS3.cells
            obtain ⟨x0, x1, x2, x3, x4⟩ := cells5 r3
            have HR3 := Lib.hid r3
            obtain ⟨X, hX⟩ : ∃ X, V2.heap.size = X := ⟨_, rfl⟩
            have HX := Lib.hid hX
            rw [hX] at x0 x1 x2 x3 x4
            clear hV3 r3 hb3 PA hb2 hS1 hS3 hge hX
            gi_upto_region 15 with fail
            rw [HV3.out]
            try rw [HX.out]
            cases hh : hasE l a b
            case true =>
              obtain ⟨cc, st, es', q1, q2, -, hq⟩ := cn_there hcn HWM.out hh
              obtain ⟨r1, -, -⟩ := hq V3 _ hmp
              have dd : decide ((cc : Int) > 0) = true := decide_eq_true (by omega)
              have dd' : decide (0 < cc) = true := decide_eq_true (by omega)
              have FIN := Lib.hid (OUT.out 11 V3 vv l HS3.out HKF3.out (fun r => by rw [List.append_assoc]; exact HRUN.out _ _ _ _ (.twc rfl hc hent hh)))
              clear OUT hq hh hcn hmp hc hent hK
              gi_wp2
              gi_region
              all_goals gi_wp2
              all_goals exact FIN.out
            case false =>
              have RUN2 := Lib.hid (show ∀ r o ln c, Run (m2 + 1) (l ++ [⟨a, b, kk, m, ks⟩]) r o ln c → Run 2 [] ((pre ++ [⟨x, hx, true⟩]) ++ r) o ln c from fun r o ln c h => by rw [List.append_assoc]; exact HRUN.out _ _ _ _ (.go rfl hc hent hh h))
              obtain ⟨r1, r2⟩ := cn_gone hcn HWM.out ⟨a, b, kk, m, ks⟩ HIE.out hh V3 _ hmp
              obtain ⟨t1, t2⟩ := cn_gone hcn HWM.out ⟨a, b, kk, m, ks⟩ HIE.out hh V3.drew _ hmp
              have hz3 := HS3.out.size
              have hM4 : (setBlock V3.drew (N + 1 + 1 + 1) (.map (es.push ⟨kv a b, .int .i64 0, clock⟩) (clock + 1))).heap[N + 1 + 1 + 1]? = some (.map (es.push ⟨kv a b, .int .i64 0, clock⟩) (clock + 1)) := setBlock_at (by show N + 1 + 1 + 1 < V3.heap.size; omega)
              obtain ⟨u1, u2⟩ := cn_pushed hcn HWM.out ⟨a, b, kk, m, ks⟩ HIE.out hh _ _ hM4
              have hg : goInt clock = .int .i64 (clock : Int) := rfl
              rw [hg] at r2 t2 u2
              have W2 : IntKind.i64.wrap 1 = 1 := by decide
              dsimp only at r1 r2 t1 t2 u1 u2
              obtain ⟨p1, p2, p3, p4, p5⟩ := HS3.out.push (.map (es.push ⟨kv a b, .int .i64 0, clock⟩) (clock + 1)) (.map (es.push ⟨kv a b, .int .i64 1, clock⟩) (clock + 1))
              obtain ⟨V4, hV4⟩ : ∃ V4, setBlock (setBlock V3.drew (N + 1 + 1 + 1) (.map (es.push ⟨kv a b, .int .i64 0, clock⟩) (clock + 1))) (N + 1 + 1 + 1) (.map (es.push ⟨kv a b, .int .i64 1, clock⟩) (clock + 1)) = V4 := ⟨_, rfl⟩
              rw [hV4] at p1 p2 p3 p4 p5
              have HV4 := Lib.hid hV4
              have hXM : X ≠ N + 1 + 1 + 1 := by have := HX.out; omega
              have hO4 : OwnK V4 (N + 6) vv l := HS3.out.ow.keep (p3.mono (Nat.zero_le _)) (fun k hk _ => p1 k (by omega))
              have hK4 : KidsF V1.heap.size V4 (.slice ua un uc) ks := KidsS.carry HK3.out (fun y hy => ⟨⟨hy.1, by rw [p4]; exact hy.2⟩, p1 y (by have := hy.1; omega)⟩)
              have HO4 := Lib.hid hO4
              have HK4 := Lib.hid hK4
              have hC4 := hcn.snoc ⟨a, b, kk, m, ks⟩ hh _ rfl
              have HC4 := Lib.hid (show Cn (l ++ [⟨a, b, kk, m, ks⟩]) (es.push ⟨kv a b, .int .i64 1, clock⟩) (clock + 1) (l ++ [(⟨a, b, kk, m, ks⟩ : En)]).length by rw [List.length_append, List.length_singleton]; exact hC4)
              have HP := Lib.hid (show (∀ k, k ≠ N + 1 + 1 + 1 → V4.heap[k]? = V3.heap[k]?) ∧ V4.heap[N + 1 + 1 + 1]? = some (.map (es.push ⟨kv a b, .int .i64 1, clock⟩) (clock + 1)) ∧ Below N V3 V4 ∧ KeepsFrom w6.heap.size V3 V4 from ⟨p1, p2, p3, p5 _ (by rw [HS6.out]; exact Nat.le_refl _)⟩)
              have y0 : V4.cell? ⟨N, 0, none⟩ = some vv := by rw [cell_of_row _ _ _ _ _ _ ((p1 N (by omega)).trans HS3.out.lb)]; rfl
              have g0 : V4.frozen? ⟨N, 0, none⟩ = false := frozen_of_row _ _ _ _ _ ((p1 N (by omega)).trans HS3.out.lb)
              obtain ⟨z0, z1, z2, z3, z4⟩ := cells5 ((p1 X hXM).trans (by rw [← HX.out]; exact HR3.out))
              have hB4 : N + 6 ≤ V4.heap.size := by omega
              obtain ⟨va, vn, vc, hvv⟩ : ∃ va vn vc, vv = .slice va vn vc := by
                obtain ⟨va, vc, e, -, -⟩ := HS3.out.ow.form
                exact ⟨_, _, _, e⟩
              clear OUT hh hcn hmp hc hent hK hM4 hg p1 p2 p3 p4 p5 hV4 hO4 hK4 hC4
              subst hvv
              gi_upto_region 19 with fail
              gi_cut [] from 47 (fun wx => wx = V4)
              case first =>
                gi_region
                all_goals gi_wp2
                all_goals gi_meet
                all_goals exact HV4.out
              case rest =>
              rw [hcut]
              clear hcut
              clear r1 r2 t1 t2 u1 u2 c0 c1 c2 c4 f0 f1 f2 x0 x1 x2 x3 x4
              gi_wp2_with (gi_at_builtin; refine append_k1in (e := ⟨a, b, kk, m, ks⟩) rfl _ _ rfl rfl HO4.out rfl HK4.out ⟨hz1, hown⟩ hB4 (by omega) ?_)
              intro v5 V5 hO5 hg5
              have hle := HO4.out.ownLe
              have k0 : V5.heap[N]? = V4.heap[N]? := hg5.block N (by omega) (fun e => by have := hle N e.symm; omega)
              have y5 : V5.cell? ⟨N, 0, none⟩ = some (.slice va vn vc) := (World.cell?_of_block (a := ⟨N, 0, none⟩) k0).trans y0
              have g5 : V5.frozen? ⟨N, 0, none⟩ = false := (World.frozen?_of_block (a := ⟨N, 0, none⟩) k0).trans g0
              have hP6 : PaS W (V5.setCell ⟨N, 0, none⟩ v5) N rest v5 (l ++ [⟨a, b, kk, m, ks⟩]) m2 := HS3.out.more HP.out.1 HP.out.2.1 HP.out.2.2.1 HC4.out hO5 hg5
              have FIN := Lib.hid (show KeepsFrom w6.heap.size V (V5.setCell ⟨N, 0, none⟩ v5) ∧ KpL (N + 1 + 1 + 1 + 1 + 1) V (V5.setCell ⟨N, 0, none⟩ v5) ∧ IPa W N rest (pre ++ [⟨x, hx, true⟩]) (V5.setCell ⟨N, 0, none⟩ v5) from by
                obtain ⟨n1, n2, n3⟩ := HLEN.out
                refine ⟨(HKF3.out.trans HP.out.2.2.2).trans ((HO4.out.kf hg5).trans ((KeepsOthers.setCell _ _ _).from _)), PaS.kp (rest' := rest) HSV.out hP6 hN0, v5, l ++ [⟨a, b, kk, m, ks⟩], ?_, ?_, ?_, ?_⟩
                · rw [List.length_append, List.length_singleton, n2, n3]; exact hP6
                · rw [List.length_append, List.length_singleton, List.length_append, List.length_singleton, n1]
                · rw [List.length_append, List.length_singleton, show pre.length + 1 + 2 = m2 + 1 by omega]; exact RUN2.out
                · intro y hy
                  rcases List.mem_append.1 hy with hy | hy
                  · exact HGOOD.out y hy
                  · rw [List.mem_singleton] at hy; subst hy; exact HGE.out)
              obtain ⟨wa, wn, wc, hv5⟩ : ∃ wa wn wc, v5 = .slice wa wn wc := by
                obtain ⟨wa, wc, e, -, -⟩ := hO5.form
                exact ⟨_, _, _, e⟩
              subst hv5
              clear hO5 hg5 hP6 k0 y0 g0
              gi_wp2
              exact FIN.out
      case done =>
        rintro D zs V hD hzs ⟨vv, l, hS, hlen, hrun, hgood⟩ hKD
        have hpar := FINP.out l 0 0 zs hzs (by have := hrun [] l 0 0 .nil; rw [List.append_nil] at this; exact this)
        have hll := hpar.len
        have SO := entry_sort vv l V.heap.size V hS.ow.rowN (Nat.le_refl _) (by omega) (fun e he => by have := (hgood e he).1.2; omega)
        have hD6 : N + 6 ≤ D := by omega
        have hDV := (Array.getElem?_eq_some_iff.1 hKD).1
        obtain ⟨c0, c1, c2, -, f0, f1, f2⟩ := hS.cells
        obtain ⟨va, vc, rfl, -, -⟩ := hS.ow.form
        have HP := Lib.hid hpar
        have HS := Lib.hid hS
        have HKD := Lib.hid hKD
        clear hS hlen hrun hgood hpar hzs hKD hm6 hrb hP6 HW6 hs6
        go_wp2_with fail
        refine SO.mono ?_
        rintro e V2 ⟨g, rfl, hg, hR, hb2⟩
        have hS2 := HS.out.below hb2
        have hz2 := hb2.size
        have HR := Lib.hid hR
        have HS2 := Lib.hid hS2
        have HB2 := Lib.hid hb2
        obtain ⟨e0, e1, e2, -, g0, g1, g2⟩ := hS2.cells
        have HNV := Lib.hid (HS.out.size)
        clear hR hb2 SO c0 c1 c2 f0 f1 f2 hS2
        have FIN := Lib.hid (show (((V2.setCell ⟨N, 0, none⟩ (.slice (some ⟨g, 0, none⟩) l.length l.length)).setCell ⟨N + 1, 0, none⟩ (.int .i64 0)).setCell ⟨N + 1 + 1, 0, none⟩ (.int .i64 0)).heap[D]? = some (.deferred (some [])) ∧
            (∀ V3 : World, V3 = ((((V2.setCell ⟨N, 0, none⟩ (.slice (some ⟨g, 0, none⟩) l.length l.length)).setCell ⟨N + 1, 0, none⟩ (.int .i64 0)).setCell ⟨N + 1 + 1, 0, none⟩ (.int .i64 0)).putObj D (.deferred none)) → V3.cell? ⟨N, 0, none⟩ = some (.slice (some ⟨g, 0, none⟩) l.length l.length) ∧ V3.cell? ⟨N + 1, 0, none⟩ = some (.int .i64 0) ∧ V3.cell? ⟨N + 1 + 1, 0, none⟩ = some (.int .i64 0) ∧ RowN V3 V3.heap.size (.slice (some ⟨g, 0, none⟩) l.length l.length) (sortN l) ∧ Below W.heap.size W V3) from by
          have q1 : ∀ (U : World) (v : Value) (k : Nat), k ≠ N → (U.setCell ⟨N, 0, none⟩ v).heap[k]? = U.heap[k]? := fun U v k hk => heap_setCell_other U ⟨N, 0, none⟩ k _ hk
          have q2 : ∀ (U : World) (v : Value) (k : Nat), k ≠ N + 1 → (U.setCell ⟨N + 1, 0, none⟩ v).heap[k]? = U.heap[k]? := fun U v k hk => heap_setCell_other U ⟨N + 1, 0, none⟩ k _ hk
          have q3 : ∀ (U : World) (v : Value) (k : Nat), k ≠ N + 1 + 1 → (U.setCell ⟨N + 1 + 1, 0, none⟩ v).heap[k]? = U.heap[k]? := fun U v k hk => heap_setCell_other U ⟨N + 1 + 1, 0, none⟩ k _ hk
          have hND := HNV.out
          refine ⟨?_, fun V3 hV3 => ?_⟩
          · rw [q3 _ _ _ (by omega), q2 _ _ _ (by omega), q1 _ _ _ (by omega), HB2.out.block D hDV]; exact HKD.out
          · have hp : ∀ k, k ≠ D → V3.heap[k]? = (((V2.setCell ⟨N, 0, none⟩ (.slice (some ⟨g, 0, none⟩) l.length l.length)).setCell ⟨N + 1, 0, none⟩ (.int .i64 0)).setCell ⟨N + 1 + 1, 0, none⟩ (.int .i64 0)).heap[k]? := fun k hk => by rw [hV3]; exact World.putObj_heap_other hk
            have k0 : V3.heap[N]? = some (.cells #[.slice (some ⟨g, 0, none⟩) l.length l.length] 22 (0, 0)) := by
              rw [hp _ (by omega), q3 _ _ _ (by omega), q2 _ _ _ (by omega), bset HS2.out.lb]; rfl
            have k1 : V3.heap[N + 1]? = some (.cells #[.int .i64 0] 3 (0, 0)) := by
              rw [hp _ (by omega), q3 _ _ _ (by omega), bset ((q1 _ _ _ (by omega)).trans HS2.out.nb)]; rfl
            have k2 : V3.heap[N + 1 + 1]? = some (.cells #[.int .i64 0] 25 (0, 0)) := by
              rw [hp _ (by omega), bset ((q2 _ _ _ (by omega)).trans ((q1 _ _ _ (by omega)).trans HS2.out.eb))]; rfl
            have hb3 : Below N V2 V3 := by
              rw [hV3]
              exact ((((Below.refl _ V2).setCell (p := ⟨N, 0, none⟩) (Nat.le_refl _) _).setCell (p := ⟨N + 1, 0, none⟩) (by show N ≤ N + 1; omega) _).setCell (p := ⟨N + 1 + 1, 0, none⟩) (by show N ≤ N + 1 + 1; omega) _).grown (grownBy_putObj' _ D _) (by simp; omega) (fun k e => by cases e; exact Nat.le_trans (Nat.le_add_right _ _) hD6)
            refine ⟨by rw [cell_of_row _ _ _ _ _ _ k0]; rfl, by rw [cell_of_row _ _ _ _ _ _ k1]; rfl, by rw [cell_of_row _ _ _ _ _ _ k2]; rfl, ?_, ?_⟩
            · refine RowS.toN (RowS.carry (S' := fun b => b < V3.heap.size) HR.out (fun b hb => ⟨Nat.lt_of_lt_of_le hb.2 hb3.size, ?_⟩)) (fun b hb => hb)
              rw [hp b (by have := hb.1; omega), q3 _ _ _ (by have := hb.1; omega), q2 _ _ _ (by have := hb.1; omega), q1 _ _ _ (by have := hb.1; omega)]
            · rw [HN.out]; exact (HS2.out.be).trans hb3)
        clear HR HS2 HB2
        go_wp2_with fail
        refine ⟨by simp, .inl ⟨_, _, rfl, run_takeDeferred FIN.out.1, ?_⟩⟩
        obtain ⟨c0, c1, c2, hr, hb⟩ := FIN.out.2 _ rfl
        exact ⟨_, results_cell3 rfl _ _ N _ _ _ rfl rfl rfl c0 c1 c2, ⟨l, 0, 0, _, HP.out, rfl, hr, hb⟩⟩
      case stop =>
        rintro D cc pre V hD ⟨r, hr⟩ ⟨rfl, ln, c, hX, hrun⟩ hKD
        have hpar := FINP.out [] ln c (pre ++ r) hr (hrun r)
        have hDV := (Array.getElem?_eq_some_iff.1 hKD).1
        have hX2 : PaX W (V.putObj D (.deferred none)) N ln c := hX.kept (grownBy_putObj' V D _) (fun r e => by cases e; exact ⟨by omega, _, hKD, rfl⟩)
        have HX2 := Lib.hid hX2
        have FIN := Lib.hid (wpa_bad (W := W) (s := s) hpar (by rw [HN.out]; exact hX2.be))
        have HKD := Lib.hid hKD
        clear hX2 hX hpar hrun hr hKD hm6 hrb hP6 HW6 hs6
        refine wpIn_wide.2 ?_
        go_wp2_with fail
        refine ⟨by simp, .inl ⟨_, _, rfl, run_takeDeferred HKD.out, ?_⟩⟩
        exact ⟨_, HX2.out.res rfl _ rfl rfl rfl, FIN.out⟩
end Go.Proofs.YtafmiilkdhdngaaGreatDoor
/- The page's example of layer 25. -/
namespace Go.Proofs.YtafmiilkdhdngaaGreatDoor
open Go.ChangeShapes Go.WideShapes Go.ChangeAt Go.RowKit
set_option linter.unusedVariables false
set_option linter.unusedSimpArgs false
theorem fo25 : fori 8 0 8 (chkd 3 8 .nil) = 0 := by decide +kernel
theorem ln25 : lnE ⟨8, 0, 3, 8, .nil⟩ = [56, 32, 48, 32, 115, 116, 111, 99, 107, 56] := by
  have h8 : Lib.decDigits 8 = [56] := by rw [dec_small (by decide)]; rfl
  have h0 : Lib.decDigits 0 = [48] := by rw [dec_small (by decide)]; rfl
  show Lib.decDigits (8 : Int).toNat ++ (32 :: (Lib.decDigits (0 : Int).toNat ++ (32 :: ndB 3 8 .nil))) = _
  rw [show (8 : Int).toNat = 8 from rfl, show (0 : Int).toNat = 0 from rfl, h8, h0]
  have : ndB 3 8 .nil = [115, 116, 111, 99, 107, 56] := by
    show hdB 3 8 ++ _ = _
    unfold hdB
    rw [show (8 : Int).toNat = 8 from rfl, h8]
    decide +kernel
  rw [this]; rfl
theorem w_head (w : World) : Calls Tryz.prog 16 #[] w fun e w' => e = .returned (.string ⟨#[100, 117, 108, 99, 105, 109, 101, 114, 32, 49]⟩) ∧ w = w' := by
  go_enter Tryz.func16, Tryz.ntmps16
  go_wp2_with fail
  go_ret
  exact ⟨rfl, rfl⟩
def x25 : En := ⟨8, 0, 3, 8, .nil⟩
theorem err25 : wErr [x25] = 0 := by
  have hl : (wtx (sortN [x25])).length = 22 := by
    show (headB ++ (lnE x25 ++ [10])).length = 22
    rw [show lnE x25 = _ from ln25]; rfl
  exact wErr_ok (badE_zero (fun e he => by rw [List.mem_singleton] at he; subst he; exact fo25)) (List.pairwise_singleton _ _) (by rw [hl]; decide)
theorem tx25 : wtx (sortN [x25]) = headB ++ [56, 32, 48, 32, 115, 116, 111, 99, 107, 56, 10] := by
  show headB ++ (lnE x25 ++ [10]) = _
  rw [show lnE x25 = _ from ln25]; rfl
attribute [local go_sem ↓] Go.wp_at_zero Go.wp_at_succ
set_option maxRecDepth 100000 in
set_option maxHeartbeats 4000000 in
theorem live25 (W : World) (hT : Lib.TabIs Tryz.prog W "internal/strconv.uint64pow10" .u64 Lib.pow10Tab) : Calls Tryz.prog 7 #[] W fun e w' => e = .returned (.bool true) ∧ Below W.heap.size W w' := by
  obtain ⟨w0, hw0, r0, hB0, hs0⟩ := box5 W 8 0 3 8 (.slice none 0 0) 44
  obtain ⟨x0, x1, x2, x3, x4⟩ := cells5 r0
  have hR : RowN w0 w0.heap.size (.slice (some ⟨W.heap.size, 0, none⟩) 1 1) [x25] := by
    refine ⟨_, 1, rfl, Nat.le_refl _, by unfold maxLen; omega, fun i e he => ?_⟩
    match i, he with
    | 0, he =>
      simp at he; subst he
      exact ⟨W.heap.size, 0, rfl, by omega, _, x0, x1, x2, x3, x4, Kids.nought _ _⟩
  have PR := w_print _ [x25] w0.heap.size w0 hR (Nat.le_refl _) (by decide) (fun e he => by rw [List.mem_singleton] at he; subst he; exact ⟨⟨by decide, by decide, by decide, by decide, trivial⟩, by decide⟩) (pow10_below hT hB0)
  rw [err25] at PR
  have HW0 := Lib.hid hw0.symm
  have HB0 := Lib.hid hB0
  have HD := Lib.hid (fun w => w_head w)
  clear hw0 r0 hB0 hs0 x0 x1 x2 x3 x4 hR hT
  go_enter Tryz.func7, Tryz.ntmps7
  go_wp2_with fail
  rw [HW0.out]
  refine PR.mono ?_
  rintro e w1 ⟨⟨s, rfl, -, hs⟩, hb1⟩
  have HB1 := Lib.hid (HB0.out.trans (hb1.mono HB0.out.size))
  obtain rfl : s = ⟨#[100, 117, 108, 99, 105, 109, 101, 114, 32, 49, 10, 56, 32, 48, 32, 115, 116, 111, 99, 107, 56, 10]⟩ := ba_ext ((hs (by first | trivial | rfl)).trans tx25)
  clear hs hb1 PR
  have A1 : ∀ wx : World, (Op.stringOp .add ⟨#[100, 117, 108, 99, 105, 109, 101, 114, 32, 49]⟩ ⟨#[10, 56, 32, 48, 32, 115, 116, 111, 99, 107, 56, 10]⟩).run Tryz.prog wx = .ok (.string ⟨#[100, 117, 108, 99, 105, 109, 101, 114, 32, 49, 10, 56, 32, 48, 32, 115, 116, 111, 99, 107, 56, 10]⟩) wx := fun wx => run_string_add_sum wx _ _ (by decide)
  go_wp2_with fail
  refine (HD.out _).mono ?_
  rintro e w2 ⟨rfl, rfl⟩
  go_wp2_with fail
  refine (HD.out _).mono ?_
  rintro e w2 ⟨rfl, rfl⟩
  go_wp2_with fail
  go_ret
  exact ⟨rfl, HB1.out⟩
end Go.Proofs.YtafmiilkdhdngaaGreatDoor
