/- WmapMerges: of many entries all become known that were not, or none. -/
import Derived.Test.YtmbcfijhlpeddaaQ9
import Derived.Test.YtmbcfijhlpeddaaQ11
import Derived.Test.YtmbcfijhlpeddaaQ12
import Derived.Test.YtmbcfijhlpeddaaQ13
import Derived.Test.YtmbcfijhlpeddaaQ14
namespace Go.Proofs.Ytmbcfijhlpeddaa
open Go.ChangeShapes Go.WideShapes Go.ChangeAt Go.RowKit
set_option linter.unusedVariables false
set_option linter.unusedSimpArgs false
theorem badE_all : ∀ {l : List En}, badE l = 0 → ∀ e ∈ l, chkE e = 0
  | [], _, e, he => by cases he
  | x :: l, h, e, he => by
    unfold badE at h
    split at h
    · rcases List.mem_cons.1 he with rfl | he
      · assumption
      · exact badE_all h e he
    · contradiction
theorem mem_mrgE : ∀ {m l : List En} {e : En}, e ∈ mrgE l m → e ∈ l ∨ e ∈ m
  | [], _, _, h => .inl h
  | x :: m, l, e, h => by
    rcases mem_mrgE (m := m) (l := putE l x) h with h | h
    · unfold putE at h
      split at h
      · exact .inl h
      · rcases List.mem_append.1 h with h | h
        · exact .inl h
        · simp at h; subst h; exact .inr (List.mem_cons_self ..)
    · exact .inr (List.mem_cons_of_mem _ h)
/-- What both keep is the same. -/
theorem sync {w' : World} {lim B B' : Nat} {v v' : Value} {vs vs' : List P6} {m : List En} {N N' : Nat} {C C' : Int} (e1 : C = badE m) (hw : (C ≠ 0 ∧ N = 0 ∧ vs' = vs) ∨ (C = 0 ∧ vs'.map P6.x = mrgE (vs.map P6.x) m ∧ N = vs'.length - vs.length)) (e2 : C' = badE m)
    (hr : (C' ≠ 0 ∧ N' = 0 ∧ v' = v) ∨ (C' = 0 ∧ OwnE w' lim B v' (mrgE (vs.map P6.x) m) ∧ N' = (mrgE (vs.map P6.x) m).length - (vs.map P6.x).length ∧ (v' = v ∨ ∀ i, v'.ownBlock = some i → B' ≤ i))) (hO : OwnE w' lim B v (vs.map P6.x)) :
    N' = N ∧ C' = C ∧ OwnE w' lim B v' (vs'.map P6.x) ∧ (v' = v ∨ ∀ i, v'.ownBlock = some i → B' ≤ i) := by
  subst e1 e2
  rcases hw with ⟨hc, rfl, rfl⟩ | ⟨hc, h1, rfl⟩
  · rcases hr with ⟨_, rfl, rfl⟩ | ⟨hc', _⟩
    · exact ⟨rfl, rfl, hO, .inl rfl⟩
    · exact absurd hc' hc
  · rcases hr with ⟨hc', _⟩ | ⟨_, h2, rfl, h3⟩
    · exact absurd hc hc'
    · refine ⟨?_, rfl, by rw [h1]; exact h2, h3⟩
      rw [← h1, List.length_map, List.length_map]
def GoodE (e : En) : Prop := (e.inr ∧ e.ks.cnt + 1 ≤ 1048576) ∧ chkE e = 0
theorem good_mrg {vs vs' : List P6} {m : List En} {N : Nat} {C : Int} (e1 : C = badE m) (hw : (C ≠ 0 ∧ N = 0 ∧ vs' = vs) ∨ (C = 0 ∧ vs'.map P6.x = mrgE (vs.map P6.x) m ∧ N = vs'.length - vs.length)) (hE : ∀ e ∈ m, e.inr ∧ e.ks.cnt + 1 ≤ 1048576) (hg : ∀ e ∈ vs.map P6.x, GoodE e) : (∀ e ∈ vs'.map P6.x, GoodE e) ∧ vs'.length ≤ vs.length + m.length := by
  rcases hw with ⟨_, _, rfl⟩ | ⟨hc, h1, _⟩
  · exact ⟨hg, by omega⟩
  · subst e1
    constructor
    · rw [h1]
      intro e he
      rcases mem_mrgE he with h | h
      · exact hg e h
      · exact ⟨hE e h, badE_all hc e h⟩
    · have := (mrgE_len (vs.map P6.x) m).2
      rw [← h1, List.length_map, List.length_map] at this
      exact this
/-- No two of one key. -/
def Apart (l : List En) : Prop := l.Pairwise (fun x y => ¬ (x.a = y.a ∧ x.b = y.b))
theorem keys_apart {vs : List P6} (h : Keys vs) : Apart (vs.map P6.x) := by
  unfold Apart
  rw [List.pairwise_iff_getElem]
  intro i j hi hj hij ⟨e1, e2⟩
  rw [List.length_map] at hi hj
  rw [List.getElem_map, List.getElem_map] at e1 e2
  have := h i j vs[i] vs[j] (List.getElem?_eq_getElem hi) (List.getElem?_eq_getElem hj) e1 e2
  omega
theorem Apart.perm {l m : List En} (h : Apart l) (hp : l.Perm m) : Apart m := (hp.pairwise_iff (fun h ⟨e1, e2⟩ => h ⟨e1.symm, e2.symm⟩)).1 h
theorem mrgE_apart : ∀ {m l : List En}, Apart (l ++ m) → mrgE l m = l ++ m
  | [], l, _ => by rw [List.append_nil]; rfl
  | x :: m, l, h => by
    have hx : hasE l x.a x.b = false := by
      refine hasE_not (fun j e hj he => ?_)
      have h1 := (List.pairwise_append.1 h).2.2 e (List.mem_of_getElem? hj) x (List.mem_cons_self ..)
      exact h1 he
    have hp : putE l x = l ++ [x] := by unfold putE; rw [hx, if_neg (by simp)]
    have h2 : Apart ((l ++ [x]) ++ m) := by rw [List.append_assoc]; exact h
    show mrgE (putE l x) m = _
    rw [hp, mrgE_apart h2, List.append_assoc]; rfl
theorem sortN_perm (l : List En) : (sortN l).Perm l := isort_perm l
theorem sortN_idem {l : List En} (h : Apart l) : sortN (sortN l) = sortN l := by
  refine up_eq (Srt.isort_up ent_ord _) (Srt.isort_up ent_ord _) (sortN_perm _) (fun x hx y hy e1 e2 => ?_)
  have hx := (sortN_perm l).subset ((sortN_perm _).subset hx)
  have hy := (sortN_perm l).subset ((sortN_perm _).subset hy)
  by_cases hxy : x = y
  · exact hxy
  · exfalso
    unfold ent Srt.klt at e1 e2
    simp only [decide_eq_false_iff_not] at e1 e2
    obtain ⟨i, hi, rfl⟩ := List.mem_iff_getElem.1 hx
    obtain ⟨j, hj, rfl⟩ := List.mem_iff_getElem.1 hy
    have hp := List.pairwise_iff_getElem.1 h
    rcases Nat.lt_trichotomy i j with hij | hij | hij
    · exact hp i j hi hj hij ⟨by omega, by omega⟩
    · subst hij; exact hxy rfl
    · exact hp j i hj hi hij ⟨by omega, by omega⟩
namespace wmapMerges
attribute [local go_sem ↓] Go.wp_at_zero Go.wp_at_succ
set_option maxRecDepth 100000 in
set_option maxHeartbeats 16000000 in
theorem walk (W : World) (v0 : Value) (l0 : List En) (hR0 : RowN W W.heap.size v0 l0) (hE0 : ∀ e ∈ l0, e.inr ∧ e.ks.cnt + 1 ≤ 1048576) (v1 : Value) (l1 : List En) (hR1 : RowN W W.heap.size v1 l1) (hE1 : ∀ e ∈ l1, e.inr ∧ e.ks.cnt + 1 ≤ 1048576) :
    Calls Try.prog 4 #[v0, v1] W fun e W' => e = .returned (.bool true) ∧ Below W.heap.size W W' := by
  have LV := Lib.hid (fun w => live26 w)
  obtain ⟨p, c, rfl, hlc, hcm⟩ := hR0.form
  obtain ⟨p', c', rfl, hlc', hcm'⟩ := hR1.form
  have MU := Lib.hid (r24_much _ l0 W.heap.size W hR0 (Nat.le_refl _) (fun e he => (hE0 e he).2))
  have MU1 := Lib.hid (fun u (hu : Below W.heap.size W u) => r24_much _ l1 W.heap.size u (hR1.carry hu) hu.size (fun e he => (hE1 e he).2))
  have NW := Lib.hid (fun u => wmap_new u)
  have HI0 := Lib.hid hR0
  have HI1 := Lib.hid hR1
  have HE0 := Lib.hid hE0
  have HE1 := Lib.hid hE1
  clear hR0 hE0 hR1 hE1 hlc hlc' hcm hcm'
  go_enter Try.func4, Try.ntmps4
  go_wp2_with fail
  refine MU.out.mono ?_
  rintro e w1 ⟨⟨z, rfl, hz⟩, hb1⟩
  have H1 := Lib.hid hb1
  clear hb1
  cases z
  case true =>
    clear hz MU
    go_wp2_with fail
    refine (LV.out _).mono ?_
    rintro e w2 ⟨rfl, hb2⟩
    have H2 := Lib.hid (H1.out.trans (hb2.mono H1.out.size))
    clear hb2
    go_wp2_with fail
    go_ret
    exact ⟨rfl, H2.out⟩
  case false =>
    have HZ0 := Lib.hid (hz rfl).1
    clear hz MU
    have M1 := MU1.out w1 H1.out
    clear MU1
    go_wp2_with fail
    refine M1.mono ?_
    rintro e w2 ⟨⟨z, rfl, hz⟩, hb2⟩
    have H2 := Lib.hid (H1.out.trans (hb2.mono H1.out.size))
    clear hb2 M1
    cases z
    case true =>
      clear hz
      go_wp2_with fail
      refine (LV.out _).mono ?_
      rintro e w3 ⟨rfl, hb3⟩
      have H3 := Lib.hid (H2.out.trans (hb3.mono H2.out.size))
      clear hb3
      go_wp2_with fail
      go_ret
      exact ⟨rfl, H3.out⟩
    case false =>
      have HZ1 := Lib.hid (hz rfl).1
      clear hz
      go_wp2_with fail
      refine (NW.out _).mono ?_
      rintro e w3 ⟨rfl, hS3, hb3⟩
      have H3 := Lib.hid (H2.out.trans (hb3.mono H2.out.size))
      have HML := Lib.hid H2.out.size
      obtain ⟨M, hM⟩ : ∃ M, w2.heap.size = M := ⟨_, rfl⟩
      rw [hM] at hS3 HML ⊢
      have HS3 := Lib.hid hS3
      have MG := w_Merge M none [] (.slice p l0.length c) l0 w3 hS3 hS3.lt ((RowS.of (HI0.out.carry H3.out)).carry (fun b hb => ⟨⟨by have := H3.out.size; omega, by have := HML.out; omega, by simp⟩, rfl⟩)) (by have := HZ0.out; simp only [List.length_nil]; omega) HE0.out
      clear hb3 hS3 hM
      go_wp2_with fail
      refine MG.mono ?_
      rintro e w4 ⟨N, C, vs, g, rfl, hC, hA, hS4, hg4, -, hk4⟩
      have hB4 : Below W.heap.size w3 w4 := hk4.b W.heap.size HML.out (fun G e => by cases e) H3.out.size
      have HB4 := Lib.hid (H3.out.trans hB4)
      have RM := r26_merge (.slice none 0 0) (.slice p l0.length c) [] l0 W.heap.size (M + 1) w4 (OwnE.nil _ _ _) (HI0.out.carry HB4.out) (by have := HML.out; omega) hS4.lt (by have := HZ0.out; simp only [List.length_nil]; omega) HE0.out
      have HC := Lib.hid hC
      have HA := Lib.hid hA
      have HS4 := Lib.hid hS4
      clear hC hA hS4 hg4 hk4 hB4 MG
      go_wp2_with fail
      refine RM.mono ?_
      rintro e w5 ⟨v5, N5, C5, rfl, hC5, hr5, hb5⟩
      obtain ⟨rfl, rfl, hO5, hv5⟩ := sync (vs := []) HC.out HA.out hC5 hr5 (OwnE.nil _ _ _)
      have hgood := good_mrg (vs := []) HC.out HA.out HE0.out (fun e he => by cases he)
      have HG5 := Lib.hid hgood.1
      have HL5 := Lib.hid (show vs.length ≤ 30 by have h1 := hgood.2; have h2 := HZ0.out; rw [List.length_nil] at h1; omega)
      have HN5 := Lib.hid (show ∀ G, g = some G → v5.ownBlock ≠ some G from fun G e e2 => by
        rcases hv5 with rfl | h
        · cases e2
        · have := h G e2; subst e; have := HS4.out.gt; omega)
      have HS5 := Lib.hid (HS4.out.below hb5)
      have HO5 := Lib.hid hO5
      have HB5 := Lib.hid (HB4.out.trans (hb5.mono HB4.out.size))
      have dn : ((N5 : Int) != (N5 : Int)) = false := by simp
      have dc : (C5 != C5) = false := by simp
      have MG := w_Merge M g vs (.slice p' l1.length c') l1 w5 HS5.out HS5.out.lt ((RowS.of (HI1.out.carry HB5.out)).carry (fun b hb => ⟨⟨by have := HB5.out.size; omega, by have := HML.out; omega, fun e => by have := HS5.out.l.2 b e; have := HML.out; omega⟩, rfl⟩)) (by have := HZ1.out; have := HL5.out; omega) HE1.out
      clear hC5 hr5 hO5 hv5 hgood hb5 RM
      go_wp2_with fail
      refine MG.mono ?_
      rintro e w6 ⟨N, C, vs6, g6, rfl, hC, hA, hS6, hg6, -, hk6⟩
      have hGM := HS5.out.l.2
      have hB6 : Below W.heap.size w5 w6 := hk6.b W.heap.size HML.out (fun G e => by have := hGM G e; have := HML.out; omega) HB5.out.size
      have HB6 := Lib.hid (HB5.out.trans hB6)
      have hO6 := HO5.out.mkeep hk6 (Nat.lt_succ_self M) HML.out (fun G e => by have := hGM G e; omega) HB5.out.size HN5.out
      have HN6 := Lib.hid (show ∀ G, g6 = some G → v5.ownBlock ≠ some G from fun G e => by
        rcases hg6 G e with e2 | h
        · exact HN5.out G e2
        · intro e2; have := HO5.out.ownLt G e2; omega)
      have RM := r26_merge v5 (.slice p' l1.length c') (vs.map P6.x) l1 W.heap.size (M + 1) w6 hO6 (HI1.out.carry HB6.out) (by have := HML.out; omega) hS6.lt (by have := HZ1.out; have := HL5.out; rw [List.length_map]; omega) HE1.out
      have HC6 := Lib.hid hC
      have HA6 := Lib.hid hA
      have HS6 := Lib.hid hS6
      have HO6 := Lib.hid hO6
      clear hC hA hS6 hg6 hk6 hB6 MG hGM hO6
      obtain ⟨a5, m5, c5, rfl⟩ : ∃ a m c, v5 = .slice a m c := by
        rcases HO5.out.form with ⟨rfl, _⟩ | ⟨_, _, rfl, _⟩
        · exact ⟨_, _, _, rfl⟩
        · exact ⟨_, _, _, rfl⟩
      go_wp2_with fail
      refine RM.mono ?_
      rintro e w7 ⟨v7, N7, C7, rfl, hC7, hr7, hb7⟩
      have hO67 := HO6.out.below hb7 HB6.out.size
      obtain ⟨rfl, rfl, hO7, hv7⟩ := sync (vs := vs) HC6.out HA6.out hC7 hr7 hO67
      have hgood := good_mrg HC6.out HA6.out HE1.out HG5.out
      have HG7 := Lib.hid hgood.1
      have HL7 := Lib.hid (show vs6.length ≤ 60 by have h1 := hgood.2; have h2 := HZ1.out; have h3 := HL5.out; omega)
      have HS7 := Lib.hid (HS6.out.below hb7)
      have HO7 := Lib.hid hO7
      have HB7 := Lib.hid (HB6.out.trans (hb7.mono HB6.out.size))
      have dn : ((N7 : Int) != (N7 : Int)) = false := by simp
      have dc : (C7 != C7) = false := by simp
      obtain ⟨a7, c7, rfl⟩ : ∃ a c, v7 = .slice a vs6.length c := by
        rcases hO7.form with ⟨rfl, h⟩ | ⟨g, c, rfl, _⟩
        · have : vs6 = [] := List.map_eq_nil_iff.1 h
          subst this; exact ⟨_, _, rfl⟩
        · rw [List.length_map]; exact ⟨_, _, rfl⟩
      have EN := w_Entries M g6 vs6 w7 HS7.out (by have := HL7.out; omega)
      clear hC7 hr7 hO7 hv7 hgood hb7 RM hO67
      go_wp2_with fail
      refine EN.mono ?_
      rintro e w8 ⟨v8, rfl, hr8, hb8⟩
      have hO8 := HO7.out.below hb8 HB7.out.size
      have HB8 := Lib.hid (HB7.out.trans (hb8.mono HB7.out.size))
      have HS8 := Lib.hid (HS7.out.below hb8)
      have SO := r24_sort (.slice a7 vs6.length c7) (vs6.map P6.x) w8.heap.size w8 (hO8.rowN HB8.out.size) (Nat.le_refl _) (by have := HL7.out; rw [List.length_map]; omega)
      have HR8 := Lib.hid hr8
      clear hb8 EN hr8 hO8
      go_wp2_with fail
      refine SO.mono ?_
      rintro e w9 ⟨v9, rfl, hO9, hb9⟩
      have HB9 := Lib.hid (HB8.out.trans (hb9.mono HB8.out.size))
      have HS9 := Lib.hid (HS8.out.below hb9)
      have AL := r24_all_same v8 v9 _ w9.heap.size w9 ((HR8.out.below (Nat.le_refl _) hb9).mono hb9.size) (hO9.rowN hb9.size) (Nat.le_refl _) (by have := HL7.out; rw [sortN_len, List.length_map]; omega)
      clear hb9 SO hO9
      go_wp2_with fail
      refine AL.mono ?_
      rintro e w10 ⟨rfl, hb10⟩
      have HB10 := Lib.hid (HB9.out.trans (hb10.mono HB9.out.size))
      have HS10 := Lib.hid (HS9.out.below hb10)
      clear AL hb10
      go_wp2_with fail
      refine (NW.out _).mono ?_
      rintro e w11 ⟨rfl, hS11, hb11⟩
      have HB11 := Lib.hid (HB10.out.trans (hb11.mono HB10.out.size))
      have HS11 := Lib.hid (HS10.out.below hb11)
      have HO10 := Lib.hid (show M < w10.heap.size ∧ (∀ G, g6 = some G → G < w10.heap.size) ∧ W.heap.size ≤ w10.heap.size from ⟨HS10.out.lt, fun G e => by subst e; exact HS10.out.gt, HB10.out.size⟩)
      obtain ⟨O, hO⟩ : ∃ O, w10.heap.size = O := ⟨_, rfl⟩
      have HX11 := Lib.hid hb11
      have HEO := Lib.hid hO
      rw [hO] at hS11 HO10 ⊢
      have HT11 := Lib.hid hS11
      have EN := w_Entries M g6 vs6 w11 HS11.out (by have := HL7.out; omega)
      clear hb11 hS11 hO
      go_wp2_with fail
      refine EN.mono ?_
      rintro e w12 ⟨v12, rfl, hr12, hb12⟩
      have HB12 := Lib.hid (HB11.out.trans (hb12.mono HB11.out.size))
      have HX12 := Lib.hid (HX11.out.trans (hb12.mono HX11.out.size))
      have HS12 := Lib.hid (HS11.out.below hb12)
      have HT12 := Lib.hid (HT11.out.below hb12)
      have hap := keys_apart HS12.out.d
      have HAP := Lib.hid hap
      have haps := hap.perm (sortN_perm _).symm
      have hgs : ∀ e ∈ sortN (vs6.map P6.x), e.inr ∧ e.ks.cnt + 1 ≤ 1048576 := fun e he => (HG7.out e (mem_sortN he)).1
      have hbz : badE (sortN (vs6.map P6.x)) = 0 := badE_zero (fun e he => (HG7.out e (mem_sortN he)).2)
      have hmr : mrgE ([] : List En) (sortN (vs6.map P6.x)) = sortN (vs6.map P6.x) := mrgE_apart (l := []) haps
      have MG := w_Merge O none [] v12 (sortN (vs6.map P6.x)) w12 HT12.out HT12.out.lt ((RowS.away HT12.out.m hr12).carry (fun b hb => ⟨⟨hb.1, hb.2, by simp⟩, rfl⟩)) (by have := HL7.out; rw [sortN_len, List.length_map, List.length_nil]; omega) hgs
      rw [hbz] at MG
      obtain ⟨va, vm, vc, rfl⟩ : ∃ a m c, v12 = .slice a m c := by
        obtain ⟨a, c, h, _⟩ := hr12.form
        exact ⟨_, _, _, h⟩
      have HMR := Lib.hid hmr
      clear hb12 EN hr12 hap haps hgs hbz hmr
      go_wp2_with fail
      refine MG.mono ?_
      rintro e w13 ⟨N, C, vs13, g13, rfl, rfl, hA, hT13, -, -, hk13⟩
      have hA := hA.resolve_left (fun h => h.1 rfl)
      have hx13 : vs13.map P6.x = sortN (vs6.map P6.x) := by rw [hA.2.1]; exact HMR.out
      have hl13 : vs13.length = vs6.length := by
        have := congrArg List.length hx13
        rw [List.length_map, sortN_len, List.length_map] at this
        exact this
      obtain rfl : N = vs6.length := by have := hA.2.2; rw [List.length_nil] at this; omega
      have hb13 : Below O w12 w13 := hk13.b O (Nat.le_refl _) (fun G e => by cases e) (by have := HT12.out.lt; omega)
      have HS13 := Lib.hid (HS10.out.below (HX12.out.trans (hb13.mono (by rw [HEO.out]; exact Nat.le_refl _))))
      have HB13 := Lib.hid (HB12.out.trans (hb13.mono HO10.out.2.2))
      have HT13 := Lib.hid hT13
      have HI := Lib.hid (show sortN (vs13.map P6.x) = sortN (vs6.map P6.x) by rw [hx13]; exact sortN_idem HAP.out)
      have EN := w_Entries O g13 vs13 w13 hT13 (by have := HL7.out; omega)
      have de : ((vs6.length : Int) == (vs6.length : Int)) = true := by simp
      clear hA hT13 hk13 hx13 hl13 hb13 MG
      go_wp2_with fail
      refine EN.mono ?_
      rintro e w14 ⟨v14, rfl, hr14, hb14⟩
      rw [HI.out] at hr14
      have HB14 := Lib.hid (HB13.out.trans (hb14.mono HB13.out.size))
      have HR14 := Lib.hid hr14
      have EM := w_Entries M g6 vs6 w14 (HS13.out.below hb14) (by have := HL7.out; omega)
      clear EN hr14 hb14
      go_wp2_with fail
      refine EM.mono ?_
      rintro e w15 ⟨v15, rfl, hr15, hb15⟩
      have HB15 := Lib.hid (HB14.out.trans (hb15.mono HB14.out.size))
      have AL := r24_all_same v14 v15 _ w15.heap.size w15 ((HR14.out.below (Nat.le_refl _) hb15).mono hb15.size) hr15 (Nat.le_refl _) (by have := HL7.out; rw [sortN_len, List.length_map]; omega)
      clear EM hr15 hb15
      go_wp2_with fail
      refine AL.mono ?_
      rintro e w16 ⟨rfl, hb16⟩
      have HB16 := Lib.hid (HB15.out.trans (hb16.mono HB15.out.size))
      clear AL hb16
      go_wp2_with fail
      refine (LV.out _).mono ?_
      rintro e w17 ⟨rfl, hb17⟩
      have HB17 := Lib.hid (HB16.out.trans (hb17.mono HB16.out.size))
      clear hb17
      go_wp2_with fail
      go_ret
      exact ⟨rfl, HB17.out⟩
end wmapMerges
end Go.Proofs.Ytmbcfijhlpeddaa
