/- Put together by program (merge2.py): Ers Mpk Mpw Nam. -/
import Derived.Deep.RegionWith
import Derived.WideKeyEntry
import Derived.DeepKeys4
import Derived.RegionTactic
import Derived.Test.YtafmiilkdhdngaaGreatDoorD11
import Derived.Test.YtafmiilkdhdngaaGreatDoorR22
/- entry.Sort: a copy of each, sorted by keys and stable. -/
namespace Go.Proofs.YtafmiilkdhdngaaGreatDoor
open Go.ChangeShapes Go.WideShapes Go.ChangeAt Go.RowKit
set_option linter.unusedVariables false
set_option linter.unusedSimpArgs false
attribute [local go_sem ↓] Go.wp_at_zero Go.wp_at_succ
set_option maxRecDepth 100000 in
set_option maxHeartbeats 4000000 in
theorem sort_stable (g B N c : Nat) (T : TypeId) (l : List E5) (W : World) (hS : Srtr W B) (hne : B ≠ g) (hl : l.length = N) (hsm : N ≤ 1000000) (hc : N ≤ c ∧ c ≤ maxLen) (hform : Slv l) (h : RowE W g T l) :
    Calls Tryz.prog 61 #[.slice (some ⟨g, 0, none⟩) N c, .func (.func 62) #[] #[.pointer (some ⟨B, 0, none⟩)]] W fun e w' => e = .returned (.tuple #[]) ∧ But W w' g ∧ RowE w' g T (sortE l) := by
  have C := Lib.hid (stable g B N c T l W hS hne hl hsm hc hform h)
  clear hS hform h hl
  go_enter Tryz.func61, Tryz.ntmps61
  go_wp2_with fail
  refine C.out.mono ?_
  rintro e w' ⟨rfl, hb, hr⟩
  have h1 := Lib.hid hb
  have h2 := Lib.hid hr
  clear hb hr C
  go_wp2_with fail
  go_end0
  exact ⟨rfl, h1.out, h2.out⟩
theorem srtr_new (W : World) : ∃ w1 : World, w1 = W.alloc (.cells #[.func (.func 36) #[] #[]] 78) ∧ Srtr w1 W.heap.size ∧ Below W.heap.size W w1 ∧ w1.heap.size = W.heap.size + 1 :=
  ⟨_, rfl, heap_alloc_new _ _, (Below.refl _ _).alloc (Nat.le_refl _) _, by simp⟩
/-- The copies sorted. -/
theorem cpy_sort (W w2 wr : World) (g n : Nat) (l : List En) (hl : l.length = n) (hn : n ≤ 1000000) (hS : Srtr w2 W.heap.size) (hg : W.heap.size + 1 = g) (hB2 : Below W.heap.size W w2) (hb : But w2 wr g) (hC : Cpy wr g 44 l n) :
    Calls Tryz.prog 61 #[.slice (some ⟨g, 0, none⟩) n n, .func (.func 62) #[] #[.pointer (some ⟨W.heap.size, 0, none⟩)]] wr fun e w' => e = .returned (.tuple #[]) ∧ RowS w' (fun b => W.heap.size ≤ b ∧ b < w'.heap.size) (.slice (some ⟨g, 0, none⟩) n n) (sortN l) ∧ Below W.heap.size W w' := by
  subst hl
  obtain ⟨ps, h1, h2, h3⟩ := hC.done
  have hlen : ps.length = l.length := by rw [← h1, List.length_map]
  have := sort_stable g W.heap.size l.length l.length _ (ps.map P6.e) wr (hS.but hb (by omega)) (by omega) (by rw [List.length_map]; exact hlen) hn ⟨Nat.le_refl _, by unfold maxLen; omega⟩ (fun e he => by
    obtain ⟨p, hp, rfl⟩ := List.mem_map.1 he
    exact (h3 p hp).form) h2
  refine this.mono ?_
  rintro e w' ⟨rfl, hb', hr⟩
  rw [sort_e] at hr
  have hsl : (Srt.isort plt ps).length = l.length := by rw [Srt.isort_len]; exact hlen
  have hR := row_ofS (S := fun b => W.heap.size ≤ b ∧ b < w'.heap.size) (c := l.length) hr ⟨by omega, hr.lt⟩ (fun p hp => KidsS.carry ((h3 p (Srt.mem_isort hp)).but hb').kidsS (fun b h => ⟨⟨by omega, h.2⟩, rfl⟩)) ⟨by omega, by unfold maxLen; omega⟩
  rw [hsl, ← sort_x, h1] at hR
  refine ⟨rfl, hR, hB2.trans ((hb.trans hb').b _ (by omega) hB2.size)⟩
set_option maxRecDepth 100000 in
set_option maxHeartbeats 8000000 in
theorem e_sorter (v : Value) (l : List En) (lim : Nat) (W : World) (h : RowN W lim v l) (hlim : lim ≤ W.heap.size) (hn : l.length ≤ 100000) (hw : ∀ e ∈ l, e.ks.cnt ≤ 1048576) :
    Calls Tryz.prog 37 #[.agg #[.func (.func 36) #[] #[]], v] W fun e w' => ∃ g, e = .returned (.slice (some ⟨g, 0, none⟩) l.length l.length) ∧ W.heap.size ≤ g ∧ RowS w' (fun b => W.heap.size ≤ b ∧ b < w'.heap.size) (.slice (some ⟨g, 0, none⟩) l.length l.length) (sortN l) ∧ Below W.heap.size W w' := by
  obtain ⟨p, c, rfl, hlc, hcm⟩ := h.form
  obtain ⟨n, hnl⟩ : ∃ n, l.length = n := ⟨_, rfl⟩
  rw [hnl] at h hlc hn ⊢
  obtain ⟨w1, hw1, hS1, hB1, hs1⟩ := srtr_new W
  obtain ⟨w2, mk, hB2, hs2, hr2⟩ := make_ens w1 n (by omega)
  obtain ⟨g, hg⟩ : ∃ g, w1.heap.size = g := ⟨_, rfl⟩
  have hgB : W.heap.size + 1 = g := by omega
  have hB12 := hB1.trans (hB2.mono hB1.size)
  have hS2 := hS1.below hB2
  have HC0 : Hid (Cpy w2 g 44 l 0) := Lib.hid (Cpy.start (by rw [hnl, ← hg]; exact hr2))
  have DN := Lib.hid (fun wr (hb : But w2 wr g) (hC : Cpy wr g 44 l n) => cpy_sort W w2 wr g n l hnl (by omega) hS2 hgB hB12 hb hC)
  have HIN := Lib.hid (fun wr (hb : But w2 wr g) => h.carry ((hB12.trans (hb.b W.heap.size (by omega) hB12.size)).mono hlim))
  have HWF := Lib.hid hw
  have HG := Lib.hid hgB
  have HLIM := Lib.hid hlim
  have HNL := Lib.hid hnl
  have HW1 := Lib.hid hw1.symm
  rw [hg] at mk
  have mk' : (Instr.makeSlice 22 (.int .i64 n) (.int .i64 n)).run Tryz.prog w1 = .ok (.slice (some ⟨g, 0, none⟩) n n) w2 := mk
  have hcc : c ≤ 9223372036854775807 := by unfold maxLen at hcm; omega
  have HS12 := Lib.hid hB12.size
  clear h hw hw1 hS1 hB1 hs1 mk hB2 hs2 hr2 hg hgB hB12 hS2 hlim hcm
  go_enter Tryz.func37, Tryz.ntmps37
  go_upto_region 1 with fail
  rw [HW1.out]
  go_wp2_with fail
  clear mk'
  go_loopw [13] (fun j wr => ∃ i : Nat, j = .int .i64 i ∧ i ≤ n ∧ Hid (Cpy wr g 44 l i) ∧ Hid (But w2 wr g)) (fun j _ => n - (intOf j).toNat)
  case atStart => exact ⟨0, rfl, by omega, HC0, Lib.hid (But.refl _ _)⟩
  case round =>
    obtain ⟨i, rfl, hi, HC, HB⟩ := hrel
    by_cases hlt : i < n
    case neg =>
      obtain rfl : i = n := by omega
      have d1 : decide ((i : Int) < (i : Int)) = false := decide_eq_false (by omega)
      have C := DN.out wr HB.out HC.out
      clear HC HC0 DN HIN
      go_wp2_with fail
      refine C.mono ?_
      rintro e w3 ⟨rfl, hr, hb⟩
      have h1 := Lib.hid hr
      have h2 := Lib.hid hb
      clear C hr hb
      go_wp2_with fail
      go_ret
      exact ⟨g, rfl, by have := HG.out; omega, h1.out, h2.out⟩
    case pos =>
      have d1 : decide ((i : Int) < (n : Int)) = true := decide_eq_true (by omega)
      have d1' : decide (i < n) = true := decide_eq_true hlt
      obtain ⟨e, he⟩ : ∃ e, l[i]? = some e := ⟨l[i]'(by have := HNL.out; omega), List.getElem?_eq_getElem (by have := HNL.out; omega)⟩
      obtain ⟨b, o, rfl, hb, s, x0, x1, x2, x3, x4, hK⟩ := (HIN.out wr HB.out).get he
      obtain ⟨sp, sm, sc, rfl, -, -, hsm⟩ := hK.shape
      have hcnt := HWF.out e (List.mem_of_getElem? he)
      have hlw : lim ≤ wr.heap.size := by have := HB.out.z; have := HS12.out; have := HLIM.out; omega
      obtain ⟨w3, hw3, r3, hB3, hs3⟩ := box5 wr e.a e.b e.k e.n (.slice sp sm sc) 44
      have hC3 := HC.out.below hB3
      have CL := Lib.hid (fun u (hu : Below w3.heap.size w3 u) => (show Calls Tryz.prog 60 #[.agg #[.int .i64 e.k, .int .i64 e.n, .slice sp sm sc]] u fun x w' => ∃ F q ja jc, x = .returned (.agg #[.int .i64 e.k, .int .i64 e.n, .slice ja e.ks.len jc]) ∧ kidv F 0 e.ks.len = .slice ja e.ks.len jc ∧ Cloned w' F e.ks q ∧ w3.heap.size ≤ F ∧ Below w3.heap.size w3 w' from by
        refine (desc_clone e.k e.n (.slice sp sm sc) e.ks lim u ((hK.below hlw hB3).below (by omega) hu) (by have := hu.size; omega) hcnt).mono ?_
        rintro x w' ⟨F, q, rfl, h2, h3, h4⟩
        obtain ⟨ja, jc, hjv⟩ := kidv_form F 0 e.ks.len
        exact ⟨F, q, ja, jc, by rw [hjv], hjv, h2, Nat.le_trans hu.size h3, hu.trans (h4.mono hu.size)⟩))
      have ST := Lib.hid (fun (w6 : World) (hb6 : Below w3.heap.size w3 w6) F q (hF : Cloned w6 F e.ks q) (hge : w3.heap.size ≤ F) => (hC3.below hb6).step he hF (by have := hC3.lt; omega) hcnt)
      have OLD := Lib.hid (fun (w6 : World) (hb6 : Below w3.heap.size w3 w6) => (hC3.below hb6).old (by have := HNL.out; omega))
      have KP := Lib.hid (fun (w6 : World) (hb6 : Below w3.heap.size w3 w6) => cells5 ((hb6.block _ (by omega)).trans r3))
      have BB := Lib.hid (fun (w6 : World) (hb6 : Below w3.heap.size w3 w6) => (HB.out.trans (But.of_below g hB3)).trans (But.of_below g hb6))
      obtain ⟨y0, y1, y2, y3, y4⟩ := cells5 r3
      have HW3 := Lib.hid hw3.symm
      have hiI : (i : Int) < (n : Int) := by omega
      have hi0 : (0 : Int) ≤ (i : Int) := by omega
      obtain ⟨ea, eb, ek, em, eks⟩ := e
      simp only at x0 x1 x2 x3 y0 y1 y2 y3 hK hcnt CL ST KP HW3 hsm
      have HE := Lib.hid he
      obtain ⟨X, hX⟩ : ∃ X, wr.heap.size = X := ⟨_, rfl⟩
      rw [hX] at y0 y1 y2 y3 y4 KP
      have HX := Lib.hid hX
      clear hw3 r3 hs3 hC3 hB3 he hK hcnt hlw hb HC
      go_upto_region 5 with fail
      rw [HW3.out]
      go_region_with (go_at_call 60; go_loud (with_reducible refine (CL.out w3.drew ((Below.refl _ _).drew)).mono ?_; rintro e w6 ⟨F, q, ja, jc, rfl, hjv, hF, hge, hB6⟩; obtain ⟨k0, k1, k2, k3, k4⟩ := KP.out w6 hB6; obtain ⟨o0, o1, o2, o3, o4, of⟩ := OLD.out w6 hB6; have E1 := ST.out w6 hB6 F q hF hge; have E2 := (BB.out w6 hB6).trans (s5o_but w6 g (i * 5) ⟨ea, eb, ek, em, kidv F 0 eks.len⟩); rw [hjv] at E1 E2; obtain ⟨wn, hwn⟩ : ∃ wn, s5o w6 g (i * 5) ⟨ea, eb, ek, em, .slice ja eks.len jc⟩ = wn := ⟨_, rfl⟩; rw [hwn] at E1 E2; simp only [s5o] at hwn; have HWN := Lib.hid hwn; have E1 := Lib.hid E1; have E2 := Lib.hid E2; have f0 := of (i * 5); have f1 := of (i * 5 + 1); have f2 := of (i * 5 + 2); have f3 := of (i * 5 + 3); have f4 := of (i * 5 + 4); clear of hwn hF hge hB6 hjv))
      all_goals
        rw [HWN.out]
        clear k0 k1 k2 k3 k4 o0 o1 o2 o3 o4 f0 f1 f2 f3 f4 x0 x1 x2 x3 x4 y0 y1 y2 y3 y4
        go_wp2_with fail
        go_roundw
      all_goals
        first
        | exact ⟨i + 1, by go_num, by omega, E1, E2⟩
        | (simp only [intOf]; omega)
set_option maxRecDepth 100000 in
set_option maxHeartbeats 4000000 in
theorem entry_sort (v : Value) (l : List En) (lim : Nat) (W : World) (h : RowN W lim v l) (hlim : lim ≤ W.heap.size) (hn : l.length ≤ 100000) (hw : ∀ e ∈ l, e.ks.cnt ≤ 1048576) :
    Calls Tryz.prog 19 #[v] W fun e w' => ∃ g, e = .returned (.slice (some ⟨g, 0, none⟩) l.length l.length) ∧ W.heap.size ≤ g ∧ RowS w' (fun b => W.heap.size ≤ b ∧ b < w'.heap.size) (.slice (some ⟨g, 0, none⟩) l.length l.length) (sortN l) ∧ Below W.heap.size W w' := by
  have C := Lib.hid (e_sorter v l lim W h hlim hn hw)
  obtain ⟨p, c, rfl, hlc, hcm⟩ := h.form
  clear h hlim hn hw hlc hcm
  go_enter Tryz.func19, Tryz.ntmps19
  go_wp2_with fail
  refine C.out.mono ?_
  rintro e w' ⟨g, rfl, hg, hr, hb⟩
  have h1 := Lib.hid hr
  have h2 := Lib.hid hb
  clear hr hb C
  go_wp2_with fail
  go_ret
  exact ⟨g, rfl, hg, h1.out, h2.out⟩
end Go.Proofs.YtafmiilkdhdngaaGreatDoor
/- A map of the call's own from keys of two ints to descriptors. -/
namespace Go.Proofs.YtafmiilkdhdngaaGreatDoor
open Go.ChangeShapes Go.WideShapes Go.ChangeAt Go.RowKit
set_option linter.unusedVariables false
open Go.WideMaps Go.MapKept Go.WideElems Go.ChangeMaps
set_option linter.unusedSimpArgs false
section
variable {P : Program} {k e t : TypeId}
theorem mk_none (K : KeyLaw P k) (ht : P.underlying t = some (.map k e)) {z : Value} (hz : ∀ u : World, (zeroValue e).run P u = .ok z u) (w : World) {key : Value} {kl : Lit} (hkey : keyOf P k key = some kl) :
    (Instr.lookup t (.map none) key true).run P w = .ok (.tuple #[z, .bool false]) w := by
  rcases K.find w hkey [] (fun x hx => by cases hx) with ⟨h1, h2⟩ | ⟨j, e0, h1, h2, h3⟩
  · simp [Instr.lookup, run_underlying ht, K.check w _ hkey, h1, hz, Result.andThen]
  · simp at h2
end
theorem laid_prog' : laidOutB Tryz.prog = true := by kernel_rfl
theorem key_law : KeyLaw Tryz.prog 39 := deep_law_laid laid_prog' (m := 10) (by decide) (of_decide_eq_true (by kernel_rfl)) (by kernel_rfl) (by kernel_rfl)
def kv (a b : Int) : Value := .agg #[.int .i64 a, .int .i64 b]
theorem kv_inj {a b a' b' : Int} (h : kv a b = kv a' b') : a = a' ∧ b = b' := by
  unfold kv at h
  simpa using h
theorem keyLits_i64' {d : Nat} {t : TypeId} {n : Int} (hu : Tryz.prog.underlying t = some (.int .i64)) (hn : -9223372036854775808 ≤ n ∧ n ≤ 9223372036854775807) : Tryz.prog.keyLits (d + 1) t [.int .i64 n] = some [.int .i64 n] := by
  have hw : (Lit.int .i64 n).wf = true := by simp [Lit.wf, IntKind.min, IntKind.max, IntKind.signed, IntKind.bits]; omega
  unfold Program.keyLits
  rw [hu]
  simp [hw]
theorem kv_key (a b : Int) (ha : -9223372036854775808 ≤ a ∧ a ≤ 9223372036854775807) (hb : -9223372036854775808 ≤ b ∧ b ≤ 9223372036854775807) : ∃ l, keyOf Tryz.prog 39 (kv a b) = some l := by
  have hk : Tryz.prog.keyType 39 = true := by kernel_rfl
  have hc : Tryz.prog.cellsOf 39 = 2 := by kernel_rfl
  have hi : Tryz.prog.cellsOf 3 = 1 := by kernel_rfl
  obtain ⟨m, hm⟩ : ∃ m, Tryz.prog.types.size = m + 1 := ⟨Tryz.prog.types.size - 1, by have : 0 < Tryz.prog.types.size := of_decide_eq_true (by kernel_rfl); omega⟩
  have k1 := keyLits_i64' (d := m) Tryz.underlying3 ha
  have k2 := keyLits_i64' (d := m) Tryz.underlying3 hb
  have hf : (kv a b).formed Tryz.prog 39 = true := by
    unfold kv Value.formed
    simp [Tryz.underlying39, hc]
  have hL : Tryz.prog.keyLits (Tryz.prog.types.size + 1) 39 (kv a b).cells.toList = some [.int .i64 a, .int .i64 b] := by
    rw [hm]
    unfold Program.keyLits
    rw [Tryz.underlying39]
    simp [kv, Value.cells, hc, hi, k1, k2]
  refine ⟨.string (keyBytes [.int .i64 a, .int .i64 b]), ?_⟩
  unfold keyOf
  rw [Tryz.underlying39]
  simp only [hk, hf, hL, Bool.and_self, if_true, Option.map_some]
theorem zero_desc (u : World) : (zeroValue 42).run Tryz.prog u = .ok (.agg #[.int .i64 0, .int .i64 0, .slice none 0 0]) u := by kernel_rfl
def En.inr' (e : En) : Prop := (-9223372036854775808 ≤ e.a ∧ e.a ≤ 9223372036854775807) ∧ (-9223372036854775808 ≤ e.b ∧ e.b ≤ 9223372036854775807)
/-- The map's entries: each with its number. -/
def mEnt (j : Nat) (p : P6) : MapEntry := ⟨kv p.a p.b, .agg #[.int .i64 p.k, .int .i64 p.n, p.v], j⟩
def mEnts : Nat → List P6 → List MapEntry
  | _, [] => []
  | j, p :: l => mEnt j p :: mEnts (j + 1) l
/-- Keys, each just once. -/
def Keys (l : List P6) : Prop := ∀ (i j : Nat) (x y : P6), l[i]? = some x → l[j]? = some y → x.a = y.a → x.b = y.b → i = j
/-- The key's entry; or there is none. -/
def hasK (l : List P6) (a b : Int) : Prop := ∃ p ∈ l, p.a = a ∧ p.b = b
end Go.Proofs.YtafmiilkdhdngaaGreatDoor
/- wmap: New, put. -/
namespace Go.Proofs.YtafmiilkdhdngaaGreatDoor
open Go.ChangeShapes Go.WideShapes Go.ChangeAt Go.RowKit
set_option linter.unusedVariables false
open Go.WideMaps Go.MapKept Go.WideElems Go.ChangeMaps
set_option linter.unusedSimpArgs false
attribute [local go_sem ↓] Go.wp_at_zero Go.wp_at_succ
/-- What the map keeps of an element: kids in a block of their own. -/
def ClM (w : World) (L : Nat) (g : Option Nat) (p : P6) : Prop := ∃ F q, p.v = kidv F 0 p.ks.len ∧ Cloned w F p.ks q ∧ L ≤ F ∧ g ≠ some F ∧ p.ks.cnt ≤ 1048576
theorem ClM.keep {w w' : World} {L : Nat} {g : Option Nat} {p : P6} (h : ClM w L g p) (hz : w.heap.size ≤ w'.heap.size) (hb : ∀ X, X < w.heap.size → L ≤ X → g ≠ some X → w'.heap[X]? = w.heap[X]?) : ClM w' L g p := by
  obtain ⟨F, q, hv, hC, h1, h2, h3⟩ := h
  exact ⟨F, q, hv, hC.below (hb F hC.blk h1 h2) hz, h1, h2, h3⟩
theorem ClM.kids {w : World} {L : Nat} {g : Option Nat} {p : P6} (h : ClM w L g p) : Kids w w.heap.size p.v p.ks := by
  obtain ⟨F, q, hv, hC, _, _, hc⟩ := h
  rw [hv]
  exact hC.kids hC.blk hc
/-- All but the map is as it was. -/
structure MKeep (w w' : World) (M : Nat) (g : Option Nat) : Prop where
  z : w.heap.size ≤ w'.heap.size
  o : ∀ X, X < w.heap.size → X ≠ M → g ≠ some X → w'.heap[X]? = w.heap[X]?
  b : ∀ H, H ≤ M → (∀ G, g = some G → H ≤ G) → H ≤ w.heap.size → Below H w w'
theorem MKeep.of_below {w w' : World} (M : Nat) (g : Option Nat) (h : Below w.heap.size w w') : MKeep w w' M g := ⟨h.size, fun X hX _ _ => h.block X hX, fun H _ _ h2 => h.mono h2⟩
theorem MKeep.trans {w w' w'' : World} {M : Nat} {g : Option Nat} (h : MKeep w w' M g) (k : MKeep w' w'' M g) : MKeep w w'' M g :=
  ⟨Nat.le_trans h.z k.z, fun X hX h1 h2 => (k.o X (by have := h.z; omega) h1 h2).trans (h.o X hX h1 h2), fun H h1 h2 h3 => (h.b H h1 h2 h3).trans (k.b H h1 h2 (by have := h.z; omega))⟩
theorem setBlock_heap {w : World} {b : Nat} {o : Obj} {X : Nat} (h : X ≠ b) : (setBlock w b o).heap[X]? = w.heap[X]? := by
  unfold setBlock
  rw [Array.getElem?_setIfInBounds, if_neg (fun e => h e.symm)]
theorem setBlock_at {w : World} {b : Nat} {o : Obj} (h : b < w.heap.size) : (setBlock w b o).heap[b]? = some o := by
  unfold setBlock
  rw [Array.getElem?_setIfInBounds, if_pos rfl, if_pos h]
theorem setBlock_size {w : World} {b : Nat} {o : Obj} : (setBlock w b o).heap.size = w.heap.size := by
  unfold setBlock; simp
theorem setBlock_below {w : World} {b H : Nat} {o : Obj} (h : H ≤ b) : Below H w (setBlock w b o) := ⟨rfl, rfl, rfl, by rw [setBlock_size]; exact Nat.le_refl _, fun X hX => setBlock_heap (by omega)⟩
theorem keys_snoc {vs : List P6} {p : P6} (h : Keys vs) (hn : ¬ hasK vs p.a p.b) : Keys (vs ++ [p]) := fun i j x y hi hj e1 e2 => by
  have l1 := (List.getElem?_eq_some_iff.1 hi).1
  have l2 := (List.getElem?_eq_some_iff.1 hj).1
  rw [List.length_append, List.length_singleton] at l1 l2
  by_cases h1 : i < vs.length
  · rw [List.getElem?_append_left h1] at hi
    by_cases h2 : j < vs.length
    · rw [List.getElem?_append_left h2] at hj
      exact h i j x y hi hj e1 e2
    · rw [List.getElem?_append_right (by omega), show j - vs.length = 0 by omega] at hj
      simp at hj; subst hj
      exact absurd ⟨x, List.mem_of_getElem? hi, e1, e2⟩ hn
  · rw [List.getElem?_append_right (by omega), show i - vs.length = 0 by omega] at hi
    simp at hi; subst hi
    by_cases h2 : j < vs.length
    · rw [List.getElem?_append_left h2] at hj
      exact absurd ⟨y, List.mem_of_getElem? hj, e1.symm, e2.symm⟩ hn
    · omega
end Go.Proofs.YtafmiilkdhdngaaGreatDoor
/- Names of tables: what a node names, and what all below it name; package need's named. -/
namespace Go.Proofs.YtafmiilkdhdngaaGreatDoor
open Go.ChangeShapes Go.WideShapes Go.ChangeAt Go.RowKit
set_option linter.unusedVariables false
/-- A name: its kind, its two sizes, its direction. -/
structure Nam where
  k : Int
  n : Int
  m : Int
  d : Int
theorem Nam.eq_iff (a b : Nam) : a = b ↔ a.k = b.k ∧ a.n = b.n ∧ a.m = b.m ∧ a.d = b.d := by
  obtain ⟨k, n, m, d⟩ := a
  obtain ⟨k', n', m', d'⟩ := b
  simp
instance : DecidableEq Nam := fun a b => decidable_of_iff _ (Nam.eq_iff a b).symm
def Nam.val (x : Nam) : Value := .agg #[.int .i64 x.k, .int .i64 x.n, .int .i64 x.m, .int .i64 x.d]
def Nam.cells (x : Nam) : List Value := [.int .i64 x.k, .int .i64 x.n, .int .i64 x.m, .int .i64 x.d]
/-- What a node itself names. -/
def namedL (k n dir a : Int) : List Nam := if k = 1 ∨ k = 3 ∨ k = 4 then [⟨1, n, 0, dir⟩] else if k = 6 then [⟨3, n, 0, dir⟩] else if k = 7 then [⟨2, n, 0, dir⟩, ⟨4, n, a, dir⟩] else []
/-- The direction of what is below. -/
def under (k dir : Int) : Int := if k = 6 ∨ k = 7 then 0 else dir
/-- What the trees of a row name, a node ahead of those below it. -/
def Fo.names : Fo → Int → List Nam
  | .nil, _ => []
  | .cons k n ks r, dir => namedL k n dir (ks.n 0) ++ ks.names (under k dir) ++ r.names dir
/-- A slice's elements, as they are read: names. -/
def NRow (w : World) (lim : Nat) (a : Option Addr) (l : List Nam) : Prop := l = [] ∨ ∃ b o, a = some ⟨b, o, none⟩ ∧ b < lim ∧ ∀ i (hi : i < l.length), w.cell? ⟨b, o + i * 4, none⟩ = some (.int .i64 l[i].k) ∧ w.cell? ⟨b, o + i * 4 + 1, none⟩ = some (.int .i64 l[i].n) ∧ w.cell? ⟨b, o + i * 4 + 2, none⟩ = some (.int .i64 l[i].m) ∧ w.cell? ⟨b, o + i * 4 + 3, none⟩ = some (.int .i64 l[i].d)
theorem NRow.carry {w w' : World} {lim : Nat} {a : Option Addr} {l : List Nam} (h : NRow w lim a l) (hb : Below lim w w') : NRow w' lim a l := by
  rcases h with h | ⟨b, o, e, hlt, hc⟩
  · exact .inl h
  · refine .inr ⟨b, o, e, hlt, fun i hi => ?_⟩
    obtain ⟨h0, h1, h2, h3⟩ := hc i hi
    exact ⟨(hb.cell (p := ⟨b, _, none⟩) hlt).trans h0, (hb.cell (p := ⟨b, _, none⟩) hlt).trans h1, (hb.cell (p := ⟨b, _, none⟩) hlt).trans h2, (hb.cell (p := ⟨b, _, none⟩) hlt).trans h3⟩
theorem NRow.nought (w : World) (lim : Nat) (a : Option Addr) : NRow w lim a [] := .inl rfl
theorem NRow.get {w : World} {lim : Nat} {a : Option Addr} {l : List Nam} (h : NRow w lim a l) {i : Nat} (hi : i < l.length) : ∃ b o, a = some ⟨b, o, none⟩ ∧ b < lim ∧ w.cell? ⟨b, o + i * 4, none⟩ = some (.int .i64 l[i].k) ∧ w.cell? ⟨b, o + i * 4 + 1, none⟩ = some (.int .i64 l[i].n) ∧ w.cell? ⟨b, o + i * 4 + 2, none⟩ = some (.int .i64 l[i].m) ∧ w.cell? ⟨b, o + i * 4 + 3, none⟩ = some (.int .i64 l[i].d) := by
  rcases h with h | ⟨b, o, e, hlt, hc⟩
  · rw [h] at hi; simp at hi
  · exact ⟨b, o, e, hlt, hc i hi⟩
end Go.Proofs.YtafmiilkdhdngaaGreatDoor
