/- Put together by program (merge2.py): Mmg. -/
import Derived.Test.YtmbcfijhlpeddaaQ11
/- wmap: Merge. -/
namespace Go.Proofs.Ytmbcfijhlpeddaa
open Go.ChangeShapes Go.WideShapes Go.ChangeAt Go.RowKit
set_option linter.unusedVariables false
open Go.WideMaps Go.MapKept Go.WideElems Go.ChangeMaps
set_option linter.unusedSimpArgs false
attribute [local go_sem ↓] Go.wp_at_zero Go.wp_at_succ
theorem putR_put {vs vs' : List P6} {a b k n : Int} {ks : Fo} {fresh : Bool} (h : PutR vs vs' a b k n ks fresh) : vs'.map P6.x = putE (vs.map P6.x) ⟨a, b, k, n, ks⟩ ∧ (fresh = false ∧ vs'.length = vs.length ∨ fresh = true ∧ vs'.length = vs.length + 1) := by
  unfold putE
  rcases h with ⟨rfl, rfl, hk⟩ | ⟨rfl, hk, v', rfl⟩
  · rw [if_pos (hasK_E.2 hk)]; exact ⟨rfl, .inl ⟨rfl, rfl⟩⟩
  · rw [if_neg (fun h => hk (hasK_E.1 h)), List.map_append]; exact ⟨rfl, .inr ⟨rfl, by rw [List.length_append, List.length_singleton]⟩⟩
/-- A row of entries in the blocks S. -/
def RowS (w : World) (S : Nat → Prop) (v : Value) (l : List En) : Prop := ∃ p c, v = .slice p l.length c ∧ l.length ≤ c ∧ c ≤ maxLen ∧ ∀ (i : Nat) (e : En), l[i]? = some e → ∃ b o, p = some ⟨b, o, none⟩ ∧ S b ∧ ∃ s, w.cell? ⟨b, o + i * 5, none⟩ = some (.int .i64 e.a) ∧ w.cell? ⟨b, o + i * 5 + 1, none⟩ = some (.int .i64 e.b) ∧ w.cell? ⟨b, o + i * 5 + 2, none⟩ = some (.int .i64 e.k) ∧ w.cell? ⟨b, o + i * 5 + 3, none⟩ = some (.int .i64 e.n) ∧ w.cell? ⟨b, o + i * 5 + 4, none⟩ = some s ∧ KidsS w S s e.ks
theorem RowS.form {w : World} {S : Nat → Prop} {v : Value} {l : List En} (h : RowS w S v l) : ∃ p c, v = .slice p l.length c ∧ l.length ≤ c ∧ c ≤ maxLen := by
  obtain ⟨p, c, h1, h2, h3, _⟩ := h
  exact ⟨p, c, h1, h2, h3⟩
theorem RowS.get {w : World} {S : Nat → Prop} {p : Option Addr} {m c : Nat} {l : List En} (h : RowS w S (.slice p m c) l) {i : Nat} {e : En} (he : l[i]? = some e) : ∃ b o, p = some ⟨b, o, none⟩ ∧ S b ∧ ∃ s, w.cell? ⟨b, o + i * 5, none⟩ = some (.int .i64 e.a) ∧ w.cell? ⟨b, o + i * 5 + 1, none⟩ = some (.int .i64 e.b) ∧ w.cell? ⟨b, o + i * 5 + 2, none⟩ = some (.int .i64 e.k) ∧ w.cell? ⟨b, o + i * 5 + 3, none⟩ = some (.int .i64 e.n) ∧ w.cell? ⟨b, o + i * 5 + 4, none⟩ = some s ∧ KidsS w S s e.ks := by
  obtain ⟨p', c', h1, _, _, h4⟩ := h
  simp only [Value.slice.injEq] at h1
  obtain ⟨rfl, _, _⟩ := h1
  exact h4 i e he
theorem RowS.carry {w w' : World} {S S' : Nat → Prop} {v : Value} {l : List En} (h : RowS w S v l) (hS : ∀ b, S b → S' b ∧ w'.heap[b]? = w.heap[b]?) : RowS w' S' v l := by
  obtain ⟨p, c, h1, h2, h3, h4⟩ := h
  refine ⟨p, c, h1, h2, h3, fun i e he => ?_⟩
  obtain ⟨b, o, hp, hb, s, c0, c1, c2, c3, c4, hk⟩ := h4 i e he
  have hw := (hS b hb).2
  exact ⟨b, o, hp, (hS b hb).1, s, (World.cell?_of_block (a := ⟨b, _, none⟩) hw).trans c0, (World.cell?_of_block (a := ⟨b, _, none⟩) hw).trans c1, (World.cell?_of_block (a := ⟨b, _, none⟩) hw).trans c2, (World.cell?_of_block (a := ⟨b, _, none⟩) hw).trans c3, (World.cell?_of_block (a := ⟨b, _, none⟩) hw).trans c4, hk.carry hS⟩
theorem RowS.of {w : World} {lim : Nat} {v : Value} {l : List En} (h : RowN w lim v l) : RowS w (fun b => b < lim) v l := by
  obtain ⟨p, c, rfl, h2, h3⟩ := h.form
  refine ⟨p, c, rfl, h2, h3, fun i e he => ?_⟩
  obtain ⟨b, o, hp, hb, s, c0, c1, c2, c3, c4, hk⟩ := h.get he
  exact ⟨b, o, hp, hb, s, c0, c1, c2, c3, c4, KidsS.of hk⟩
/-- A block of one cell holds no entry and no node. -/
theorem one_cell {w : World} {O o : Nat} {x v : Value} {T : TypeId} {fr : Nat × Nat} (hO : w.heap[O]? = some (.cells #[x] T fr)) (h : w.cell? ⟨O, o + 1, none⟩ = some v) : False := by
  rw [cell_of_row _ _ _ _ _ _ hO] at h
  simp at h
theorem Fo.AtS.away {O : Nat} {x : Value} {T : TypeId} {fr : Nat × Nat} : ∀ {f : Fo} {w : World} {lim b o : Nat} (_ : w.heap[O]? = some (.cells #[x] T fr)) (_ : f.At w lim b o), f.AtS w (fun b => b < lim ∧ b ≠ O) b o
  | .nil, _, _, _, _, _, _ => trivial
  | .cons _ _ ks r, w, lim, b, o, hO, ⟨hb, c0, c1, ⟨a, c, c2, h1, h2, h3⟩, hr⟩ => by
    refine ⟨⟨hb, fun e => by subst e; exact one_cell hO c1⟩, c0, c1, ⟨a, c, c2, h1, h2, ?_⟩, Fo.AtS.away hO hr⟩
    rcases h3 with h3 | ⟨b', o', e, h3⟩
    · exact .inl h3
    · exact .inr ⟨b', o', e, Fo.AtS.away hO h3⟩
theorem RowS.away {w : World} {lim O : Nat} {x : Value} {T : TypeId} {fr : Nat × Nat} {v : Value} {l : List En} (hO : w.heap[O]? = some (.cells #[x] T fr)) (h : RowN w lim v l) : RowS w (fun b => b < lim ∧ b ≠ O) v l := by
  obtain ⟨p, c, rfl, h2, h3⟩ := h.form
  refine ⟨p, c, rfl, h2, h3, fun i e he => ?_⟩
  obtain ⟨b, o, hp, hb, s, c0, c1, c2, c3, c4, hk⟩ := h.get he
  obtain ⟨a, d, rfl, k1, k2, k3⟩ := hk
  exact ⟨b, o, hp, ⟨hb, fun e => by subst e; exact one_cell hO c1⟩, _, c0, c1, c2, c3, c4, a, d, rfl, k1, k2, k3.imp id (fun ⟨b, o, e, h⟩ => ⟨b, o, e, .away hO h⟩)⟩
theorem MKeep.after {W w w' : World} {M : Nat} {g g2 : Option Nat} (h : MKeep W w M g) (k : MKeep w w' M g2) (hg : ∀ G, g2 = some G → g = some G ∨ W.heap.size ≤ G) : MKeep W w' M g := by
  refine ⟨Nat.le_trans h.z k.z, fun X hX h1 h2 => (k.o X (by have := h.z; omega) h1 (fun e => ?_)).trans (h.o X hX h1 h2), fun H h1 h2 h3 => (h.b H h1 h2 h3).trans (k.b H h1 (fun G e => ?_) (by have := h.z; omega))⟩
  · rcases hg X e with e2 | h'
    · exact h2 e2
    · omega
  · rcases hg G e with e2 | h'
    · exact h2 G e2
    · omega
set_option maxRecDepth 100000 in
set_option maxHeartbeats 8000000 in
theorem w_Merge {L : Nat} (M : Nat) (g : Option Nat) (vs : List P6) (u : Value) (m : List En) (W : World) (hS : MapS W M L g vs) (hLW : L ≤ W.heap.size) (hm : RowS W (fun b => b < W.heap.size ∧ b ≠ M ∧ g ≠ some b) u m) (hn : vs.length + m.length ≤ 80000) (hE : ∀ e ∈ m, e.inr ∧ e.ks.cnt + 1 ≤ 1048576) :
    Calls Try.prog 19 #[.pointer (some ⟨M, 0, none⟩), u] W fun e w' => ∃ (N : Nat) (C : Int) (vs' : List P6) (g' : Option Nat), e = .returned (.tuple #[.int .i64 N, .int .i64 C]) ∧ C = badE m ∧ ((C ≠ 0 ∧ N = 0 ∧ vs' = vs) ∨ (C = 0 ∧ vs'.map P6.x = mrgE (vs.map P6.x) m ∧ N = vs'.length - vs.length)) ∧ MapS w' M L g' vs' ∧ (∀ G, g' = some G → g = some G ∨ W.heap.size ≤ G) ∧ (∀ G, g = some G → g' = some G) ∧ MKeep W w' M g := by
  obtain ⟨p, c, rfl, hlc, hcm⟩ := hm.form
  obtain ⟨n, hnl⟩ : ∃ n, m.length = n := ⟨_, rfl⟩
  have HNL := Lib.hid hnl
  rw [hnl] at hm hlc hn ⊢
  have HIN := Lib.hid hm
  have HE := Lib.hid hE
  have HS := Lib.hid hS
  have hcc : c ≤ 9223372036854775807 := by unfold maxLen at hcm; omega
  clear hS hm hE hnl hcm
  go_enter Try.func19, Try.ntmps19
  go_wp2_with fail
  go_loopw [16] (fun j wr => ∃ i : Nat, j = .int .i64 i ∧ i ≤ n ∧ Hid (∀ (j : Nat) (e : En), j < i → m[j]? = some e → chkE e = 0) ∧ Hid (Below W.heap.size W wr)) (fun j _ => n - (intOf j).toNat)
  case atStart => exact ⟨0, rfl, by omega, Lib.hid (fun j e hj => by omega), Lib.hid (Below.refl _ _)⟩
  case round =>
    obtain ⟨i, rfl, hi, HC, HB⟩ := hrel
    by_cases hlt : i < n
    case pos =>
      have d1 : decide ((i : Int) < (n : Int)) = true := decide_eq_true (by omega)
      have d1' : decide (i < n) = true := decide_eq_true hlt
      obtain ⟨wu, rfl⟩ : ∃ wu, wu = wr := ⟨_, rfl⟩
      obtain ⟨e, he⟩ : ∃ e, m[i]? = some e := ⟨m[i]'(by have := HNL.out; omega), List.getElem?_eq_getElem (by have := HNL.out; omega)⟩
      obtain ⟨gb, o, rfl, hb, s, y0, y1, y2, y3, y4, hKS⟩ := (HIN.out.carry (S' := fun b => b < W.heap.size) (fun b hb => ⟨hb.1, HB.out.block b hb.1⟩)).get he
      have hK := hKS.to (lim := W.heap.size) (fun b hb => hb)
      clear hKS
      obtain ⟨sp, sm, sc, rfl, -, -, hsm⟩ := hK.shape
      obtain ⟨hinr, hcnt⟩ := HE.out e (List.mem_of_getElem? he)
      have STOP := Lib.hid (fun hz => badE_at he (fun j y h1 h2 => HC.out j y h1 h2) hz)
      have STEP := Lib.hid (fun (hz : chkE e = 0) => (show ∀ (j : Nat) (y : En), j < i + 1 → m[j]? = some y → chkE y = 0 from fun j y hj hy => by
        rcases Nat.lt_or_eq_of_le (Nat.le_of_lt_succ hj) with h | rfl
        · exact HC.out j y h hy
        · rw [he] at hy; cases hy; exact hz))
      obtain ⟨zc, hzc⟩ : ∃ z, chkE e = z := ⟨_, rfl⟩
      obtain ⟨ea, eb, ek, em, eks⟩ := e
      simp only [En.inr] at y0 y1 y2 y3 hK hsm hinr hcnt
      obtain ⟨wa, wb, wk, wn, wf⟩ := hinr
      have hbz := HB.out.size
      obtain ⟨w2, hw2, r2, hB2, hs2⟩ := box5 wu ea eb ek em (.slice sp sm sc) 36
      obtain ⟨x0, x1, x2, x3, x4⟩ := cells5 r2
      have CH := e_check eks (.slice sp sm sc) ea eb ek em W.heap.size w2 (by omega) (hK.below (by omega) hB2) (by omega) wa wk wn wf
      rw [show fori ea eb em (chkd ek em eks) = zc from hzc] at CH
      have HW2 := Lib.hid hw2.symm
      have HB2 := Lib.hid (HB.out.trans (hB2.mono HB.out.size))
      have hiI : (i : Int) < (n : Int) := by omega
      have hi0 : (0 : Int) ≤ (i : Int) := by omega
      obtain ⟨X, hX⟩ : ∃ X, wu.heap.size = X := ⟨_, rfl⟩
      rw [hX] at x0 x1 x2 x3 x4
      rw [hzc] at STOP STEP
      clear hzc hK hsm wa wb wk wn wf hcnt he hb hw2 r2 hB2 hs2
      go_upto_region 6 with fail
      rw [HW2.out]
      clear hX HW2
      go_wp2_with fail
      refine CH.mono ?_
      rintro e w3 ⟨rfl, hb3⟩
      have HB3 := Lib.hid (HB2.out.trans (hb3.mono HB2.out.size))
      clear hb3 y0 y1 y2 y3 y4 x0 x1 x2 x3 x4 CH
      by_cases hz : zc = 0
      case pos =>
        have d2 : (zc != 0) = false := by simp [hz]
        have ST2 := Lib.hid (STEP.out hz)
        clear STOP STEP hz
        go_wp2_with fail
        go_roundw
        case rel => exact ⟨i + 1, by go_num, by omega, ST2, HB3⟩
        case measure => simp only [intOf]; omega
      case neg =>
        have d2 : (zc != 0) = true := by simp [hz]
        have ST2 := Lib.hid (STOP.out hz)
        have HZ := Lib.hid hz
        clear STOP STEP hz
        go_wp2_with fail
        go_ret2
        exact ⟨0, zc, vs, g, rfl, ST2.out.symm, .inl ⟨HZ.out, rfl, rfl⟩, HS.out.below HB3.out, fun G e => .inl e, fun G e => e, MKeep.of_below M g HB3.out⟩
    case neg =>
      obtain rfl : i = n := by omega
      have d1 : decide ((i : Int) < (i : Int)) = false := decide_eq_false (by omega)
      have BZ := Lib.hid (show badE m = 0 from badE_zero (fun e he => by
        obtain ⟨j, hj⟩ := List.mem_iff_getElem?.1 he
        exact HC.out j e (by have := (List.getElem?_eq_some_iff.1 hj).1; have := HNL.out; omega) hj))
      have HS1 := Lib.hid (HS.out.below HB.out)
      have HM1 := Lib.hid (MKeep.of_below M g HB.out)
      clear HC
      obtain ⟨wv, rfl⟩ : ∃ wv, wv = wr := ⟨_, rfl⟩
      go_wp2_with fail
      go_loopw [9, 28] (fun q j wr => ∃ (i2 N : Nat) (g2 : Option Nat) (vs2 : List P6), j = .int .i64 i2 ∧ q = .int .i64 N ∧ i2 ≤ i ∧ vs.length ≤ vs2.length ∧ vs2.length ≤ vs.length + i2 ∧ Hid (N = vs2.length - vs.length) ∧ Hid (vs2.map P6.x = mrgE (vs.map P6.x) (m.take i2)) ∧ Hid (MapS wr M L g2 vs2) ∧ Hid (∀ G, g2 = some G → g = some G ∨ W.heap.size ≤ G) ∧ Hid (∀ G, g = some G → g2 = some G) ∧ Hid (MKeep W wr M g)) (fun _ j _ => i - (intOf j).toNat)
      case atStart => exact ⟨0, 0, g, vs, rfl, rfl, by omega, Nat.le_refl _, by omega, Lib.hid (by omega), Lib.hid (by simp [mrgE]), HS1, Lib.hid (fun G e => .inl e), Lib.hid (fun G e => e), HM1⟩
      case round =>
        obtain ⟨i2, N, g2, vs2, rfl, rfl, hi2, hl1, hl2, HN, HV, HS2, HG1, HG2, HK⟩ := hrel
        obtain ⟨wu, rfl⟩ : ∃ wu, wu = wr := ⟨_, rfl⟩
        by_cases hlt2 : i2 < i
        case neg =>
          obtain rfl : i2 = i := by omega
          have d3 : decide ((i2 : Int) < (i2 : Int)) = false := decide_eq_false (by omega)
          have ET := Lib.hid (show m.take i2 = m by rw [← HNL.out, List.take_length])
          go_wp2_with fail
          go_ret2
          exact ⟨N, 0, vs2, g2, rfl, BZ.out.symm, .inr ⟨rfl, by rw [HV.out, ET.out], HN.out⟩, HS2.out, HG1.out, HG2.out, HK.out⟩
        case pos =>
          have d3 : decide ((i2 : Int) < (i : Int)) = true := decide_eq_true (by omega)
          have d3' : decide (i2 < i) = true := decide_eq_true hlt2
          obtain ⟨e, he⟩ : ∃ e, m[i2]? = some e := ⟨m[i2]'(by have := HNL.out; omega), List.getElem?_eq_getElem (by have := HNL.out; omega)⟩
          have hKz := HK.out.z
          obtain ⟨gb, o, rfl, hb, s, y0, y1, y2, y3, y4, hK⟩ := (HIN.out.carry (S' := fun b => b < W.heap.size ∧ b ≠ M) (fun b hb => ⟨⟨hb.1, hb.2.1⟩, HK.out.o b hb.1 hb.2.1 hb.2.2⟩)).get he
          obtain ⟨sp, sm, sc, rfl⟩ := hK.form'
          obtain ⟨hinr, hcnt⟩ := HE.out e (List.mem_of_getElem? he)
          have HSN := Lib.hid (mrgE_snoc (l := vs.map P6.x) he)
          obtain ⟨ea, eb, ek, em, eks⟩ := e
          simp only [En.inr] at y0 y1 y2 y3 hK hinr hcnt
          obtain ⟨wa, wb, wk, wn, wf⟩ := hinr
          obtain ⟨w2, hw2, r2, hB2, hs2⟩ := box5 wu ea eb ek em (.slice sp sm sc) 36
          obtain ⟨x0, x1, x2, x3, x4⟩ := cells5 r2
          have PU := w_put M g2 vs2 ea eb ek em (.slice sp sm sc) eks w2 (HS2.out.below hB2) (by omega) wa wb (hK.carry (fun x hx => ⟨⟨by omega, hx.2⟩, hB2.block x (by omega)⟩)) (by omega)
          have HW2 := Lib.hid hw2.symm
          have HB2 := Lib.hid hB2
          have hiI : (i2 : Int) < (i : Int) := by omega
          have hi0 : (0 : Int) ≤ (i2 : Int) := by omega
          have hNb : N ≤ 80000 := by have := HN.out; omega
          obtain ⟨X, hX⟩ : ∃ X, wu.heap.size = X := ⟨_, rfl⟩
          rw [hX] at x0 x1 x2 x3 x4
          clear hK wa wb wk wn wf hcnt he hb hw2 r2 hB2 hs2
          go_upto_region 14 with fail
          rw [HW2.out]
          clear hX HW2
          go_wp2_with fail
          refine PU.mono ?_
          rintro e w3 ⟨fresh, vs3, g3, rfl, h2, h3, h4, h5, h6⟩
          obtain ⟨hv3, hl3⟩ := putR_put h2
          have hB2z := HB2.out.size
          have HV3 := Lib.hid (show vs3.map P6.x = mrgE (vs.map P6.x) (m.take (i2 + 1)) by rw [hv3, HV.out, HSN.out])
          have HG13 := Lib.hid (show ∀ G, g3 = some G → g = some G ∨ W.heap.size ≤ G from fun G e => by
            rcases h4 G e with e2 | h
            · exact HG1.out G e2
            · exact .inr (by omega))
          have HG23 := Lib.hid (show ∀ G, g = some G → g3 = some G from fun G e => h5 G (HG2.out G e))
          have HK3 := Lib.hid (HK.out.after ((MKeep.of_below M g2 HB2.out).trans h6) HG1.out)
          have HS3 := Lib.hid h3
          clear h2 h3 h4 h5 h6 hv3 PU y0 y1 y2 y3 y4 x0 x1 x2 x3 x4
          rcases hl3 with ⟨rfl, hl3⟩ | ⟨rfl, hl3⟩
          · have HL := Lib.hid hl3
            clear hl3
            go_wp2_with fail
            go_roundw
            case rel => exact ⟨i2 + 1, N, g3, vs3, by go_num, rfl, by omega, by have := HL.out; omega, by have := HL.out; omega, Lib.hid (by have := HN.out; have := HL.out; omega), HV3, HS3, HG13, HG23, HK3⟩
            case measure => simp only [intOf]; omega
          · have HL := Lib.hid hl3
            clear hl3
            go_wp2_with fail
            go_roundw
            case rel => exact ⟨i2 + 1, N + 1, g3, vs3, by go_num, by go_num, by omega, by have := HL.out; omega, by have := HL.out; omega, Lib.hid (by have := HN.out; have := HL.out; omega), HV3, HS3, HG13, HG23, HK3⟩
            case measure => simp only [intOf]; omega
end Go.Proofs.Ytmbcfijhlpeddaa
