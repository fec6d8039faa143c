/- Put together by program (merge.py): Wrong Rowset Samei Ownm. -/
import Derived.Deep.AppendSrc
import Derived.Test.YtbhnlfgccldmaaaGreatZd2
import Derived.Test.YtbhnlfgccldmaaaGreatZd3
import Derived.Test.YtbhnlfgccldmaaaGreatZd5
import Derived.Test.YtbhnlfgccldmaaaGreatZd9
/- Package valid: Wrong, Check, For. -/
namespace Go.Proofs.YtbhnlfgccldmaaaGreat
open Go.ChangeShapes Go.WideShapes Go.ChangeAt Go.RowKit
set_option linter.unusedVariables false
/-- The path of the first node of a row that is not right; the row's first node has number i. -/
def wrongF : Fo → Nat → Option (List Int)
  | .nil, _ => none
  | .cons k n ks r, i => if (Nd.mk k n ks).ok = false then some [(i : Int)] else match wrongF ks 0 with
    | some p => some ((i : Int) :: p)
    | none => wrongF r (i + 1)
/-- The same of one node. -/
def wrongN (k n : Int) (ks : Fo) : Option (List Int) := if (Nd.mk k n ks).ok = false then some [] else wrongF ks 0
theorem wrongF_cons (k n : Int) (ks r : Fo) (i : Nat) : wrongF (.cons k n ks r) i = match wrongN k n ks with
    | some p => some ((i : Int) :: p)
    | none => wrongF r (i + 1) := by
  rw [wrongF, wrongN]
  by_cases h : (Nd.mk k n ks).ok = false
  · rw [if_pos h, if_pos h]
  · rw [if_neg h, if_neg h]
theorem wrongF_some {f : Fo} {i : Nat} {p : List Int} (h : i < f.len) (hp : wrongN (f.k i) (f.n i) (f.kids i) = some p) : wrongF (f.drop i) i = some ((i : Int) :: p) := by
  rw [Fo.drop_at f i h, wrongF_cons, hp]
theorem wrongF_none {f : Fo} {i : Nat} (h : i < f.len) (hp : wrongN (f.k i) (f.n i) (f.kids i) = none) : wrongF (f.drop i) i = wrongF (f.drop (i + 1)) (i + 1) := by
  rw [Fo.drop_at f i h, wrongF_cons, hp]
theorem wrongF_end (f : Fo) (i : Nat) : wrongF (f.drop f.len) i = none := by rw [Fo.drop_len, wrongF]
theorem wrongN_bad {k n : Int} {ks : Fo} (h : (Nd.mk k n ks).ok = false) : wrongN k n ks = some [] := if_pos h
theorem wrongN_go {k n : Int} {ks : Fo} (h : (Nd.mk k n ks).ok = true) : wrongN k n ks = wrongF ks 0 := if_neg (by simp [h])
theorem wrongF_len : ∀ (f : Fo) (i : Nat) (p : List Int), wrongF f i = some p → p.length ≤ f.cnt
  | .nil, i, p, h => by simp [wrongF] at h
  | .cons k n ks r, i, p, h => by
    rw [wrongF] at h
    simp only [Fo.cnt]
    by_cases h1 : (Nd.mk k n ks).ok = false
    · rw [if_pos h1] at h; cases h; simp
    · rw [if_neg h1] at h
      cases h2 : wrongF ks 0 with
      | some q => rw [h2] at h; cases h; have := wrongF_len ks 0 q h2; simp; omega
      | none => rw [h2] at h; have := wrongF_len r (i + 1) p h; omega
/-- There is one just where not all are right. -/
theorem wrongF_all : ∀ (f : Fo) (i : Nat), (wrongF f i).isNone = f.pre.all Nd.ok
  | .nil, i => rfl
  | .cons k n ks r, i => by
    rw [wrongF, Fo.pre, List.all_cons, List.all_append, ← wrongF_all ks 0, ← wrongF_all r (i + 1)]
    by_cases h1 : (Nd.mk k n ks).ok = false
    · rw [if_pos h1, h1]; rfl
    · rw [if_neg h1]
      simp only [Bool.not_eq_false] at h1
      rw [h1]
      cases h2 : wrongF ks 0 <;> simp
theorem wrongN_all (k n : Int) (ks : Fo) : (wrongN k n ks).isNone = (Nd.mk k n ks :: ks.pre).all Nd.ok := by
  rw [List.all_cons, ← wrongF_all ks 0, wrongN]
  by_cases h1 : (Nd.mk k n ks).ok = false
  · rw [if_pos h1, h1]; rfl
  · rw [if_neg h1]
    simp only [Bool.not_eq_false] at h1
    rw [h1]; simp
theorem Owns.front {w : World} {B : Nat} {E : TypeId} {k : IntKind} {a : Option Addr} {m c : Nat} {ys zs : List Int} (h : Owns w B E k (.slice a m c) (ys ++ zs)) : Owns w B E k (.slice a ys.length c) ys := by
  obtain ⟨hl, h | ⟨g, cap, cur, e, hb, hh, hn, hm, hs, ht⟩⟩ := h
  · obtain ⟨e, hn⟩ := h
    simp only [Value.slice.injEq] at e
    obtain ⟨rfl, rfl, rfl⟩ := e
    rw [List.length_append] at hn
    have h0 : ys = [] := List.length_eq_zero_iff.1 (by omega)
    subst h0
    exact ⟨by simp, .inl ⟨rfl, rfl⟩⟩
  · simp only [Value.slice.injEq] at e
    obtain ⟨rfl, _, rfl⟩ := e
    rw [List.length_append] at hn
    refine ⟨by simp, .inr ⟨g, c, cur, rfl, hb, hh, by omega, hm, hs, ?_⟩⟩
    have := congrArg (List.take (ys.length * 1)) ht
    rw [List.take_take, List.map_append] at this
    rw [show min (ys.length * 1) ((ys ++ zs).length * 1) = ys.length * 1 by rw [List.length_append]; omega] at this
    rw [this]
    simp
theorem Owns.setCell {w : World} {B Q : Nat} {E : TypeId} {k : IntKind} {v : Value} {ys : List Int} (h : Owns w B E k v ys) (hQ : Q < B) (u : Value) : Owns (w.setCell ⟨Q, 0, none⟩ u) B E k v ys := ownsRow_setCell_below h hQ u
theorem Owns.kind {w : World} {B : Nat} {E : TypeId} {k : IntKind} {v : Value} {ys : List Int} (h : Owns w B E k v ys) : (v = .slice none 0 0 ∧ ys = []) ∨ ∃ g c, v = .slice (some ⟨g, 0, none⟩) ys.length c ∧ ys.length ≤ c ∧ c ≤ maxLen := by
  obtain ⟨hl, h | ⟨g, cap, cur, rfl, hb, hh, hn, hm, hs, ht⟩⟩ := h
  · exact .inl ⟨h.1, List.length_eq_zero_iff.1 h.2⟩
  · exact .inr ⟨g, cap, rfl, hn, hm⟩
/-- One number more, and just which blocks may have turned. -/
theorem append_one_g {ops : Array Oper} {rest : List Oper} {o : Oper} {a : Act} {Q : Exit → Act → World → Prop} {W : World} {T E : TypeId} {k : IntKind} {B : Nat} {v : Value} {ys : List Int} {y : Int}
    (hT : Tryz.prog.underlying T = some (.slice E)) (hI : (Tryz.prog.info? E).map (fun i => (i.zero, i.size, i.bytes)) = some (some (.int k 0), 1, 8)) (hgd : o.guard = none) (s x : Operand)
    (ho : o.op = .call { callee := .builtin .append, args := #[s, x], argTypes := #[T, T] }) (hs : a.eval s = v) (hown : Owns W B E k v ys) (hx : a.eval x = .slice (some ⟨W.heap.size, 0, none⟩) 1 1) (hB : B ≤ W.heap.size) (hlen : ys.length < 17592186044415)
    (h : ∀ v' w', Owns w' B E k v' (ys ++ [y]) → Below B W w' → (∀ X, X < W.heap.size → v.ownBlock ≠ some X → w'.heap[X]? = W.heap[X]?) → wpList Tryz.prog ops Q rest (a.put o.dst v') w') : wpList Tryz.prog ops Q (o :: rest) a (W.alloc (.cells #[.int k y] E)) := by
  obtain ⟨i0, hi, hz0, hz1, hz2⟩ := info_parts hI
  refine wpList_append_own _ hgd s x T ho B E i0 (.int k 0) 1 8 hT hi hz0 hz1 hz2 rfl (by decide) v ys.length (ys.map (Value.int k)) hs (hown.alloc _) ⟨W.heap.size, 0, none⟩ 1 1 [.int k y] hx rfl ?_ ?_ ?_ ?_ ?_ ?_
  · intro j u hj
    match j, hj with
    | 0, hj => simp at hj; subst hj; simp [Addr.add, go_sem]
  · intro u hu; simp at hu; subst hu; rfl
  · unfold maxLen; omega
  · omega
  · simp; omega
  · intro v' w' h1 h2 _
    exact h v' w' (owns_snoc h1) (below_grow (Below.refl _ _) hown hB _ h2) (fun X hX hne => (h2.block X (by simp; omega) (fun e => hne e.symm)).trans (Below.heap_alloc _ _ _ hX))
/-- What a call of valid.wrong leaves: whether there is one, and the path. -/
def WrongOk (W : World) (Q B : Nat) (ys : List Int) (o : Option (List Int)) (e : Ending) (w' : World) : Prop :=
  ∃ s', e = .returned (.bool o.isSome) ∧ Bx w' Q 37 s' ∧ Owns w' B 3 .i64 s' (ys ++ o.getD []) ∧ Below Q W w'
set_option maxRecDepth 100000 in
set_option maxHeartbeats 4000000 in
theorem wrong_any (N : Nat) : ∀ (ks : Fo) (v : Value) (k n : Int) (lim Q B : Nat) (s : Value) (ys : List Int) (W : World), ks.cnt ≤ N → N ≤ 1048576 → ys.length + ks.cnt ≤ 1048576 → Kids W lim v ks → lim ≤ Q → Q < B → B ≤ W.heap.size → Bx W Q 37 s → Owns W B 3 .i64 s ys →
    (-9223372036854775808 ≤ n ∧ n ≤ 9223372036854775807) → ks.wf → Calls Tryz.prog 134 #[.agg #[.int .i64 k, .int .i64 n, v], .pointer (some ⟨Q, 0, none⟩)] W (WrongOk W Q B ys (wrongN k n ks)) := by
  induction N using Nat.strongRecOn with
  | _ N ih =>
  intro ks v k n lim Q B s ys W hN hN2 hN3 hK hlQ hQB hBW hQ hO wn wf
  obtain ⟨p, m, c, rfl, hc1, hc2, HM⟩ := hK.shape
  obtain ⟨w0, hw0, c0, c1, c2, hB, hsz⟩ := box3 W k n (.slice p m c) 24
  have hK0 := hK.below (by omega) hB
  have x0 : W.heap.size < w0.heap.size := by omega
  have NL := Lib.hid (valid_node k n (.slice p m c) ks lim w0 wn hK0 (by omega) wf)
  rw [show nodeB k n ks.len (ks.n 0) (ks.n 1) = (Nd.mk k n ks).ok from rfl] at NL
  cases hok : (Nd.mk k n ks).ok with
  | false =>
    rw [hok] at NL
    have E := Lib.hid (wrongN_bad hok)
    rw [E.out]
    go_enter Tryz.func134, Tryz.ntmps134
    go_wp2_with fail
    rw [← hw0]
    clear hw0
    refine NL.out.mono ?_
    rintro e w1 ⟨rfl, b1⟩
    go_wp2_with fail
    go_ret
    have hb := hB.trans (b1.mono hB.size)
    exact ⟨s, rfl, hQ.below hb, by rw [show ys ++ (some ([] : List Int)).getD [] = ys by simp]; exact hO.below hb, hb.mono (by omega)⟩
  | true =>
  rw [hok] at NL
  have E := Lib.hid (wrongN_go hok)
  rw [E.out]
  have IH := Lib.hid ih
  have FS := Lib.hid (fun i p (hi : i < m) (h : wrongN (ks.k i) (ks.n i) (ks.kids i) = some p) => wrongF_some (f := ks) (show i < ks.len by rw [← HM.out]; exact hi) h)
  have FN := Lib.hid (fun i (hi : i < m) (h : wrongN (ks.k i) (ks.n i) (ks.kids i) = none) => wrongF_none (f := ks) (show i < ks.len by rw [← HM.out]; exact hi) h)
  have FE := Lib.hid (show wrongF (ks.drop m) m = none by rw [HM.out]; exact wrongF_end ks _)
  have F0 := Lib.hid (show wrongF (ks.drop 0) 0 = wrongF ks 0 by rw [Fo.drop_zero])
  have PC := Lib.hid (fun i (hi : i < m) => (show (ks.kids i).cnt < ks.cnt from (Fo.cnt_kids ks i (by rw [← HM.out]; exact hi))))
  have WF := Lib.hid (fun i (hi : i < m) => Fo.wf_at ks i wf (by rw [← HM.out]; exact hi))
  generalize wrongF ks 0 = R at *
  clear ih HM E hok wf
  obtain ⟨l, hl⟩ : ∃ l, ys.length = l := ⟨_, rfl⟩
  by_cases hl0 : l = 0
  · subst hl0
    go_enter Tryz.func134, Tryz.ntmps134
    go_wp2_with fail
    rw [← hw0]
    clear hw0
    refine NL.out.mono ?_
    rintro e w1 ⟨rfl, b1⟩
    have hb := hB.trans (b1.mono hB.size)
    have hQ1 := hQ.below hb
    have HO1 := Lib.hid (hO.below hb)
    have hK1 := hK0.below (by omega) b1
    have k2 := (b1.cell (p := ⟨W.heap.size, 2, none⟩) x0).trans c2
    have HB1 := Lib.hid (hb.mono (show Q ≤ W.heap.size by omega))
    have hs1 : B ≤ w1.heap.size := by have := b1.size; omega
    obtain ⟨a, ca, hs, _, _, _⟩ := hO.shape
    rw [hl] at hs
    subst hs
    have q0 := hQ1.cell
    have HQ1 := Lib.hid hQ1
    clear NL hQ hO hK hK0 hB hb b1 c0 c1 c2 hQ1
    go_wp2_with fail
    clear q0 k2
    go_loopw [6, 7, 18] (fun _ _ y wr => ∃ (i : Nat) (s : Value) (zs : List Int), i ≤ m ∧ y = .int .i64 i ∧ zs.length ≤ 1 ∧ Hid (wrongF (ks.drop i) i = R) ∧ Hid (Bx wr Q 37 s) ∧ Hid (Owns wr B 3 .i64 s (ys ++ zs)) ∧ Hid (Below Q W wr) ∧ B ≤ wr.heap.size ∧ Hid (Kids wr lim (.slice p m c) ks)) (fun _ _ y _ => m - (intOf y).toNat)
    case atStart => exact ⟨0, _, [], Nat.zero_le _, rfl, by simp, F0, HQ1, by simpa using HO1, HB1, hs1, Lib.hid hK1⟩
    case round =>
      clear HQ1 HO1 HB1 hs1 hK1 F0
      obtain ⟨i, s, zs, hi, rfl, hz, HR, HQ, HO, HB, hs, HK⟩ := hrel
      by_cases hlt : i < m
      · obtain ⟨b, o, v, rfl, hb, g0, g1, g2, hKi⟩ := HK.out.get hlt
        obtain ⟨a', m', c', rfl, _, _, _⟩ := hKi.shape
        have dd : decide ((i : Int) < (m : Int)) = true := decide_eq_true (by omega)
        obtain ⟨w3, hw3, m0, m1, m2, hB3, hs3⟩ := box3 wr (ks.k i) (ks.n i) (.slice a' m' c') 24
        have hQ3 := HQ.out.below hB3
        have q3 := hQ3.cell
        have hO3 := HO.out.below hB3
        have HK3 := Lib.hid (hKi.below (by omega) hB3)
        have HKA := Lib.hid (HK.out.below (by omega) hB3)
        have HB3 := Lib.hid (HB.out.trans (hB3.mono (by omega)))
        have WFi := WF.out i hlt
        have PCi := PC.out i hlt
        have IHi := Lib.hid (fun s ys w h1 h2 h3 h4 h5 => IH.out _ (show (ks.kids i).cnt < N by omega) (ks.kids i) (.slice a' m' c') (ks.k i) (ks.n i) lim Q B s ys w (Nat.le_refl _) (by omega) h1 h2 hlQ hQB h3 h4 h5 WFi.2.1 WFi.2.2)
        have hll : (ys ++ [(i : Int)]).length = 1 := by simp [hl]
        have HLL := Lib.hid hll
        have IL := Lib.hid (show (ys ++ [(i : Int)]).length + (ks.kids i).cnt ≤ 1048576 by rw [hll]; omega)
        have FSi := Lib.hid (fun p h => (FS.out i p hlt h).symm.trans HR.out)
        have FNi := Lib.hid (fun h => (FN.out i hlt h).symm.trans HR.out)
        have hBl : B ≤ wr.heap.size := hs
        clear hKi hll HR HK IH WFi PCi
        generalize wrongN (ks.k i) (ks.n i) (ks.kids i) = o' at *
        generalize ks.kids i = ki at *
        generalize ks.k i = X at *
        generalize ks.n i = Y at *
        rcases HO.out.kind with ⟨rfl, hnil⟩ | ⟨g, cg, rfl, hg1, hg2⟩
        · have h0 : ys = [] := (List.append_eq_nil_iff.1 hnil).1
          have HF := Lib.hid (show Owns w3 B 3 .i64 (.slice none 0 0) ys by rw [h0]; exact Owns.nil w3 B 3 .i64)
          have HG := Lib.hid (show (Value.slice none 0 0).ownBlock ≠ some wr.heap.size from fun h => by cases h)
          clear hnil h0 hO3
          subst hw3
          go_wp2_with (at_builtin; refine append_one_g (v := .slice none 0 0) Tryz.underlying37 info_i64 rfl _ _ rfl rfl HF.out (by show Value.slice (some ⟨wr.heap.size + 1, 0, none⟩) 1 1 = _; simp) (by simp; omega) (by omega) ?_; intro v' w4 hO4 hb4 hx4; obtain ⟨g4, c4, e4, hc4, _⟩ := (hO4.kind).resolve_left (fun h => by have h2 := congrArg List.length h.2; rw [HLL.out] at h2; simp at h2); rw [HLL.out] at e4; subst e4; have hQ4 : Bx w4 Q 37 _ := (hb4.block Q hQB).trans hQ3; have q4 := hQ4.cell; have qf := frozen_of_row w4 Q 0 _ _ hQ4; have H5 := Lib.hid (hQ4.set (.slice (some ⟨g4, 0, none⟩) 1 c4)); have HO5 := Lib.hid (hO4.setCell hQB (.slice (some ⟨g4, 0, none⟩) 1 c4)); have HB5 := Lib.hid ((HB3.out.trans (hb4.mono (by omega))).setCell (p := ⟨Q, 0, none⟩) (Nat.le_refl _) (.slice (some ⟨g4, 0, none⟩) 1 c4)); have bu := But.set w4 Q 0 (.slice (some ⟨g4, 0, none⟩) 1 c4); have hsz4 := hb4.size; have HK5 := Lib.hid (HK3.out.carry ((hb4.mono (show lim ≤ B by omega)).trans (bu.b lim hlQ (by omega)))); have HKA5 := Lib.hid (HKA.out.carry ((hb4.mono (show lim ≤ B by omega)).trans (bu.b lim hlQ (by omega)))); have n0 := bu.cell (X := wr.heap.size) (j := 0) (by omega) (by omega) ((World.cell?_of_block (hx4 wr.heap.size (by omega) HG.out)).trans m0); have n1 := bu.cell (X := wr.heap.size) (j := 1) (by omega) (by omega) ((World.cell?_of_block (hx4 wr.heap.size (by omega) HG.out)).trans m1); have n2 := bu.cell (X := wr.heap.size) (j := 2) (by omega) (by omega) ((World.cell?_of_block (hx4 wr.heap.size (by omega) HG.out)).trans m2); clear hO4 hQ4 bu hx4 hb4)
          refine (IHi.out _ _ _ IL.out HK5.out (by simp; omega) H5.out HO5.out).mono ?_
          rintro e w6 ⟨s6, rfl, hQ6, hO6, hB6⟩
          have HQ6 := Lib.hid hQ6
          have HO6 := Lib.hid hO6
          have HKA6 := Lib.hid (HKA5.out.carry (hB6.mono hlQ))
          have HB6 := Lib.hid (HB5.out.trans hB6)
          have hsz6 : B ≤ w6.heap.size := by have := hB6.size; simp at this; omega
          cases o' with
          | some q =>
            have HRS := Lib.hid (FSi.out q rfl).symm
            clear hQ6 hO6 hB6 n0 n1 n2 m0 m1 m2
            go_wp2_with fail
            go_ret
            exact ⟨s6, by rw [HRS.out]; rfl, HQ6.out, by rw [HRS.out]; simpa using HO6.out, HB6.out⟩
          | none =>
            have HRS := Lib.hid (FNi.out rfl)
            clear hQ6 hO6 hB6 n0 n1 n2 m0 m1 m2
            go_wp2_with fail
            go_roundw
            case rel => exact ⟨i + 1, s6, [(i : Int)], by omega, by go_num, by simp, HRS, HQ6, by simpa using HO6, HB6, hsz6, HKA6⟩
            case measure => (first | (simp [intOf]; done) | (simp [intOf]; omega) | (simp only [intOf]; omega))
        · have hgl := hg1
          rw [List.length_append, hl] at hgl
          have e1 : decide (0 ≤ cg) = true := decide_eq_true (by omega)
          have e2 : decide ((0 : Int) ≤ (cg : Int)) = true := decide_eq_true (by omega)
          have hf := hO3.front
          rw [hl] at hf
          have HF := Lib.hid hf
          have HG := Lib.hid (show (Value.slice (some ⟨g, 0, none⟩) 0 cg).ownBlock ≠ some wr.heap.size from fun h => by
            have h2 : g = wr.heap.size := by simpa [Value.ownBlock] using h
            have h3 : g < wr.heap.size := (World.ownsRow.lt HO.out g rfl).2
            exact absurd h2 (Nat.ne_of_lt h3))
          clear hO3 hf
          subst hw3
          go_wp2_with (at_builtin; refine append_one_g (v := .slice (some ⟨g, 0, none⟩) 0 cg) Tryz.underlying37 info_i64 rfl _ _ rfl rfl HF.out (by show Value.slice (some ⟨wr.heap.size + 1, 0, none⟩) 1 1 = _; simp) (by simp; omega) (by omega) ?_; intro v' w4 hO4 hb4 hx4; obtain ⟨g4, c4, e4, hc4, _⟩ := (hO4.kind).resolve_left (fun h => by have h2 := congrArg List.length h.2; rw [HLL.out] at h2; simp at h2); rw [HLL.out] at e4; subst e4; have hQ4 : Bx w4 Q 37 _ := (hb4.block Q hQB).trans hQ3; have q4 := hQ4.cell; have qf := frozen_of_row w4 Q 0 _ _ hQ4; have H5 := Lib.hid (hQ4.set (.slice (some ⟨g4, 0, none⟩) 1 c4)); have HO5 := Lib.hid (hO4.setCell hQB (.slice (some ⟨g4, 0, none⟩) 1 c4)); have HB5 := Lib.hid ((HB3.out.trans (hb4.mono (by omega))).setCell (p := ⟨Q, 0, none⟩) (Nat.le_refl _) (.slice (some ⟨g4, 0, none⟩) 1 c4)); have bu := But.set w4 Q 0 (.slice (some ⟨g4, 0, none⟩) 1 c4); have hsz4 := hb4.size; have HK5 := Lib.hid (HK3.out.carry ((hb4.mono (show lim ≤ B by omega)).trans (bu.b lim hlQ (by omega)))); have HKA5 := Lib.hid (HKA.out.carry ((hb4.mono (show lim ≤ B by omega)).trans (bu.b lim hlQ (by omega)))); have n0 := bu.cell (X := wr.heap.size) (j := 0) (by omega) (by omega) ((World.cell?_of_block (hx4 wr.heap.size (by omega) HG.out)).trans m0); have n1 := bu.cell (X := wr.heap.size) (j := 1) (by omega) (by omega) ((World.cell?_of_block (hx4 wr.heap.size (by omega) HG.out)).trans m1); have n2 := bu.cell (X := wr.heap.size) (j := 2) (by omega) (by omega) ((World.cell?_of_block (hx4 wr.heap.size (by omega) HG.out)).trans m2); clear hO4 hQ4 bu hx4 hb4)
          refine (IHi.out _ _ _ IL.out HK5.out (by simp; omega) H5.out HO5.out).mono ?_
          rintro e w6 ⟨s6, rfl, hQ6, hO6, hB6⟩
          have HQ6 := Lib.hid hQ6
          have HO6 := Lib.hid hO6
          have HKA6 := Lib.hid (HKA5.out.carry (hB6.mono hlQ))
          have HB6 := Lib.hid (HB5.out.trans hB6)
          have hsz6 : B ≤ w6.heap.size := by have := hB6.size; simp at this; omega
          cases o' with
          | some q =>
            have HRS := Lib.hid (FSi.out q rfl).symm
            clear hQ6 hO6 hB6 n0 n1 n2 m0 m1 m2
            go_wp2_with fail
            go_ret
            exact ⟨s6, by rw [HRS.out]; rfl, HQ6.out, by rw [HRS.out]; simpa using HO6.out, HB6.out⟩
          | none =>
            have HRS := Lib.hid (FNi.out rfl)
            clear hQ6 hO6 hB6 n0 n1 n2 m0 m1 m2
            go_wp2_with fail
            go_roundw
            case rel => exact ⟨i + 1, s6, [(i : Int)], by omega, by go_num, by simp, HRS, HQ6, by simpa using HO6, HB6, hsz6, HKA6⟩
            case measure => (first | (simp [intOf]; done) | (simp [intOf]; omega) | (simp only [intOf]; omega))
      · obtain rfl : i = m := by omega
        have dd : decide ((i : Int) < (i : Int)) = false := decide_eq_false (by omega)
        have q0 := HQ.out.cell
        have qf := frozen_of_row wr Q 0 _ _ HQ.out
        have HRN := Lib.hid (show R = none from HR.out.symm.trans FE.out)
        rcases HO.out.kind with ⟨rfl, hnil⟩ | ⟨g, cg, rfl, hg1, hg2⟩
        · have h0 : ys = [] := (List.append_eq_nil_iff.1 hnil).1
          subst h0
          have HX := Lib.hid (HQ.out.set (.slice none 0 0))
          have HY := Lib.hid ((Owns.nil wr B 3 .i64).setCell hQB (.slice none 0 0))
          have HZ := Lib.hid (HB.out.setCell (p := ⟨Q, 0, none⟩) (Nat.le_refl _) (.slice none 0 0))
          clear hnil
          go_wp2_with fail
          go_ret
          exact ⟨_, by rw [HRN.out]; rfl, HX.out, by rw [HRN.out]; exact HY.out, HZ.out⟩
        · have hgl := hg1
          rw [List.length_append, hl] at hgl
          have e1 : decide (0 ≤ cg) = true := decide_eq_true (by omega)
          have e2 : decide ((0 : Int) ≤ (cg : Int)) = true := decide_eq_true (by omega)
          have hf := HO.out.front
          rw [hl] at hf
          have HX := Lib.hid (HQ.out.set (.slice (some ⟨g, 0, none⟩) 0 cg))
          have HY := Lib.hid (hf.setCell hQB (.slice (some ⟨g, 0, none⟩) 0 cg))
          have HZ := Lib.hid (HB.out.setCell (p := ⟨Q, 0, none⟩) (Nat.le_refl _) (.slice (some ⟨g, 0, none⟩) 0 cg))
          clear hf
          go_wp2_with fail
          go_ret
          exact ⟨_, by rw [HRN.out]; rfl, HX.out, by rw [HRN.out]; simpa using HY.out, HZ.out⟩
  · go_enter Tryz.func134, Tryz.ntmps134
    go_wp2_with fail
    rw [← hw0]
    clear hw0
    refine NL.out.mono ?_
    rintro e w1 ⟨rfl, b1⟩
    have hb := hB.trans (b1.mono hB.size)
    have hQ1 := hQ.below hb
    have HO1 := Lib.hid (hO.below hb)
    have hK1 := hK0.below (by omega) b1
    have k2 := (b1.cell (p := ⟨W.heap.size, 2, none⟩) x0).trans c2
    have HB1 := Lib.hid (hb.mono (show Q ≤ W.heap.size by omega))
    have hs1 : B ≤ w1.heap.size := by have := b1.size; omega
    obtain ⟨a, ca, hs, _, _, _⟩ := hO.shape
    rw [hl] at hs
    subst hs
    have q0 := hQ1.cell
    have HQ1 := Lib.hid hQ1
    clear NL hQ hO hK hK0 hB hb b1 c0 c1 c2 hQ1
    go_wp2_with fail
    clear q0 k2
    go_loopw [6, 7, 18] (fun _ _ y wr => ∃ (i : Nat) (s : Value) (zs : List Int), i ≤ m ∧ y = .int .i64 i ∧ zs.length ≤ 1 ∧ Hid (wrongF (ks.drop i) i = R) ∧ Hid (Bx wr Q 37 s) ∧ Hid (Owns wr B 3 .i64 s (ys ++ zs)) ∧ Hid (Below Q W wr) ∧ B ≤ wr.heap.size ∧ Hid (Kids wr lim (.slice p m c) ks)) (fun _ _ y _ => m - (intOf y).toNat)
    case atStart => exact ⟨0, _, [], Nat.zero_le _, rfl, by simp, F0, HQ1, by simpa using HO1, HB1, hs1, Lib.hid hK1⟩
    case round =>
      clear HQ1 HO1 HB1 hs1 hK1 F0
      obtain ⟨i, s, zs, hi, rfl, hz, HR, HQ, HO, HB, hs, HK⟩ := hrel
      by_cases hlt : i < m
      · obtain ⟨b, o, v, rfl, hb, g0, g1, g2, hKi⟩ := HK.out.get hlt
        obtain ⟨a', m', c', rfl, _, _, _⟩ := hKi.shape
        have dd : decide ((i : Int) < (m : Int)) = true := decide_eq_true (by omega)
        obtain ⟨w3, hw3, m0, m1, m2, hB3, hs3⟩ := box3 wr (ks.k i) (ks.n i) (.slice a' m' c') 24
        have hQ3 := HQ.out.below hB3
        have q3 := hQ3.cell
        have hO3 := HO.out.below hB3
        have HK3 := Lib.hid (hKi.below (by omega) hB3)
        have HKA := Lib.hid (HK.out.below (by omega) hB3)
        have HB3 := Lib.hid (HB.out.trans (hB3.mono (by omega)))
        have WFi := WF.out i hlt
        have PCi := PC.out i hlt
        have IHi := Lib.hid (fun s ys w h1 h2 h3 h4 h5 => IH.out _ (show (ks.kids i).cnt < N by omega) (ks.kids i) (.slice a' m' c') (ks.k i) (ks.n i) lim Q B s ys w (Nat.le_refl _) (by omega) h1 h2 hlQ hQB h3 h4 h5 WFi.2.1 WFi.2.2)
        have hll : (ys ++ [(i : Int)]).length = l + 1 := by simp [hl]
        have HLL := Lib.hid hll
        have IL := Lib.hid (show (ys ++ [(i : Int)]).length + (ks.kids i).cnt ≤ 1048576 by rw [hll]; omega)
        have FSi := Lib.hid (fun p h => (FS.out i p hlt h).symm.trans HR.out)
        have FNi := Lib.hid (fun h => (FN.out i hlt h).symm.trans HR.out)
        have hBl : B ≤ wr.heap.size := hs
        clear hKi hll HR HK IH WFi PCi
        generalize wrongN (ks.k i) (ks.n i) (ks.kids i) = o' at *
        generalize ks.kids i = ki at *
        generalize ks.k i = X at *
        generalize ks.n i = Y at *
        rcases HO.out.kind with ⟨rfl, hnil⟩ | ⟨g, cg, rfl, hg1, hg2⟩
        · have h0 : ys = [] := (List.append_eq_nil_iff.1 hnil).1
          rw [h0] at hl
          simp at hl
          omega
        · have hgl := hg1
          rw [List.length_append, hl] at hgl
          have e1 : decide (l ≤ cg) = true := decide_eq_true (by omega)
          have e2 : decide ((l : Int) ≤ (cg : Int)) = true := decide_eq_true (by omega)
          have hf := hO3.front
          rw [hl] at hf
          have HF := Lib.hid hf
          have HG := Lib.hid (show (Value.slice (some ⟨g, 0, none⟩) l cg).ownBlock ≠ some wr.heap.size from fun h => by
            have h2 : g = wr.heap.size := by simpa [Value.ownBlock] using h
            have h3 : g < wr.heap.size := (World.ownsRow.lt HO.out g rfl).2
            exact absurd h2 (Nat.ne_of_lt h3))
          clear hO3 hf
          subst hw3
          go_wp2_with (at_builtin; refine append_one_g (v := .slice (some ⟨g, 0, none⟩) l cg) Tryz.underlying37 info_i64 rfl _ _ rfl rfl HF.out (by show Value.slice (some ⟨wr.heap.size + 1, 0, none⟩) 1 1 = _; simp) (by simp; omega) (by omega) ?_; intro v' w4 hO4 hb4 hx4; obtain ⟨g4, c4, e4, hc4, _⟩ := (hO4.kind).resolve_left (fun h => by have h2 := congrArg List.length h.2; rw [HLL.out] at h2; simp at h2); rw [HLL.out] at e4; subst e4; have hQ4 : Bx w4 Q 37 _ := (hb4.block Q hQB).trans hQ3; have q4 := hQ4.cell; have qf := frozen_of_row w4 Q 0 _ _ hQ4; have H5 := Lib.hid (hQ4.set (.slice (some ⟨g4, 0, none⟩) (l + 1) c4)); have HO5 := Lib.hid (hO4.setCell hQB (.slice (some ⟨g4, 0, none⟩) (l + 1) c4)); have HB5 := Lib.hid ((HB3.out.trans (hb4.mono (by omega))).setCell (p := ⟨Q, 0, none⟩) (Nat.le_refl _) (.slice (some ⟨g4, 0, none⟩) (l + 1) c4)); have bu := But.set w4 Q 0 (.slice (some ⟨g4, 0, none⟩) (l + 1) c4); have hsz4 := hb4.size; have HK5 := Lib.hid (HK3.out.carry ((hb4.mono (show lim ≤ B by omega)).trans (bu.b lim hlQ (by omega)))); have HKA5 := Lib.hid (HKA.out.carry ((hb4.mono (show lim ≤ B by omega)).trans (bu.b lim hlQ (by omega)))); have n0 := bu.cell (X := wr.heap.size) (j := 0) (by omega) (by omega) ((World.cell?_of_block (hx4 wr.heap.size (by omega) HG.out)).trans m0); have n1 := bu.cell (X := wr.heap.size) (j := 1) (by omega) (by omega) ((World.cell?_of_block (hx4 wr.heap.size (by omega) HG.out)).trans m1); have n2 := bu.cell (X := wr.heap.size) (j := 2) (by omega) (by omega) ((World.cell?_of_block (hx4 wr.heap.size (by omega) HG.out)).trans m2); clear hO4 hQ4 bu hx4 hb4)
          refine (IHi.out _ _ _ IL.out HK5.out (by simp; omega) H5.out HO5.out).mono ?_
          rintro e w6 ⟨s6, rfl, hQ6, hO6, hB6⟩
          have HQ6 := Lib.hid hQ6
          have HO6 := Lib.hid hO6
          have HKA6 := Lib.hid (HKA5.out.carry (hB6.mono hlQ))
          have HB6 := Lib.hid (HB5.out.trans hB6)
          have hsz6 : B ≤ w6.heap.size := by have := hB6.size; simp at this; omega
          cases o' with
          | some q =>
            have HRS := Lib.hid (FSi.out q rfl).symm
            clear hQ6 hO6 hB6 n0 n1 n2 m0 m1 m2
            go_wp2_with fail
            go_ret
            exact ⟨s6, by rw [HRS.out]; rfl, HQ6.out, by rw [HRS.out]; simpa using HO6.out, HB6.out⟩
          | none =>
            have HRS := Lib.hid (FNi.out rfl)
            clear hQ6 hO6 hB6 n0 n1 n2 m0 m1 m2
            go_wp2_with fail
            go_roundw
            case rel => exact ⟨i + 1, s6, [(i : Int)], by omega, by go_num, by simp, HRS, HQ6, by simpa using HO6, HB6, hsz6, HKA6⟩
            case measure => (first | (simp [intOf]; done) | (simp [intOf]; omega) | (simp only [intOf]; omega))
      · obtain rfl : i = m := by omega
        have dd : decide ((i : Int) < (i : Int)) = false := decide_eq_false (by omega)
        have q0 := HQ.out.cell
        have qf := frozen_of_row wr Q 0 _ _ HQ.out
        have HRN := Lib.hid (show R = none from HR.out.symm.trans FE.out)
        rcases HO.out.kind with ⟨rfl, hnil⟩ | ⟨g, cg, rfl, hg1, hg2⟩
        · have h0 : ys = [] := (List.append_eq_nil_iff.1 hnil).1
          rw [h0] at hl
          simp at hl
          omega
        · have hgl := hg1
          rw [List.length_append, hl] at hgl
          have e1 : decide (l ≤ cg) = true := decide_eq_true (by omega)
          have e2 : decide ((l : Int) ≤ (cg : Int)) = true := decide_eq_true (by omega)
          have hf := HO.out.front
          rw [hl] at hf
          have HX := Lib.hid (HQ.out.set (.slice (some ⟨g, 0, none⟩) l cg))
          have HY := Lib.hid (hf.setCell hQB (.slice (some ⟨g, 0, none⟩) l cg))
          have HZ := Lib.hid (HB.out.setCell (p := ⟨Q, 0, none⟩) (Nat.le_refl _) (.slice (some ⟨g, 0, none⟩) l cg))
          clear hf
          go_wp2_with fail
          go_ret
          exact ⟨_, by rw [HRN.out]; rfl, HX.out, by rw [HRN.out]; simpa using HY.out, HZ.out⟩
end Go.Proofs.YtbhnlfgccldmaaaGreat
/- Rows of ints: as they are read, and written in place. -/
namespace Go.Proofs.YtbhnlfgccldmaaaGreat
open Go.ChangeShapes Go.WideShapes Go.ChangeAt Go.RowKit
set_option linter.unusedVariables false
/-- What a slice of ints is: what it reads as, that each is in order, how many. -/
structure RowI (w : World) (a : Option Addr) (n : Nat) (xs : List Int) : Prop where
  len : xs.length = n
  reads : Reads .i64 w a xs
  wf : ∀ x ∈ xs, (Lit.int .i64 x).wf = true
  small : n ≤ 17592186044415
theorem readsI_below {k : IntKind} {w w' : World} {a : Option Addr} {xs : List Int} (h : Reads k w a xs) (hb : Below w.heap.size w w') : Reads k w' a xs := by
  rcases h with h | ⟨b, off, rfl, hlt, hc⟩
  · exact .inl h
  · exact .inr ⟨b, off, rfl, by have := hb.size; omega, fun i hi => by rw [hb.cell (p := ⟨b, off + i, none⟩) hlt]; exact hc i hi⟩
theorem RowI.below {w w' : World} {a : Option Addr} {n : Nat} {xs : List Int} (h : RowI w a n xs) (hb : Below w.heap.size w w') : RowI w' a n xs := ⟨h.len, readsI_below h.reads hb, h.wf, h.small⟩
theorem RowI.alloc {w : World} {a : Option Addr} {n : Nat} {xs : List Int} (h : RowI w a n xs) (o : Obj) : RowI (w.alloc o) a n xs := h.below ((Below.refl _ _).alloc (Nat.le_refl _) o)
theorem RowI.bd {w : World} {a : Option Addr} {n : Nat} {xs : List Int} (h : RowI w a n xs) {k : Nat} (hk : k < n) : -9223372036854775808 ≤ xs.getD k 0 ∧ xs.getD k 0 ≤ 9223372036854775807 := by
  have hl := h.len
  have e : xs.getD k 0 = xs[k]'(by omega) := by simp [List.getD, show k < xs.length by omega]
  rw [e]; exact bounds_i64 (h.wf _ (List.getElem_mem _))
theorem RowI.cell {w : World} {a : Option Addr} {n : Nat} {xs : List Int} (h : RowI w a n xs) {k : Nat} (hk : k < n) : ∃ b off, a = some ⟨b, off, none⟩ ∧ b < w.heap.size ∧ w.cell? ⟨b, off + k, none⟩ = some (.int .i64 (xs.getD k 0)) ∧ -9223372036854775808 ≤ xs.getD k 0 ∧ xs.getD k 0 ≤ 9223372036854775807 := by
  rcases h.reads with hn | ⟨b, off, e, hb, hc⟩
  · have := h.len; rw [hn] at this; simp at this; omega
  · exact ⟨b, off, e, hb, hc k (by rw [h.len]; exact hk), h.bd hk⟩
theorem RowI.of_isRow {w : World} {a : Option Addr} {n c : Nat} (h : IsRow .i64 w a n c) (hs : n ≤ 17592186044415) : ∃ xs, RowI w a n xs := by
  obtain ⟨xs, hn, _, _, hr, hw⟩ := h
  exact ⟨xs, hn, hr, hw, hs⟩
theorem RowI.of_at {w : World} {B : Nat} {ys : List Int} {T : TypeId} (h : RowAtI w B T ys) (hw : ∀ x ∈ ys, (Lit.int .i64 x).wf = true) {n : Nat} (hn : ys.length = n) (hs : n ≤ 17592186044415) : RowI w (some ⟨B, 0, none⟩) n ys := ⟨hn, h.reads, hw, hs⟩
/-- The answer is a slice of n ints that reads as ys; nothing that was there has turned. -/
def GivesI (w : World) (n : Nat) (ys : List Int) (e : Ending) (w' : World) : Prop := ∃ a c, e = .returned (.slice a n c) ∧ RowI w' a n ys ∧ Below w.heap.size w w'
def GivesIOk (w : World) (n : Nat) (ys : List Int) (e : Ending) (w' : World) : Prop := ∃ a c, e = .returned (.tuple #[.slice a n c, .int .i64 0]) ∧ RowI w' a n ys ∧ Below w.heap.size w w'
/-- One place written. -/
theorem RowAtI.set {w : World} {B : Nat} {T : TypeId} {ys : List Int} (h : RowAtI w B T ys) (k : Nat) (y : Int) : RowAtI (w.setCell ⟨B, k, none⟩ (.int .i64 y)) B T (ys.set k y) := by
  unfold RowAtI
  rw [heap_setCell_same w B k _ T _ h]
  congr 2
  rw [List.setIfInBounds_toArray]
  congr 1
  rw [List.map_set]
theorem RowAtI.other {w : World} {B : Nat} {T : TypeId} {ys : List Int} (h : RowAtI w B T ys) {p : Addr} (hp : p.block ≠ B) (v : Value) : RowAtI (w.setCell p v) B T ys := by
  unfold RowAtI at *
  rw [← h]
  exact heap_setCell_other w p B v (fun e => hp e.symm)
theorem RowAtI.cell {w : World} {B : Nat} {T : TypeId} {ys : List Int} (h : RowAtI w B T ys) {k : Nat} (hk : k < ys.length) : w.cell? ⟨B, k, none⟩ = some (.int .i64 (ys.getD k 0)) := by
  rw [cell_of_row w B k _ _ _ h]
  simp [List.getD, hk]
theorem RowAtI.free {w : World} {B : Nat} {T : TypeId} {ys : List Int} (h : RowAtI w B T ys) (j : Nat) : w.frozen? ⟨B, j, none⟩ = false := frozen_of_row w B j _ _ h
theorem RowAtI.made (w : World) (T : TypeId) (n : Nat) : RowAtI (w.alloc (.cells (Array.replicate n (.int .i64 0)) T)) w.heap.size T (List.replicate n 0) := by
  unfold RowAtI; rw [heap_alloc_new]; simp
theorem RowAtI.drewN {w : World} {B : Nat} {T : TypeId} {ys : List Int} (h : RowAtI w B T ys) (q : Nat) : RowAtI (w.drewN q) B T ys := h
theorem RowAtI.drew {w : World} {B : Nat} {T : TypeId} {ys : List Int} (h : RowAtI w B T ys) : RowAtI w.drew B T ys := h
/-- A function's values, one by one. -/
def tab (n : Nat) (f : Nat → Int) : List Int := (List.range n).map f
theorem tab_len (n : Nat) (f : Nat → Int) : (tab n f).length = n := by unfold tab; simp
theorem tab_at (n : Nat) (f : Nat → Int) (k : Nat) (h : k < n) : (tab n f).getD k 0 = f k := by unfold tab; simp [List.getD, h]
theorem tab_set (n : Nat) (f g : Nat → Int) (k : Nat) (y : Int) (h : ∀ j, j < n → g j = if j = k then y else f j) : (tab n f).set k y = tab n g := by
  unfold tab
  apply List.ext_getElem
  · simp
  · intro i h1 h2
    have hi : i < n := by simpa using h2
    rw [List.getElem_set]
    simp only [List.getElem_map, List.getElem_range, h i hi]
    by_cases e : k = i
    · subst e; simp
    · rw [if_neg e, if_neg (fun x => e x.symm)]
theorem tab_rep (n : Nat) (v : Int) : List.replicate n v = tab n (fun _ => v) := by
  unfold tab
  apply List.ext_getElem
  · simp
  · intro i h1 h2; simp
end Go.Proofs.YtbhnlfgccldmaaaGreat
/- The reference's Same of ints: are two rows one? -/
namespace Go.Proofs.YtbhnlfgccldmaaaGreat
open Go.ChangeShapes Go.WideShapes Go.ChangeAt Go.RowKit
set_option linter.unusedVariables false
end Go.Proofs.YtbhnlfgccldmaaaGreat
/- 'append(l, m...)' onto a row of the call's own. -/
namespace Go.Proofs.YtbhnlfgccldmaaaGreat
open Go.ChangeShapes Go.WideShapes Go.ChangeAt Go.RowKit
set_option linter.unusedVariables false
theorem getD_ext {xs ys : List Int} (hl : xs.length = ys.length) (h : ∀ i, i < xs.length → xs.getD i 0 = ys.getD i 0) : xs = ys := by
  apply List.ext_getElem hl
  intro i h1 h2
  have := h i h1
  simpa [List.getD, h1, h2] using this
theorem turn_split (xs : List Int) (t : Nat) (h : t < xs.length) : redl (xs.drop t) ++ redl (xs.take t) = turnl xs t := by
  apply getD_ext
  · rw [List.length_append, redl_len, redl_len, turnl_len, List.length_drop, List.length_take]; omega
  · intro i hi
    rw [List.length_append, redl_len, redl_len, List.length_drop, List.length_take] at hi
    rw [turnl_at xs t i (by omega)]
    by_cases h1 : i < xs.length - t
    · have e : (i + t) % xs.length = t + i := by rw [Nat.mod_eq_of_lt (by omega)]; omega
      have l1 : i < (redl (xs.drop t)).length := by rw [redl_len, List.length_drop]; exact h1
      rw [e, List.getD_eq_getElem?_getD, List.getElem?_append_left l1, ← List.getD_eq_getElem?_getD, redl_at _ i (by rw [List.length_drop]; exact h1)]
      congr 1
      simp [List.getD]
    · have e : (i + t) % xs.length = i - (xs.length - t) := by
        rw [show i + t = (i - (xs.length - t)) + xs.length by omega, Nat.add_mod_right, Nat.mod_eq_of_lt (by omega)]
      have l1 : (redl (xs.drop t)).length = xs.length - t := by rw [redl_len, List.length_drop]
      have hlt : i - (xs.length - t) < t := by omega
      rw [e, List.getD_eq_getElem?_getD, List.getElem?_append_right (by omega), ← List.getD_eq_getElem?_getD, l1, redl_at _ _ (by rw [List.length_take]; omega)]
      congr 1
      simp [List.getD, hlt]
end Go.Proofs.YtbhnlfgccldmaaaGreat
