/- Put together by program (merge2.py): Wok Entr. -/
import Derived.RangeFuncWrites
import Derived.TacticsInMore
import Derived.OwnWalkIn
import Derived.BigRegion
import Derived.Deep.DeepCutAuto
import Derived.Test.YtafmiilkdhdngaaGreatDoorR21
import Derived.Test.YtafmiilkdhdngaaGreatDoorR29
/- 'append(l, x)' of one entry onto a row of the call's own, whose kids lie in later memory: in a plain list of operations, and in a round of a range over a function. -/
namespace Go.Proofs.YtafmiilkdhdngaaGreatDoor
open Go.ChangeShapes Go.WideShapes Go.ChangeAt Go.RowKit
set_option linter.unusedVariables false
set_option linter.unusedSimpArgs false
theorem run_append_k {W : World} {F G Y : Nat} {v : Value} {l : List En} {e : En} {u : Value} {T : TypeId} (rt : TypeId) (hown : OwnK W F v l)
    (hY : W.heap[Y]? = some (.cells #[.int .i64 e.a, .int .i64 e.b, .int .i64 e.k, .int .i64 e.n, u] T (0, 0))) (hk : KidsF G W u e.ks) (hG : F ≤ G ∧ ∀ i, v.ownBlock = some i → i < G)
    (hB : F ≤ W.heap.size) (hlen : l.length ≤ 1000000) :
    ∃ v' w', (Builtin.append_ #[22, 22] rt #[v, .slice (some ⟨Y, 0, none⟩) 1 1]).run Tryz.prog W = .ok v' w' ∧ OwnK w' F v' (l ++ [e]) ∧ W.grownBy w' v.ownBlock := by
  obtain ⟨i0, hi⟩ : ∃ i, Tryz.prog.info? 44 = some i := by
    cases h0 : Tryz.prog.info? 44 with
    | none => have := info_ent; rw [h0] at this; cases this
    | some i => exact ⟨i, rfl⟩
  have h1 := info_ent
  rw [hi] at h1
  simp only [Option.map_some, Option.some.injEq, Prod.mk.injEq] at h1
  obtain ⟨hz, hsz, hby⟩ := h1
  obtain ⟨z, hz1, hz2⟩ : ∃ z, i0.zero = some z ∧ z.cells.size = 5 := by
    cases h0 : i0.zero with
    | none => rw [h0] at hz; cases hz
    | some z => rw [h0] at hz; simp at hz; exact ⟨z, rfl, hz⟩
  have hn : ECellsS W (offE F W v) [.int .i64 e.a, .int .i64 e.b, .int .i64 e.k, .int .i64 e.n, u] [e] :=
    ⟨u, [], rfl, KidsS.carry hk (fun b hb => ⟨⟨Nat.le_trans hG.1 hb.1, hb.2, fun e2 => by have := hG.2 b e2; have := hb.1; omega⟩, rfl⟩), rfl⟩
  obtain ⟨xs, ho1, ho2⟩ := hown
  obtain ⟨g, cap, w', hr, h2, h3, h4, h5⟩ := run_append_lies (P := Tryz.prog) W 22 rt F 44 i0 z 5 56 Tryz.underlying22 hi hz1 hsz hby hz2 (by decide) v l.length xs ho1 ⟨Y, 0, none⟩ 1 1 [.int .i64 e.a, .int .i64 e.b, .int .i64 e.k, .int .i64 e.n, u] rfl (fun j u' hj => World.news_of_block hY j u' (by simpa using hj)) hn.one (by decide) (by unfold maxLen; omega) (by omega) hB _ rfl
  refine ⟨_, w', hr, ⟨_, by rw [List.length_append, List.length_singleton]; exact h2, (ho2.append hn).carry (fun b ⟨hb0, hb1, hb2⟩ => ⟨⟨hb0, Nat.lt_of_lt_of_le hb1 h3.size, fun e2 => ?_⟩, h3.block b hb1 (fun e2 => hb2 e2.symm)⟩)⟩, h3⟩
  have e' : g = b := by simpa [Value.ownBlock] using e2
  subst e'
  rcases h4 with h4 | h4
  · exact hb2 h4
  · omega
/-- The entry just laid as a row of one. -/
theorem run_append_k1 {W : World} {F G : Nat} {v : Value} {l : List En} {e : En} {u : Value} (rt : TypeId) (hown : OwnK W F v l) (hk : KidsF G W u e.ks) (hG : F ≤ G ∧ ∀ i, v.ownBlock = some i → i < G) (hB : F ≤ W.heap.size) (hlen : l.length ≤ 1000000) :
    ∃ v' w', (Builtin.append_ #[22, 22] rt #[v, .slice (some ⟨W.heap.size, 0, none⟩) 1 1]).run Tryz.prog (W.alloc (.cells #[.int .i64 e.a, .int .i64 e.b, .int .i64 e.k, .int .i64 e.n, u] 44)) = .ok v' w' ∧ OwnK w' F v' (l ++ [e]) ∧ W.grownBy w' v.ownBlock := by
  have hb : Below W.heap.size W (W.alloc (.cells #[.int .i64 e.a, .int .i64 e.b, .int .i64 e.k, .int .i64 e.n, u] 44)) := (Below.refl _ _).alloc (Nat.le_refl _) _
  obtain ⟨v', w', h1, h2, h3⟩ := run_append_k rt (hown.below hb) (heap_alloc_new W _) (hk.below hb) hG (by simp; omega) hlen
  exact ⟨v', w', h1, h2, (World.grownBy_alloc W _ _).trans h3⟩
theorem append_k1 {ops : Array Oper} {rest : List Oper} {o : Oper} {a : Act} {Q : Exit → Act → World → Prop} {W : World} {F G : Nat} {v : Value} {l : List En} {e : En} {u : Value} (hgd : o.guard = none) (s x : Operand)
    (ho : o.op = .call { callee := .builtin .append, args := #[s, x], argTypes := #[22, 22] }) (hs : a.eval s = v) (hown : OwnK W F v l) (hx : a.eval x = .slice (some ⟨W.heap.size, 0, none⟩) 1 1)
    (hk : KidsF G W u e.ks) (hG : F ≤ G ∧ ∀ i, v.ownBlock = some i → i < G) (hB : F ≤ W.heap.size) (hlen : l.length ≤ 1000000)
    (h : ∀ v' w', OwnK w' F v' (l ++ [e]) → W.grownBy w' v.ownBlock → wpList Tryz.prog ops Q rest (a.put o.dst v') w') : wpList Tryz.prog ops Q (o :: rest) a (W.alloc (.cells #[.int .i64 e.a, .int .i64 e.b, .int .i64 e.k, .int .i64 e.n, u] 44)) := by
  refine wpList_plain hgd fun K hK => ?_
  obtain ⟨v', w', h1, h2, h3⟩ := run_append_k1 o.type hown hk hG hB hlen
  unfold Oper.wp execOp
  simp only [ho, resolve, invoke, builtin, Sem.run_bind, Sem.run_pure, Result.andThen_ok, List.map_toArray, List.map_cons, List.map_nil, hs, hx, h1]
  exact hK _ _ (h v' w' h2 h3)
theorem append_k1in {Fe : Fence} {n : Nat} {ops : Array Oper} {rest : List Oper} {o : Oper} {a : Act} {Q : Exit → Act → World → Prop} {W : World} {F G : Nat} {v : Value} {l : List En} {e : En} {u : Value} (hgd : o.guard = none) (s x : Operand)
    (ho : o.op = .call { callee := .builtin .append, args := #[s, x], argTypes := #[22, 22] }) (hs : a.eval s = v) (hown : OwnK W F v l) (hx : a.eval x = .slice (some ⟨W.heap.size, 0, none⟩) 1 1)
    (hk : KidsF G W u e.ks) (hG : F ≤ G ∧ ∀ i, v.ownBlock = some i → i < G) (hB : F ≤ W.heap.size) (hlen : l.length ≤ 1000000)
    (h : ∀ v' w', OwnK w' F v' (l ++ [e]) → W.grownBy w' v.ownBlock → wpListIn Fe n Tryz.prog ops Q rest (a.put o.dst v') w') : wpListIn Fe n Tryz.prog ops Q (o :: rest) a (W.alloc (.cells #[.int .i64 e.a, .int .i64 e.b, .int .i64 e.k, .int .i64 e.n, u] 44)) := by
  refine wpListIn_plain hgd fun K hK => ?_
  obtain ⟨v', w', h1, h2, h3⟩ := run_append_k1 o.type hown hk hG hB hlen
  unfold Oper.wpIn
  refine ⟨?_, ?_⟩
  · simp [Oper.about, ho, resolve, Target.leads, Sem.run_pure]
  · rw [Oper.semAt_plain Fe _ _ (by rw [ho]; intro c hc'; cases hc')]
    simp [execOp, ho, resolve, invoke, builtin, hs, hx, h1, Result.andThen]
    exact hK _ _ (h v' w' h2 h3)
end Go.Proofs.YtafmiilkdhdngaaGreatDoor
/- entry.Parse. -/
namespace Go.Proofs.YtafmiilkdhdngaaGreatDoor
open Go.ChangeShapes Go.WideShapes Go.ChangeAt Go.RowKit
set_option linter.unusedVariables false
set_option linter.unusedSimpArgs false
theorem hm_belowd {w w' : World} (h : ∃ m, w.cell? ⟨0, 0, none⟩ = some (.int .i64 m)) (hb : Below w.heap.size w w') : ∃ m, w'.cell? ⟨0, 0, none⟩ = some (.int .i64 m) := by
  obtain ⟨m, hm⟩ := h
  exact ⟨m, (hb.cell (p := ⟨0, 0, none⟩) (block_lt_of_cell hm)).trans hm⟩
theorem enc_three {w : World} {B : Nat} {E : TypeId} {v : Value} {l : List (List UInt8)} (ho : w.ownsRow B E 1 v l.length (encS l)) {p q r : List UInt8} (hl : l = [p, q, r]) : ∃ g c, v = .slice (some ⟨g, 0, none⟩) 3 c ∧ g < w.heap.size ∧
    w.cell? ⟨g, 0, none⟩ = some (.string (baL p)) ∧ w.cell? ⟨g, 1, none⟩ = some (.string (baL q)) ∧ w.cell? ⟨g, 2, none⟩ = some (.string (baL r)) := by
  subst hl
  obtain ⟨g, c, rfl, h0⟩ := str_cell ho (j := 0) rfl
  obtain ⟨g1, c1, e1, h1⟩ := str_cell ho (j := 1) rfl
  obtain ⟨g2, c2, e2, h2⟩ := str_cell ho (j := 2) rfl
  simp only [Value.slice.injEq, Option.some.injEq, Addr.mk.injEq, and_true, true_and] at e1 e2
  obtain ⟨rfl, -⟩ := e1
  obtain ⟨rfl, -⟩ := e2
  exact ⟨g, c, rfl, block_lt_of_cell h0, h0, h1, h2⟩
theorem not_three {l : List (List UInt8)} (h : l.length ≠ 3) : ∀ p q r, l ≠ [p, q, r] := fun p q r e => h (by rw [e]; rfl)
theorem is_three {l : List (List UInt8)} (h : l.length = 3) : ∃ p q r, l = [p, q, r] := by
  match l, h with
  | [p, q, r], _ => exact ⟨p, q, r, rfl⟩
set_option maxRecDepth 100000 in
set_option maxHeartbeats 16000000 in
theorem e_parse (s : ByteArray) (hs : s.size ≤ 70000) (W : World) (hm : ∃ m, W.cell? ⟨0, 0, none⟩ = some (.int .i64 m)) : Calls Tryz.prog 27 #[.string s] W (EPaOk s W) := by
  obtain ⟨w0, hw0, r0, hB0, hs0⟩ := box5 W 0 0 0 0 (.slice none 0 0) 44
  have LW := lex_words s hs w0 (hm_belowd hm hB0)
  have HW0 := Lib.hid hw0
  clear hw0 hm
  go_enter Tryz.func27, Tryz.ntmps27
  go_wp2_with fail
  rw [← HW0.out]
  refine LW.mono ?_
  rintro e w1 ⟨hb1, hcase⟩
  have hz1 := hb1.size
  have RX := Lib.hid (fun w' (hb : Below w1.heap.size w1 w') => (hb.block W.heap.size (by omega)).trans ((hb1.block W.heap.size (by omega)).trans r0))
  have HBX := Lib.hid (fun w' (hb : Below w1.heap.size w1 w') => (hB0.trans (hb1.mono hB0.size)).trans (hb.mono (by omega)))
  clear LW HW0 hb1 r0 hB0
  have hbad : ∀ (c : Int) (w' : World), Below w1.heap.size w1 w' → ecode s = c → c ≠ 0 → Hid (EPaOk s W (.returned (.tuple #[.agg #[.int .i64 0, .int .i64 0, .int .i64 0, .int .i64 0, .slice none 0 0], .int .i64 c])) (s5 w' W.heap.size (.int .i64 0) (.int .i64 0) (.int .i64 0) (.int .i64 0) (.slice none 0 0))) ∧ Hid ((s5 w' W.heap.size (.int .i64 0) (.int .i64 0) (.int .i64 0) (.int .i64 0) (.slice none 0 0)).heap[W.heap.size]? = some (.cells #[.int .i64 0, .int .i64 0, .int .i64 0, .int .i64 0, .slice none 0 0] 44 (0, 0))) := fun c w' hb hc h0 =>
    ⟨Lib.hid (epa_bad (HBX.out _ hb) (Nat.le_refl _) hc h0), Lib.hid (s5_at (RX.out _ hb))⟩
  have HBAD := Lib.hid hbad
  clear hbad
  rcases hcase with ⟨hn, rfl⟩ | ⟨l, v, hw, rfl, ho⟩
  · obtain ⟨FIN, HZ⟩ := HBAD.out 10 w1 (Below.refl _ _) (ec_words (fun p q r e => by rw [hn] at e; cases e)) (by decide)
    obtain ⟨y0, y1, y2, y3, y4⟩ := cells5 (RX.out _ (Below.refl _ _))
    obtain ⟨g0, g1, g2, g3, g4⟩ := free5 (RX.out _ (Below.refl _ _))
    clear hn
    unfold s5 at FIN HZ
    go_wp2_with fail
    refine bodyPost_ret (res_cell_tmp (p := 2) (a := 3) (ty := 44) rfl _ _ _ 44 #[.int .i64 0, .int .i64 0, .int .i64 0, .int .i64 0, .slice none 0 0] (0, 0) _ (.int .i64 10) rfl rfl HZ.out Tryz.underlying44 rfl (by kernel_rfl)) rfl ?_
    exact FIN.out
  by_cases hl3 : l.length = 3
  case neg =>
    obtain ⟨FIN, HZ⟩ := HBAD.out 10 w1 (Below.refl _ _) (ec_words (fun p q r e => by rw [hw] at e; exact not_three hl3 p q r (Option.some.inj e))) (by decide)
    obtain ⟨y0, y1, y2, y3, y4⟩ := cells5 (RX.out _ (Below.refl _ _))
    obtain ⟨g0, g1, g2, g3, g4⟩ := free5 (RX.out _ (Below.refl _ _))
    obtain ⟨va, vc, rfl⟩ : ∃ a c, v = .slice a l.length c := by
      rcases own_form ho with ⟨rfl, h, -⟩ | ⟨g, c, rfl, -⟩
      · exact ⟨none, 0, by rw [h]⟩
      · exact ⟨_, _, rfl⟩
    obtain ⟨L, hL⟩ : ∃ L, l.length = L := ⟨_, rfl⟩
    rw [hL] at hl3 ⊢
    have e3 : ((L : Int) != 3) = true := by
      have : ((L : Int) == 3) = false := by rw [beq_eq_false_iff_ne]; omega
      simp [bne, this]
    have e3' : (L != 3) = true := by simp [bne, hl3]
    clear hw ho hL
    unfold s5 at FIN HZ
    go_wp2_with fail
    refine bodyPost_ret (res_cell_tmp (p := 2) (a := 3) (ty := 44) rfl _ _ _ 44 #[.int .i64 0, .int .i64 0, .int .i64 0, .int .i64 0, .slice none 0 0] (0, 0) _ (.int .i64 10) rfl rfl HZ.out Tryz.underlying44 rfl (by kernel_rfl)) rfl ?_
    exact FIN.out
  case pos =>
    obtain ⟨p, q, r, hpqr⟩ := is_three hl3
    obtain ⟨g, c, rfl, hg, c0, c1, c2⟩ := enc_three ho hpqr
    rw [hpqr] at hw
    have hz3 : p.length + q.length + r.length ≤ 70000 := by
      have hf := congrArg List.length (wds_full hw)
      simp only [fullw, tlw, List.length_append, List.length_cons] at hf
      have := Lib.size_eq s
      simp at hf
      omega
    have zz : ∀ l : List UInt8, (baL l).size = l.length := fun l => by rw [Lib.size_eq, baL_list]
    have hpz : (baL p).size ≤ 70000 := by rw [zz]; omega
    have hqz : (baL q).size ≤ 70000 := by rw [zz]; omega
    have CX := Lib.hid (fun w' (hb : Below w1.heap.size w1 w') => (show w'.cell? ⟨g, 0, none⟩ = some (.string (baL p)) ∧ w'.cell? ⟨g, 1, none⟩ = some (.string (baL q)) ∧ w'.cell? ⟨g, 2, none⟩ = some (.string (baL r)) from
      ⟨(hb.cell (p := ⟨g, 0, none⟩) hg).trans c0, (hb.cell (p := ⟨g, 1, none⟩) hg).trans c1, (hb.cell (p := ⟨g, 2, none⟩) hg).trans c2⟩))
    have HWD := Lib.hid hw
    have HEN := Lib.hid (fun (hn : ¬ (IsN (baL p) ∧ IsN (baL q))) => ec_num hw hn)
    have HET := Lib.hid (fun hp hq hr => ec_tree (s := s) hw hp hq hr)
    have HEF := Lib.hid (fun k m ks hp hq hr (ht : Tree (baL r) k m ks) => ec_for hw hp hq hr ht)
    obtain ⟨P, hP⟩ : ∃ P, baL p = P := ⟨_, rfl⟩
    obtain ⟨Q, hQ⟩ : ∃ Q, baL q = Q := ⟨_, rfl⟩
    obtain ⟨R, hR⟩ : ∃ R, baL r = R := ⟨_, rfl⟩
    have HPQR := Lib.hid (show baL p = P ∧ baL q = Q ∧ baL r = R from ⟨hP, hQ, hR⟩)
    rw [hP, hQ, hR] at CX
    rw [hP] at hpz c0
    rw [hQ] at hqz
    rw [hP, hQ] at HEN
    rw [hP, hQ, hR] at HET HEF
    have N1 := lex_numw P hpz w1
    clear hw ho hpqr hl3 zz hP hQ hR c1 c2 hz3
    go_wp2_with fail
    refine N1.mono ?_
    rintro e w2 ⟨hb2, hcase⟩
    obtain ⟨n1, e1, rfl, HA⟩ : ∃ n1 e1 : Int, e = .returned (.tuple #[.int .i64 n1, .int .i64 e1]) ∧ Hid ((e1 = 10 ∧ ¬ IsN P) ∨ (e1 = 0 ∧ IsN P ∧ n1 = ((vl P P.size : Nat) : Int))) := by
      rcases hcase with ⟨h, rfl⟩ | ⟨h, rfl⟩
      · exact ⟨0, 10, rfl, Lib.hid (.inl ⟨rfl, h⟩)⟩
      · exact ⟨_, 0, rfl, Lib.hid (.inr ⟨rfl, h, rfl⟩)⟩
    have N2 := lex_numw Q hqz w2
    obtain ⟨-, x1, -⟩ := CX.out _ hb2
    clear hcase c0 N1
    go_wp2_with fail
    refine N2.mono ?_
    rintro e w3 ⟨hb3, hcase⟩
    obtain ⟨n2, e2, rfl, HB⟩ : ∃ n2 e2 : Int, e = .returned (.tuple #[.int .i64 n2, .int .i64 e2]) ∧ Hid ((e2 = 10 ∧ ¬ IsN Q) ∨ (e2 = 0 ∧ IsN Q ∧ n2 = ((vl Q Q.size : Nat) : Int))) := by
      rcases hcase with ⟨h, rfl⟩ | ⟨h, rfl⟩
      · exact ⟨0, 10, rfl, Lib.hid (.inl ⟨rfl, h⟩)⟩
      · exact ⟨_, 0, rfl, Lib.hid (.inr ⟨rfl, h, rfl⟩)⟩
    have hb3 := hb2.trans (hb3.mono hb2.size)
    have HWZ := Lib.hid (show W.heap.size + 1 ≤ w3.heap.size by have := hb3.size; omega)
    have PA := d_parse R w3
    obtain ⟨-, -, x2⟩ := CX.out _ hb3
    clear hcase N2 x1 hb2
    go_wp2_with fail
    refine PA.mono ?_
    rintro e w4 ⟨hb4, hcase⟩
    obtain ⟨k, m, va, vn, vc, e3, rfl, HC⟩ : ∃ (k m : Int) (va : Option Addr) (vn vc : Nat) (e3 : Int), e = .returned (.tuple #[.agg #[.int .i64 k, .int .i64 m, .slice va vn vc], .int .i64 e3]) ∧ Hid ((e3 ≠ 0 ∧ prs R = e3) ∨ (e3 = 0 ∧ prs R = 0 ∧ ∃ ks, Tree R k m ks ∧ KidsF w3.heap.size w4 (.slice va vn vc) ks)) := by
      rcases hcase with ⟨h, rfl⟩ | ⟨h, k, m, ks, v, ht, -, -, hK, rfl⟩
      · exact ⟨0, 0, none, 0, 0, _, rfl, Lib.hid (.inl ⟨h, rfl⟩)⟩
      · obtain ⟨a, n, c, rfl⟩ : ∃ a n c, v = .slice a n c := by
          obtain ⟨a, c, rfl, _⟩ := hK
          exact ⟨_, _, _, rfl⟩
        exact ⟨k, m, a, n, c, 0, rfl, Lib.hid (.inr ⟨rfl, h, ks, ht, hK⟩)⟩
    have hz4 := hb4.size
    have hb4' := hb3.trans (hb4.mono hb3.size)
    obtain ⟨w5, hw5, a0, a1, a2, hb5, hs5⟩ := box3 w4 k m (.slice va vn vc) 42
    obtain ⟨w6, hw6, r6, hb6, hs6⟩ := box5 w5 n1 n2 k m (.slice va vn vc) 44
    have HB6 := Lib.hid (((hb4'.trans (hb5.mono hb4'.size))).trans (hb6.mono (by have := hb4'.size; omega)))
    have HK6 := Lib.hid (fun ks (h : KidsF w3.heap.size w4 (.slice va vn vc) ks) => (h.below hb5).below hb6)
    have we1 : (Lit.int .i64 e1).wf = true := by
      rcases HA.out with h | h
      · rw [h.1]; decide
      · rw [h.1]; decide
    have we2 : (Lit.int .i64 e2).wf = true := by
      rcases HB.out with h | h
      · rw [h.1]; decide
      · rw [h.1]; decide
    have we3 : (Lit.int .i64 e3).wf = true := by
      rcases HC.out with h | h
      · rw [← h.2]
        unfold prs
        repeat' split
        all_goals decide
      · rw [h.1]; decide
    have OR := c_or_e _ 3 3 [e1, e2, e3] _ (row3i w6 e1 e2 e3 25 we1 we2 we3)
    obtain ⟨w7, hw7, hb7, hs7⟩ : ∃ w7, w6.alloc (.cells #[.int .i64 e1, .int .i64 e2, .int .i64 e3] 25) = w7 ∧ Below w6.heap.size w6 w7 ∧ w7.heap.size = w6.heap.size + 1 := ⟨_, rfl, (Below.refl _ _).alloc (Nat.le_refl _) _, by simp⟩
    rw [hw7, hs6, hs5] at OR
    have HB7 := Lib.hid (HB6.out.trans (hb7.mono HB6.out.size))
    have r7 := (hb7.block _ (by omega)).trans r6
    rw [hs5] at r7
    have HK7 := Lib.hid (fun ks (h : KidsF w3.heap.size w4 (.slice va vn vc) ks) => (HK6.out ks h).below hb7)
    have HW5 := Lib.hid hw5
    have HW6 := Lib.hid hw6
    have HW7 := Lib.hid hw7
    obtain ⟨z, hz⟩ : ∃ z, fz [e1, e2, e3] = z := ⟨_, rfl⟩
    rw [hz] at OR
    have HZV := Lib.hid hz
    have hs57 : w4.heap.size + 1 < w7.heap.size := by omega
    clear hcase PA x2 hb3 hb4 hb4' hb5 hb6 hb7 hw5 hw6 hw7 r6 we1 we2 we3 hz HK6 HB6
    go_upto_region 7 with fail
    rw [← HW5.out]
    go_wp2_with fail
    rw [← HW6.out, HW7.out]
    refine OR.mono ?_
    rintro e w7' ⟨rfl, rfl⟩
    clear OR a0 a1 a2 HW5 HW6 HW7
    by_cases hz0 : z = 0
    · have hall : e1 = 0 ∧ e2 = 0 ∧ e3 = 0 := by
        have h := HZV.out
        rw [hz0] at h
        simp only [fz] at h
        refine ⟨?_, ?_, ?_⟩
        · by_cases h1 : e1 = 0
          · exact h1
          · rw [if_neg h1] at h; exact absurd h h1
        · by_cases h1 : e1 = 0
          · rw [if_pos h1] at h
            by_cases h2 : e2 = 0
            · exact h2
            · rw [if_neg h2] at h; exact absurd h h2
          · rw [if_neg h1] at h; exact absurd h h1
        · by_cases h1 : e1 = 0
          · rw [if_pos h1] at h
            by_cases h2 : e2 = 0
            · rw [if_pos h2] at h
              by_cases h3 : e3 = 0
              · exact h3
              · rw [if_neg h3] at h; exact absurd h h3
            · rw [if_neg h2] at h; exact absurd h h2
          · rw [if_neg h1] at h; exact absurd h h1
      obtain ⟨rfl, rfl, rfl⟩ := hall
      obtain ⟨hpn, hn1⟩ : IsN P ∧ n1 = ((vl P P.size : Nat) : Int) := by
        rcases HA.out with h | h
        · exact absurd h.1 (by decide)
        · exact h.2
      obtain ⟨hqn, hn2⟩ : IsN Q ∧ n2 = ((vl Q Q.size : Nat) : Int) := by
        rcases HB.out with h | h
        · exact absurd h.1 (by decide)
        · exact h.2
      obtain ⟨hpr, ks, ht, hK4⟩ : prs R = 0 ∧ ∃ ks, Tree R k m ks ∧ KidsF w3.heap.size w4 (.slice va vn vc) ks := by
        rcases HC.out with h | h
        · exact absurd rfl h.1
        · exact h.2
      have hK7 := HK7.out ks hK4
      have hwf : (Fo.cons k m ks .nil).wf := by
        obtain ⟨⟨h1, h2⟩, h3, -⟩ := ht.1
        have aux : ∀ f : Fo, f.okT → f.wf := by
          intro f
          induction f with
          | nil => intro _; trivial
          | cons k n ks r i1 i2 =>
            rintro ⟨⟨⟨h1, h2⟩, h3, h4⟩, h5, h6⟩
            exact ⟨⟨by omega, by omega⟩, ⟨by omega, by omega⟩, i1 h5, i2 h6⟩
        exact aux _ ht.1
      have hcn : ks.cnt ≤ 1048576 := by
        have := tx_cntB ht.1
        rw [← ht.2, ← Lib.size_eq, ← HPQR.out.2.2, Lib.size_eq, baL_list] at this
        have hf := congrArg List.length (wds_full HWD.out)
        simp only [fullw, tlw, List.length_append, List.length_cons] at hf
        have h2 := Lib.size_eq s
        simp at hf
        omega
      have hv1 := vl_bd hpn
      have hec := HEF.out k m ks hpn hqn hpr ht
      rw [← hn1, ← hn2] at hec
      have CH := e_check ks (.slice va vn vc) n1 n2 k m w7.heap.size w7 hcn hK7.kids (Nat.le_refl _) (by omega) hwf.1 hwf.2.1 hwf.2.2.1
      obtain ⟨F, hF⟩ : ∃ F, fori n1 n2 m (chkd k m ks) = F := ⟨_, rfl⟩
      rw [hF] at CH hec
      have HENT := Lib.hid (fun (h0 : F = 0) => (⟨⟨p, q, r, HWD.out, by rw [HPQR.out.1]; exact hpn, by rw [HPQR.out.2.1]; exact hqn, by rw [HPQR.out.1]; exact hn1, by rw [HPQR.out.2.1]; exact hn2, by rw [HPQR.out.2.2]; exact ht⟩, hF.trans h0⟩ : Ent s n1 n2 k m ks))
      have HEC := Lib.hid hec
      have HOKS := Lib.hid ht.1.2.1
      have HK := Lib.hid hK7
      obtain ⟨x0, x1, x2, x3, x4⟩ := cells5 r7
      subst hz0
      clear HA HB HC HK7 hpn hqn hn1 hn2 hpr ht hK4 hwf hcn hv1 hec hF hK7 HEN HET HEF CX HZV
      go_wp2_with fail
      refine CH.mono ?_
      rintro e w8 ⟨rfl, hb8⟩
      have HB8 := Lib.hid (HB7.out.trans (hb8.mono HB7.out.size))
      have r8 := (hb8.block _ hs57).trans r7
      have hz8 := hb8.size
      have HK8 := Lib.hid (HK.out.below hb8)
      clear CH x0 x1 x2 x3 x4 r7 hb8 HK
      obtain ⟨x0, x1, x2, x3, x4⟩ := cells5 r8
      obtain ⟨y0, y1, y2, y3, y4⟩ := cells5 (RX.out _ HB8.out)
      obtain ⟨g0, g1, g2, g3, g4⟩ := free5 (RX.out _ HB8.out)
      by_cases hF0 : F = 0
      · have FIN := Lib.hid (epa_good (g := W.heap.size) (HBX.out _ HB8.out) (Nat.le_refl _) (HEC.out.trans hF0) (HENT.out hF0) (KidsS.carry HK8.out (fun x hx => ⟨⟨by have := HWZ.out; have := hx.1; omega, hx.2, by have := HWZ.out; have := hx.1; omega⟩, rfl⟩)))
        have HZ := Lib.hid (s5_at (x := .int .i64 n1) (y := .int .i64 n2) (z := .int .i64 k) (u := .int .i64 m) (v := .slice va vn vc) (RX.out _ HB8.out))
        subst hF0
        clear HENT HEC HK8
        unfold s5 at FIN HZ
        go_wp2_with fail
        refine bodyPost_ret (res_cell_tmp (p := 2) (a := 3) (ty := 44) rfl _ _ _ 44 #[.int .i64 n1, .int .i64 n2, .int .i64 k, .int .i64 m, .slice va vn vc] (0, 0) _ (.int .i64 0) rfl rfl HZ.out Tryz.underlying44 rfl (by kernel_rfl)) rfl ?_
        exact FIN.out
      · obtain ⟨FIN, HZ⟩ := HBAD.out F w8 HB8.out HEC.out hF0
        have f0 : (F != 0) = true := by simp [bne, hF0]
        clear HENT HEC HK8
        unfold s5 at FIN HZ
        go_wp2_with fail
        refine bodyPost_ret (res_cell_tmp (p := 2) (a := 3) (ty := 44) rfl _ _ _ 44 #[.int .i64 0, .int .i64 0, .int .i64 0, .int .i64 0, .slice none 0 0] (0, 0) _ (.int .i64 F) rfl rfl HZ.out Tryz.underlying44 rfl (by kernel_rfl)) rfl ?_
        exact FIN.out
    · have hec : ecode s = z := by
        have h := HZV.out
        simp only [fz] at h
        rcases HA.out with ⟨rfl, hp⟩ | ⟨rfl, hp, -⟩
        · rw [if_neg (by decide)] at h
          rw [HEN.out (fun x => hp x.1), h]
        · rw [if_pos rfl] at h
          rcases HB.out with ⟨rfl, hq⟩ | ⟨rfl, hq, -⟩
          · rw [if_neg (by decide)] at h
            rw [HEN.out (fun x => hq x.2), h]
          · rw [if_pos rfl] at h
            rcases HC.out with ⟨h3, hr⟩ | ⟨rfl, -⟩
            · rw [if_neg h3] at h
              rw [HET.out hp hq (by rw [hr]; exact h3), hr, h]
            · simp at h; exact absurd h.symm hz0
      obtain ⟨FIN, HZ⟩ := HBAD.out z w7 HB7.out hec hz0
      obtain ⟨y0, y1, y2, y3, y4⟩ := cells5 (RX.out _ HB7.out)
      obtain ⟨g0, g1, g2, g3, g4⟩ := free5 (RX.out _ HB7.out)
      have f0 : (z != 0) = true := by simp [bne, hz0]
      clear hec HA HB HC HK7 HEN HET HEF CX HZV r7
      unfold s5 at FIN HZ
      go_wp2_with fail
      refine bodyPost_ret (res_cell_tmp (p := 2) (a := 3) (ty := 44) rfl _ _ _ 44 #[.int .i64 0, .int .i64 0, .int .i64 0, .int .i64 0, .slice none 0 0] (0, 0) _ (.int .i64 z) rfl rfl HZ.out Tryz.underlying44 rfl (by kernel_rfl)) rfl ?_
      exact FIN.out
end Go.Proofs.YtafmiilkdhdngaaGreatDoor
