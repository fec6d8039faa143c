/- package desc's nodes, for every tree: its iterator. -/
import Derived.Test.YtfjioflggkmhcaaStn
import Derived.Test.YtfjioflggkmhcaaRowsg
import Derived.Test.YtfjioflggkmhcaaAtg
namespace Go.Proofs.Ytfjioflggkmhcaa
open Go.ChangeShapes Go.WideShapes Go.ChangeAt Go.RowKit
set_option linter.unusedVariables false
open Go.Shelf
set_option linter.unusedSimpArgs false
attribute [local go_sem] Oper.semAt_some
/-- A node, as it is told. -/
structure NodV where
  k : Int
  n : Int
  a : Option Addr
  m : Nat
  c : Nat
  f : Fo
def NodV.nd (x : NodV) : Nd := ⟨x.k, x.n, x.f⟩
def encN (x : NodV) : Array Value := #[.agg #[.int .i64 x.k, .int .i64 x.n, .slice x.a x.m x.c]]
/-- It is the next one of all, and its kids lie there. -/
def RelN (all : List Nd) (lim : Nat) (pre : List NodV) (x : NodV) (V : World) : Prop := (∃ r, pre.map NodV.nd ++ x.nd :: r = all) ∧ Kids V lim (.slice x.a x.m x.c) x.f
structure NodsRel (J : List NodV → World → Prop) (n₀ B : Nat) (all : List Nd) (W2 : World) (pre : List NodV) (st : List Nd) (s : Value) (wr : World) : Prop where
  b : Below n₀ W2 wr
  k : OwnD wr B n₀ s st
  j : J pre wr
  z : pre.map NodV.nd ++ remR st = all
theorem desc_nodesit (g : Nat) (k n : Int) (v : Value) (w : World) :
    CallsIn Fence.wide g Try.prog 48 #[.agg #[.int .i64 k, .int .i64 n, v]] w fun e w' => e = .returned (.func (.func 82) #[] #[.pointer (some ⟨w.heap.size, 0, none⟩)]) ∧ w' = w.alloc (.cells #[.int .i64 k, .int .i64 n, v] 24) := by
  refine callsIn_of_wp Try.func48 rfl trivial ?_ rfl
  simp only [Try.ntmps48, List.size_toArray, List.length_cons, List.length_nil, Nat.reduceAdd, Nat.reduceSub, Array.replicate_succ, Array.replicate_zero, List.push_toArray, List.append_toArray, List.nil_append, List.cons_append]
  gi_wp2
  go_ret
  exact ⟨rfl, rfl⟩
set_option maxRecDepth 100000 in
set_option maxHeartbeats 4000000 in
theorem nodes_g (g : Nat) (hg : 1 ≤ g) (B1 n₀ l m c : Nat) (k n : Int) (p : Option Addr) (f : Fo) (W : World) (hb0 : W.cell? ⟨B1, 0, none⟩ = some (.int .i64 k)) (hb1 : W.cell? ⟨B1, 1, none⟩ = some (.int .i64 n)) (hb2 : W.cell? ⟨B1, 2, none⟩ = some (.slice p m c)) (hK : Kids W n₀ (.slice p m c) f) (hn0 : n₀ ≤ W.heap.size) (hC : f.cnt ≤ 1048576)
    (J Jx : List NodV → World → Prop) (hJ : Low W.heap.size J)
    (hY : ∀ pre x V, J pre V → W.heap.size ≤ V.heap.size → RelN (⟨k, n, f⟩ :: f.pre) n₀ pre x V → YieldAt Fence.wide (g - 1) Try.prog l (encN x) V fun e V' => (e = .returned (.bool true) ∧ J (pre ++ [x]) V' ∧ Kw n₀ W.heap.size V V') ∨ (e = .returned (.bool false) ∧ Jx (pre ++ [x]) V' ∧ Kc W.heap.size V V'))
    (h0 : J [] W) : CallsIn Fence.wide g Try.prog 82 #[.func (.yield l) #[] #[], .pointer (some ⟨B1, 0, none⟩)] W fun e W' => (∃ v, e = .returned v) ∧
      ((∃ xs, xs.map NodV.nd = ⟨k, n, f⟩ :: f.pre ∧ J xs W') ∨ ∃ pre, (∃ r, pre.map NodV.nd ++ r = ⟨k, n, f⟩ :: f.pre) ∧ Jx pre W') := by
  have lB := block_lt_of_cell hb0
  have hm : m = f.len := by obtain ⟨_, _, e, _⟩ := hK; cases e; rfl
  obtain ⟨W2, hW2⟩ : ∃ W2, W.alloc (.cells #[.int .i64 k, .int .i64 n, .slice p m c] 24) = W2 := ⟨_, rfl⟩
  obtain ⟨all, hall⟩ : ∃ all : List Nd, ⟨k, n, f⟩ :: f.pre = all := ⟨_, rfl⟩
  have halen : all.length ≤ 1048577 := by rw [← hall, List.length_cons, Fo.pre_len]; omega
  rw [hall] at hY ⊢
  have HS : NodsRel J n₀ W.heap.size all W2 [] [⟨k, n, f⟩] (.slice (some ⟨W.heap.size, 0, none⟩) 1 1) W2 := by
    refine ⟨Below.refl _ _, ?_, hJ [] W W2 h0 ?_, by rw [← hall]; rfl⟩
    · rw [← hW2]; exact OwnD.one W n₀ ⟨k, n, f⟩ _ hn0 hK
    · rw [← hW2]; exact (Below.refl _ _).alloc (Nat.le_refl _) _
  have hs2 : W2.heap.size = W.heap.size + 1 := by rw [← hW2]; simp
  generalize hBB : W.heap.size = B at *
  clear hK hm
  refine callsIn_of_wp Try.func82 rfl trivial ?_ rfl
  simp only [Try.ntmps82, List.size_toArray, List.length_cons, List.length_nil, Nat.reduceAdd, Nat.reduceSub, Array.replicate_succ, Array.replicate_zero, List.push_toArray, List.append_toArray, List.nil_append, List.cons_append]
  gi_wp2
  clear hW2 hb0 hb1 hb2 h0
  gi_loopw [3] (fun s wr => ∃ pre st, NodsRel J n₀ B all W2 pre st s wr) (fun s wr => leastN (fun k => ∃ pre st, NodsRel J n₀ B all W2 pre st s wr ∧ k = (remR st).length))
  case atStart => exact ⟨_, _, HS⟩
  case round =>
    clear HS
    obtain ⟨pre0, st0, hr0⟩ := hrel
    obtain ⟨⟨pre, st, hr, hmin⟩, -⟩ := leastN_is (p := fun k => ∃ pre st, NodsRel J n₀ B all W2 pre st u3 wr ∧ k = (remR st).length) ⟨_, pre0, st0, hr0, rfl⟩
    clear hr0 pre0 st0
    have HY := Lib.hid hY
    clear hY
    rcases List.eq_nil_or_concat st with rfl | ⟨st', d, rfl⟩
    · obtain ⟨a, c, rfl⟩ : ∃ a c, u3 = .slice a 0 c := by
        obtain ⟨a, c, e, _⟩ := hr.k.shape
        exact ⟨a, c, e⟩
      have HR := Lib.hid hr
      clear hr hmin
      gi_wp2
      go_end0
      exact ⟨⟨_, rfl⟩, .inl ⟨pre, by have := HR.out.z; simpa [remR] using this, HR.out.j⟩⟩
    · rw [List.concat_eq_append] at hr hmin
      obtain ⟨q, cap, a, c', rfl, hcap, hcap2, e0, e1, e2, hKd, hc2', hc1', hS⟩ := hr.k.pop
      have hz := hr.z
      rw [remR_app] at hz
      simp only [remR, List.nil_append] at hz
      obtain ⟨dk, dn, df⟩ := d
      dsimp only at e0 e1 e2 hKd hz hc1'
      obtain ⟨L, hL⟩ : ∃ L, st'.length = L := ⟨_, rfl⟩
      have hLb : L ≤ 1048577 := by
        have h1 := remR_len st'
        have h2 := congrArg List.length hz
        rw [List.length_append, List.length_append] at h2
        omega
      rw [hL] at hcap e0 e1 e2 hS hmin ⊢
      obtain ⟨w5, hw5⟩ : ∃ w5, wr.alloc (.cells #[.int .i64 dk, .int .i64 dn, .slice a df.len c'] 24) = w5 := ⟨_, rfl⟩
      have hbw : B ≤ wr.heap.size := by have := hr.b.size; omega
      have hb5 : Below wr.heap.size wr w5 := by rw [← hw5]; exact (Below.refl _ _).alloc (Nat.le_refl _) _
      have hx5 : w5.heap[wr.heap.size]? = some (.cells #[.int .i64 dk, .int .i64 dn, .slice a df.len c'] 24 (0, 0)) := by rw [← hw5]; exact heap_alloc_new wr _
      have hK5 := hKd.carry (hb5.mono (show n₀ ≤ wr.heap.size by omega))
      have hYx := HY.out pre ⟨dk, dn, a, df.len, c', df⟩ w5 (hJ _ _ _ hr.j (hb5.mono hbw)) (by have := hb5.size; omega) ⟨⟨_, hz⟩, hK5⟩
      have HR := Lib.hid hr
      have HM := Lib.hid hmin
      have HS := Lib.hid (hS.below (by omega) hb5)
      have HK := Lib.hid hK5
      have HZ := Lib.hid hz
      have HB5 := Lib.hid hb5
      clear hr hmin hS hKd hz hK5 hb5
      have d1 : decide ((0 : Int) < (L : Int) + 1) = true := decide_eq_true (by omega)
      have w1 : IntKind.i64.wrap ((L : Int) + 1 - 1) = (L : Int) := by rw [show (L : Int) + 1 - 1 = (L : Int) by omega]; exact IntWalk.i64_in _ (by omega)
      obtain ⟨x0, x1, x2, f0, f1, f2⟩ := row_cells3 hx5
      obtain ⟨fn, tmps, assign, body, hy1, hR⟩ := hYx
      dsimp only [encN] at hy1 hR
      gi_wp2
      refine hR.mono ?_
      have lq : q < wr.heap.size := block_lt_of_cell (a := ⟨q, L * 3, none⟩) e0
      rintro e W3 (⟨rfl, hJ3, hk3⟩ | ⟨rfl, hJx3, -⟩)
      · have hx3 := hk3.2 wr.heap.size _ hbw hx5
        have hl3 : wr.heap.size < W3.heap.size := (Array.getElem?_eq_some_iff.1 hx3).1
        have HS3 := Lib.hid (HS.out.kept hk3.1 hk3.2)
        have HK3 := Lib.hid (HK.out.carry hk3.1)
        have HB3 := Lib.hid ((HR.out.b.trans (HB5.out.mono (by omega))).trans hk3.1)
        have HJ3 := Lib.hid hJ3
        obtain ⟨bx, hbx⟩ : ∃ bx, wr.heap.size = bx := ⟨_, rfl⟩
        rw [hbx] at hx3 hl3 lq hbw
        clear hJ3 hk3 hR HS HK hy1 x0 x1 x2 f0 f1 f2 hx5 e0 e1 e2 hw5
        obtain ⟨x0, x1, x2, f0, f1, f2⟩ := row_cells3 hx3
        have wl : IntKind.i64.wrap ((df.len : Int) - 1) = (df.len : Int) - 1 := IntWalk.i64_in _ (by omega)
        gi_wp2
        have HX3 := Lib.hid hx3
        gi_loopw [3, 6] (fun s j wr3 => ∃ (t : Nat) (y : Int), t ≤ df.len ∧ y + 1 = (t : Int) ∧ j = .int .i64 y ∧ Hid (Below B W3 wr3) ∧ Hid (wr3.heap[bx]? = W3.heap[bx]?) ∧ Hid (∃ l' X, OwnD wr3 B n₀ s l' ∧ remR l' = X ++ remR st' ∧ df.preTo t ++ X = df.pre) ∧ Hid (s.ownBlock ≠ some bx)) (fun _ j _ => (intOf j + 1).toNat)
        case atStart =>
          exact ⟨df.len, (df.len : Int) - 1, Nat.le_refl _, by omega, rfl, Lib.hid (Below.refl _ _), Lib.hid rfl, Lib.hid ⟨st', [], HS3.out, rfl, by rw [Fo.preTo_all, List.append_nil]⟩, Lib.hid (fun h => by have : q = bx := (by simpa [Value.ownBlock] using h); omega)⟩
        case round =>
          clear x0 x1 x2 f0 f1 f2 hx3
          obtain ⟨t, y, ht, hy, rfl, HB4, HX4, HS4, HN4⟩ := hrel
          by_cases hneg : y < 0
          · obtain rfl : y = -1 := by omega
            obtain rfl : t = 0 := by omega
            obtain ⟨l', X, hS4, hrem, hX⟩ := HS4.out
            rw [Fo.preTo_zero, List.nil_append] at hX
            subst hX
            have hnew : NodsRel J n₀ B all W2 (pre ++ [⟨dk, dn, a, df.len, c', df⟩]) l' u3 wr := by
              refine ⟨HB3.out.trans (HB4.out.mono (by omega)), hS4, hJ _ _ _ HJ3.out HB4.out, ?_⟩
              rw [hrem, List.map_append, List.append_assoc]
              exact HZ.out
            have hlt2 : (remR l').length < (remR (st' ++ [⟨dk, dn, df⟩])).length := by
              rw [hrem, remR_app, List.length_append, List.length_append]
              simp only [remR, List.length_append, List.length_cons, List.length_nil]
              omega
            have HNew := Lib.hid hnew
            have HLt := Lib.hid hlt2
            clear hnew hlt2 hS4 hrem
            gi_wp2
            go_roundw
            case rel => exact ⟨_, _, HNew.out⟩
            case measure =>
              rw [HM.out]
              exact Nat.lt_of_le_of_lt ((leastN_is ⟨_, _, _, HNew.out, rfl⟩).2 _ ⟨_, _, HNew.out, rfl⟩) HLt.out
          · obtain ⟨i, rfl⟩ : ∃ i : Nat, y = i := ⟨y.toNat, by omega⟩
            obtain rfl : t = i + 1 := by omega
            have hi : i < df.len := by omega
            have j0 : (0 : Int) ≤ (i : Int) := by omega
            have j1 : (i : Int) < (df.len : Int) := by omega
            have dy : decide ((0 : Int) ≤ (i : Int)) = true := decide_eq_true j0
            have wi : IntKind.i64.wrap ((i : Int) - 1) = (i : Int) - 1 := IntWalk.i64_in _ (by omega)
            have hx4 := HX4.out.trans HX3.out
            have hl4 : bx < wr.heap.size := (Array.getElem?_eq_some_iff.1 hx4).1
            obtain ⟨x0, x1, x2, f0, f1, f2⟩ := row_cells3 hx4
            obtain ⟨b, o, v, rfl, hb, g0, g1, g2, hKi⟩ := (HK3.out.carry (HB4.out.mono (by omega))).get hi
            obtain ⟨a', c'', rfl, hd1, hd2⟩ := hKi.form
            have HKi := Lib.hid hKi
            obtain ⟨l', X, hS4, hrem, hX⟩ := HS4.out
            have a3 : l'.length < 1099511627776 := by
              have h1 := remR_len l'
              have h2 := congrArg List.length HZ.out
              have h3 := congrArg List.length hX
              have h4 := congrArg List.length hrem
              simp only [List.length_append, List.length_cons] at h2 h3 h4
              omega
            have a2 : B ≤ wr.heap.size := by omega
            have a1 : n₀ ≤ B := by omega
            have HS5 := Lib.hid hS4
            have HRem := Lib.hid hrem
            have HXX := Lib.hid hX
            clear hKi hS4 hrem hX HS4
            gi_wp2_with (gi_at_builtin; refine stn_push rfl _ _ rfl rfl HS5.out rfl HKi.out a1 a2 a3 ?_; rintro vg vc w5 hS5 hB5 hvg hkp; have HS6 := Lib.hid hS5; have HB5 := Lib.hid hB5; have HVG := Lib.hid hvg; have HKP := Lib.hid hkp; clear hS5 hB5 hvg hkp)
            go_roundw
            case rel =>
              refine ⟨i, (i : Int) - 1, by omega, by omega, rfl, Lib.hid (HB4.out.trans HB5.out), Lib.hid ((HKP.out bx hl4 HN4.out).trans HX4.out), Lib.hid ⟨_, _, HS6.out, by rw [remR_app, HRem.out, ← List.append_assoc], ?_⟩, Lib.hid (fun h => ?_)⟩
              · have := HXX.out
                rw [Fo.preTo_snoc df i hi] at this
                rw [← this]; simp [remR]
              · have e : vg = bx := by simpa [Value.ownBlock] using h
                rcases HVG.out with h1 | h1
                · exact HN4.out (by rw [← e]; exact h1)
                · omega
            case measure => simp only [intOf]; omega
      · gi_wp2
        refine bodyPost_ret (results_none rfl _ _ _) rfl ?_
        exact ⟨⟨_, rfl⟩, .inr ⟨_, ⟨_, by rw [List.map_append, List.append_assoc]; exact HZ.out⟩, hJx3⟩⟩
end Go.Proofs.Ytfjioflggkmhcaa
