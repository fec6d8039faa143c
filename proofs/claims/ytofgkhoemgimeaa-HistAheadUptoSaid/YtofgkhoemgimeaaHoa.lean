/- What calls tell, alike or not: reference 36's Alike, model.Alike. By program (genhoa.py). -/
import Derived.Test.YtofgkhoemgimeaaCmpr
import Derived.Deep.Cut
namespace Go.Proofs.Ytofgkhoemgimeaa
open Go.ChangeShapes Go.WideShapes Go.ChangeAt Go.RowKit
set_option linter.unusedVariables false
set_option linter.unusedSimpArgs false
structure Tl where
  er : Int
  dk : Int
  dn : Int
  ks : Fo
  dN : Int
  ln : Int
  tx : ByteArray
  ys : List Int
def TlP (a b : Tl) : Prop := a.er = b.er ∧ a.dN = b.dN ∧ a.ln = b.ln ∧ a.tx.data.toList = b.tx.data.toList ∧ cmpN a.dk a.dn a.ks b.dk b.dn b.ks = 0 ∧ a.ys = b.ys
instance (a b : Tl) : Decidable (TlP a b) := by unfold TlP; infer_instance
theorem boxH (W : World) (cs : Array Value) (T : TypeId) : ∃ w0, W.alloc (.cells cs T) = w0 ∧ w0.heap[W.heap.size]? = some (.cells cs T (0, 0)) ∧ Below W.heap.size W w0 ∧ w0.heap.size = W.heap.size + 1 :=
  ⟨_, rfl, heap_alloc_new _ _, (Below.refl _ _).alloc (Nat.le_refl _) _, by simp⟩
theorem cells8H {w : World} {b : Nat} {T : TypeId} {x0 x1 x2 x3 x4 x5 x6 x7 : Value} (h : w.heap[b]? = some (.cells #[x0, x1, x2, x3, x4, x5, x6, x7] T (0, 0))) : w.cell? ⟨b, 0, none⟩ = some x0 ∧ w.cell? ⟨b, 1, none⟩ = some x1 ∧ w.cell? ⟨b, 2, none⟩ = some x2 ∧ w.cell? ⟨b, 3, none⟩ = some x3 ∧ w.cell? ⟨b, 4, none⟩ = some x4 ∧ w.cell? ⟨b, 5, none⟩ = some x5 ∧ w.cell? ⟨b, 6, none⟩ = some x6 ∧ w.cell? ⟨b, 7, none⟩ = some x7 := by
  refine ⟨?_, ?_, ?_, ?_, ?_, ?_, ?_, ?_⟩ <;> (rw [cell_of_row _ _ _ _ _ _ h]; rfl)
theorem eq64 (p q : Option Addr) (c d : Nat) (xs ys : List Int) (w : World) (hr : Reads .u64 w p xs) (hr2 : Reads .u64 w q ys) (hl : xs.length ≤ 9223372036854775807) :
    Calls Try.prog 65 #[.slice p xs.length c, .slice q ys.length d] w fun e w' => e = .returned (.bool (decide (xs = ys))) ∧ Below w.heap.size w w' := by
  by_cases hne : xs.length = ys.length
  · obtain ⟨n, hn⟩ : ∃ n, xs.length = n := ⟨_, rfl⟩
    have hny : ys.length = n := by rw [← hne, hn]
    rw [hn] at hl ⊢
    rw [hny]
    have HN := Lib.hid hn
    have HNY := Lib.hid hny
    have HR := Lib.hid hr
    have HR2 := Lib.hid hr2
    have hq : ((n : Int) != (n : Int)) = false := by simp
    clear hn hny hr hr2 hne
    go_enter Try.func65, Try.ntmps65
    go_wp2_with fail
    go_loopw [5, 13] (fun _ i wr => ∃ k : Nat, k ≤ n ∧ i = .int .i64 k ∧ Hid (xs.take k = ys.take k) ∧ Below w.heap.size w wr) (fun _ i _ => n - (intOf i).toNat)
    case atStart => exact ⟨0, Nat.zero_le _, rfl, Lib.hid rfl, Below.refl _ _⟩
    case round =>
      obtain ⟨k, hk, rfl, HT, hB⟩ := hrel
      by_cases hlt : k < n
      · rcases HR.out with hnil | ⟨b, off, rfl, hb, hcell⟩
        · have := HN.out; rw [hnil] at this; simp at this; omega
        rcases HR2.out with hnil | ⟨b', off', rfl, hb', hcell'⟩
        · have := HNY.out; rw [hnil] at this; simp at this; omega
        have hc0 := hcell k (by rw [HN.out]; exact hlt)
        have hc0' := hcell' k (by rw [HNY.out]; exact hlt)
        have HS := Lib.hid (fun e => take_eq_step HT.out (by rw [HN.out]; exact hlt) (by rw [HNY.out]; exact hlt) e)
        have HD := Lib.hid (ne_of_at (xs := xs) (ys := ys) (k := k))
        clear hcell hcell'
        generalize xs.getD k 0 = x at *
        generalize ys.getD k 0 = y at *
        have hc : wr.cell? ⟨b, off + k, none⟩ = some (.int .u64 x) := (hB.cell (p := ⟨b, off + k, none⟩) hb).trans hc0
        have hc' : wr.cell? ⟨b', off' + k, none⟩ = some (.int .u64 y) := (hB.cell (p := ⟨b', off' + k, none⟩) hb').trans hc0'
        clear hc0 hc0'
        by_cases hxy : x = y
        · have HG := Lib.hid (HS.out hxy)
          have hq2 : (x != y) = false := by simpa using hxy
          clear hxy
          go_wp2_with fail
          go_quiet (fail)
          go_wp2_with fail
          go_roundw
          case rel => exact ⟨k + 1, by omega, by go_num, HG, below_drewN hB _⟩
          case measure => (first | (simp [intOf]; done) | (simp [intOf]; omega) | (simp only [intOf]; omega))
        · have HG := Lib.hid (HD.out hxy)
          have hq2 : (x != y) = true := by simpa using hxy
          clear hxy
          go_wp2_with fail
          go_quiet (fail)
          go_wp2_with fail
          go_ret
          exact ⟨ret_bool (by simp [HG.out]), below_drewN hB _⟩
      · obtain rfl : k = n := by omega
        have hfin : xs = ys := by
          have := HT.out
          rwa [List.take_of_length_le (by rw [HN.out]; exact Nat.le_refl _), List.take_of_length_le (by rw [HNY.out]; exact Nat.le_refl _)] at this
        have HG := Lib.hid hfin
        clear hfin
        go_wp2_with fail
        go_ret
        exact ⟨ret_bool (by simp [HG.out]), hB⟩
  · have hq : ((xs.length : Int) != (ys.length : Int)) = true := by simp; omega
    have HG := Lib.hid (show xs ≠ ys from fun e => hne (by rw [e]))
    clear hne
    go_enter Try.func65, Try.ntmps65
    go_wp2_with fail
    go_ret
    exact ⟨ret_bool (by simp [HG.out]), Below.refl _ _⟩
set_option maxRecDepth 100000 in
set_option maxHeartbeats 16000000 in
theorem r36_alike (a b : Tl) (kv kv' : Value) (p q : Option Addr) (k j lim : Nat) (W : World) (hK : Kids W lim kv a.ks) (hK' : Kids W lim kv' b.ks) (hl : lim ≤ W.heap.size) (hx : Reads .u64 W p a.ys) (hy : Reads .u64 W q b.ys) (hn : a.ys.length ≤ 9223372036854775807) :
    Calls Try.prog 40 #[.agg #[.int .i64 a.er, .int .i64 a.dk, .int .i64 a.dn, kv, .int .i64 a.dN, .int .i64 a.ln, .string a.tx, .slice p a.ys.length k], .agg #[.int .i64 b.er, .int .i64 b.dk, .int .i64 b.dn, kv', .int .i64 b.dN, .int .i64 b.ln, .string b.tx, .slice q b.ys.length j]] W fun e w' => e = .returned (.bool (decide (TlP a b))) ∧ Below W.heap.size W w' := by
  obtain ⟨w0, hw0, r0, hB0, hs0⟩ := boxH W #[.int .i64 a.er, .int .i64 a.dk, .int .i64 a.dn, kv, .int .i64 a.dN, .int .i64 a.ln, .string a.tx, .slice p a.ys.length k] 39
  obtain ⟨w1, hw1, r1, hB1, hs1⟩ := boxH w0 #[.int .i64 b.er, .int .i64 b.dk, .int .i64 b.dn, kv', .int .i64 b.dN, .int .i64 b.ln, .string b.tx, .slice q b.ys.length j] 39
  have HB := Lib.hid (hB0.trans (hB1.mono hB0.size))
  have SM := Lib.hid (r13_same a.ks b.ks kv kv' a.dk a.dn b.dk b.dn lim w1 (hK.below hl HB.out) (hK'.below hl HB.out) (Nat.le_trans hl HB.out.size))
  have FS := Lib.hid (fun (w : World) (h : Below w1.heap.size w1 w) => r2_same p q k j a.ys b.ys w (hx.below (HB.out.trans (h.mono HB.out.size))) (hy.below (HB.out.trans (h.mono HB.out.size))) hn)
  obtain ⟨kp, km, kc, rfl, -⟩ := hK.shape
  obtain ⟨kp', km', kc', rfl, -⟩ := hK'.shape
  rw [hs0] at r1
  have HF := Lib.hid (fun (w : World) (h : Below w1.heap.size w1 w) => And.intro (cells8H ((h.block W.heap.size (by omega)).trans ((hB1.block W.heap.size (by omega)).trans r0))) (cells8H ((h.block (W.heap.size + 1) (by omega)).trans r1)))
  obtain ⟨⟨a0, a1, a2, a3, a4, a5, a6, a7⟩, c0, c1, c2, c3, c4, c5, c6, c7⟩ := HF.out w1 (Below.refl _ _)
  have HD := Lib.hid (show TlP a b ↔ (a.er = b.er ∧ a.dN = b.dN ∧ a.ln = b.ln ∧ a.tx.data.toList = b.tx.data.toList ∧ cmpN a.dk a.dn a.ks b.dk b.dn b.ks = 0 ∧ a.ys = b.ys) from Iff.rfl)
  obtain ⟨D, hD⟩ : ∃ D, decide (TlP a b) = D := ⟨_, rfl⟩
  rw [hD]
  have HDD := Lib.hid hD
  clear r0 r1 hB0 hB1 hK hK' hx hy hD
  by_cases h0 : a.er = b.er
  · have q0 : (a.er == b.er) = true := by simpa using h0
    have E0 := Lib.hid h0
    clear h0
    by_cases h1 : a.dN = b.dN
    · have q1 : (a.dN == b.dN) = true := by simpa using h1
      have E1 := Lib.hid h1
      clear h1
      by_cases h2 : a.ln = b.ln
      · have q2 : (a.ln == b.ln) = true := by simpa using h2
        have E2 := Lib.hid h2
        clear h2
        by_cases h3 : a.tx.data.toList = b.tx.data.toList
        · have q3 : (a.tx.toList == b.tx.toList) = true := by rw [Lib.toList_data, Lib.toList_data]; simpa using h3
          have E3 := Lib.hid h3
          clear h3
          go_enter Try.func40, Try.ntmps40
          go_wp2_with fail
          clear hw0 hw1 hs0 hs1 a0 a1 a2 a3 a4 a5 a6 a7 c0 c1 c2 c3 c4 c5 c6 c7
          refine SM.out.mono ?_
          rintro e w2 ⟨rfl, hb⟩
          have HB2 := Lib.hid (HB.out.trans (hb.mono HB.out.size))
          have HW2 := Lib.hid hb
          obtain ⟨⟨a0, a1, a2, a3, a4, a5, a6, a7⟩, c0, c1, c2, c3, c4, c5, c6, c7⟩ := HF.out w2 hb
          clear hb
          by_cases hc : cmpN a.dk a.dn a.ks b.dk b.dn b.ks = 0
          · rw [decide_eq_true hc]
            have HC := Lib.hid hc
            clear hc
            go_wp2_with fail
            refine (FS.out _ HW2.out).mono ?_
            rintro e w3 ⟨rfl, hb⟩
            have HB3 := Lib.hid (HB2.out.trans (hb.mono HB2.out.size))
            clear hb
            have hfin : decide (a.ys = b.ys) = D := by rw [← HDD.out]; exact decide_eq_decide.2 ⟨fun h => HD.out.2 ⟨E0.out, E1.out, E2.out, E3.out, HC.out, h⟩, fun h => (HD.out.1 h).2.2.2.2.2⟩
            rw [hfin]
            clear hfin
            go_wp2_with fail
            go_ret
            exact ⟨rfl, HB3.out⟩
          · rw [decide_eq_false hc]
            have hfin : D = false := by rw [← HDD.out]; exact decide_eq_false (fun h => hc (HD.out.1 h).2.2.2.2.1)
            subst hfin
            clear hc
            go_wp2_with fail
            go_ret
            exact ⟨rfl, HB2.out⟩
        · have q3 : (a.tx.toList == b.tx.toList) = false := by rw [Lib.toList_data, Lib.toList_data]; simpa using h3
          have hfin : D = false := by rw [← HDD.out]; exact decide_eq_false (fun h => h3 (HD.out.1 h).2.2.2.1)
          subst hfin
          clear h3
          go_enter Try.func40, Try.ntmps40
          go_wp2_with fail
          go_ret
          exact ⟨rfl, HB.out⟩
      · have q2 : (a.ln == b.ln) = false := by simpa using h2
        have hfin : D = false := by rw [← HDD.out]; exact decide_eq_false (fun h => h2 (HD.out.1 h).2.2.1)
        subst hfin
        clear h2
        go_enter Try.func40, Try.ntmps40
        go_wp2_with fail
        go_ret
        exact ⟨rfl, HB.out⟩
    · have q1 : (a.dN == b.dN) = false := by simpa using h1
      have hfin : D = false := by rw [← HDD.out]; exact decide_eq_false (fun h => h1 (HD.out.1 h).2.1)
      subst hfin
      clear h1
      go_enter Try.func40, Try.ntmps40
      go_wp2_with fail
      go_ret
      exact ⟨rfl, HB.out⟩
  · have q0 : (a.er == b.er) = false := by simpa using h0
    have hfin : D = false := by rw [← HDD.out]; exact decide_eq_false (fun h => h0 (HD.out.1 h).1)
    subst hfin
    clear h0
    go_enter Try.func40, Try.ntmps40
    go_wp2_with fail
    go_ret
    exact ⟨rfl, HB.out⟩
set_option maxRecDepth 100000 in
set_option maxHeartbeats 16000000 in
theorem model_alike (a b : Tl) (kv kv' : Value) (p q : Option Addr) (k j lim : Nat) (W : World) (hK : Kids W lim kv a.ks) (hK' : Kids W lim kv' b.ks) (hl : lim ≤ W.heap.size) (hx : Reads .u64 W p a.ys) (hy : Reads .u64 W q b.ys) (hn : a.ys.length ≤ 9223372036854775807) :
    Calls Try.prog 64 #[.agg #[.int .i64 a.er, .int .i64 a.dk, .int .i64 a.dn, kv, .int .i64 a.dN, .int .i64 a.ln, .string a.tx, .slice p a.ys.length k], .agg #[.int .i64 b.er, .int .i64 b.dk, .int .i64 b.dn, kv', .int .i64 b.dN, .int .i64 b.ln, .string b.tx, .slice q b.ys.length j]] W fun e w' => e = .returned (.bool (decide (TlP a b))) ∧ Below W.heap.size W w' := by
  obtain ⟨w0, hw0, r0, hB0, hs0⟩ := boxH W #[.int .i64 a.er, .int .i64 a.dk, .int .i64 a.dn, kv, .int .i64 a.dN, .int .i64 a.ln, .string a.tx, .slice p a.ys.length k] 39
  obtain ⟨w1, hw1, r1, hB1, hs1⟩ := boxH w0 #[.int .i64 b.er, .int .i64 b.dk, .int .i64 b.dn, kv', .int .i64 b.dN, .int .i64 b.ln, .string b.tx, .slice q b.ys.length j] 39
  have HB := Lib.hid (hB0.trans (hB1.mono hB0.size))
  have SM := Lib.hid (desc_same a.ks b.ks kv kv' a.dk a.dn b.dk b.dn lim w1 (hK.below hl HB.out) (hK'.below hl HB.out) (Nat.le_trans hl HB.out.size))
  have FS := Lib.hid (fun (w : World) (h : Below w1.heap.size w1 w) => eq64 p q k j a.ys b.ys w (hx.below (HB.out.trans (h.mono HB.out.size))) (hy.below (HB.out.trans (h.mono HB.out.size))) hn)
  obtain ⟨kp, km, kc, rfl, -⟩ := hK.shape
  obtain ⟨kp', km', kc', rfl, -⟩ := hK'.shape
  rw [hs0] at r1
  have HF := Lib.hid (fun (w : World) (h : Below w1.heap.size w1 w) => And.intro (cells8H ((h.block W.heap.size (by omega)).trans ((hB1.block W.heap.size (by omega)).trans r0))) (cells8H ((h.block (W.heap.size + 1) (by omega)).trans r1)))
  obtain ⟨⟨a0, a1, a2, a3, a4, a5, a6, a7⟩, c0, c1, c2, c3, c4, c5, c6, c7⟩ := HF.out w1 (Below.refl _ _)
  have HD := Lib.hid (show TlP a b ↔ (a.er = b.er ∧ a.dN = b.dN ∧ a.ln = b.ln ∧ a.tx.data.toList = b.tx.data.toList ∧ cmpN a.dk a.dn a.ks b.dk b.dn b.ks = 0 ∧ a.ys = b.ys) from Iff.rfl)
  obtain ⟨D, hD⟩ : ∃ D, decide (TlP a b) = D := ⟨_, rfl⟩
  rw [hD]
  have HDD := Lib.hid hD
  clear r0 r1 hB0 hB1 hK hK' hx hy hD
  by_cases h0 : a.er = b.er
  · have q0 : (a.er == b.er) = true := by simpa using h0
    have E0 := Lib.hid h0
    clear h0
    by_cases h1 : a.dN = b.dN
    · have q1 : (a.dN == b.dN) = true := by simpa using h1
      have E1 := Lib.hid h1
      clear h1
      by_cases h2 : a.ln = b.ln
      · have q2 : (a.ln == b.ln) = true := by simpa using h2
        have E2 := Lib.hid h2
        clear h2
        by_cases h3 : a.tx.data.toList = b.tx.data.toList
        · have q3 : (a.tx.toList == b.tx.toList) = true := by rw [Lib.toList_data, Lib.toList_data]; simpa using h3
          have E3 := Lib.hid h3
          clear h3
          go_enter Try.func64, Try.ntmps64
          go_wp2_with fail
          clear hw0 hw1 hs0 hs1 a0 a1 a2 a3 a4 a5 a6 a7 c0 c1 c2 c3 c4 c5 c6 c7
          refine SM.out.mono ?_
          rintro e w2 ⟨rfl, hb⟩
          have HB2 := Lib.hid (HB.out.trans (hb.mono HB.out.size))
          have HW2 := Lib.hid hb
          obtain ⟨⟨a0, a1, a2, a3, a4, a5, a6, a7⟩, c0, c1, c2, c3, c4, c5, c6, c7⟩ := HF.out w2 hb
          clear hb
          by_cases hc : cmpN a.dk a.dn a.ks b.dk b.dn b.ks = 0
          · rw [decide_eq_true hc]
            have HC := Lib.hid hc
            clear hc
            go_wp2_with fail
            refine (FS.out _ HW2.out).mono ?_
            rintro e w3 ⟨rfl, hb⟩
            have HB3 := Lib.hid (HB2.out.trans (hb.mono HB2.out.size))
            clear hb
            have hfin : decide (a.ys = b.ys) = D := by rw [← HDD.out]; exact decide_eq_decide.2 ⟨fun h => HD.out.2 ⟨E0.out, E1.out, E2.out, E3.out, HC.out, h⟩, fun h => (HD.out.1 h).2.2.2.2.2⟩
            rw [hfin]
            clear hfin
            go_wp2_with fail
            go_ret
            exact ⟨rfl, HB3.out⟩
          · rw [decide_eq_false hc]
            have hfin : D = false := by rw [← HDD.out]; exact decide_eq_false (fun h => hc (HD.out.1 h).2.2.2.2.1)
            subst hfin
            clear hc
            go_wp2_with fail
            go_ret
            exact ⟨rfl, HB2.out⟩
        · have q3 : (a.tx.toList == b.tx.toList) = false := by rw [Lib.toList_data, Lib.toList_data]; simpa using h3
          have hfin : D = false := by rw [← HDD.out]; exact decide_eq_false (fun h => h3 (HD.out.1 h).2.2.2.1)
          subst hfin
          clear h3
          go_enter Try.func64, Try.ntmps64
          go_wp2_with fail
          go_ret
          exact ⟨rfl, HB.out⟩
      · have q2 : (a.ln == b.ln) = false := by simpa using h2
        have hfin : D = false := by rw [← HDD.out]; exact decide_eq_false (fun h => h2 (HD.out.1 h).2.2.1)
        subst hfin
        clear h2
        go_enter Try.func64, Try.ntmps64
        go_wp2_with fail
        go_ret
        exact ⟨rfl, HB.out⟩
    · have q1 : (a.dN == b.dN) = false := by simpa using h1
      have hfin : D = false := by rw [← HDD.out]; exact decide_eq_false (fun h => h1 (HD.out.1 h).2.1)
      subst hfin
      clear h1
      go_enter Try.func64, Try.ntmps64
      go_wp2_with fail
      go_ret
      exact ⟨rfl, HB.out⟩
  · have q0 : (a.er == b.er) = false := by simpa using h0
    have hfin : D = false := by rw [← HDD.out]; exact decide_eq_false (fun h => h0 (HD.out.1 h).1)
    subst hfin
    clear h0
    go_enter Try.func64, Try.ntmps64
    go_wp2_with fail
    go_ret
    exact ⟨rfl, HB.out⟩
end Go.Proofs.Ytofgkhoemgimeaa
