/- law 37: more than is asked? -/
import Derived.Test.YtofgkhoemgimeaaHoc
namespace Go.Proofs.Ytofgkhoemgimeaa
open Go.ChangeShapes Go.WideShapes Go.ChangeAt Go.RowKit
set_option linter.unusedVariables false
set_option linter.unusedSimpArgs false
def gr1 (x : Ov) : Bool := decide (80 < x.t.ks.cnt + 1) || decide (50 < x.t.ys.length) || decide (50 < x.xs.length)
def gN (l : List Ov) : Bool := (l.take 60).any gr1 || decide (40 < l.length)
theorem gN_in {l : List Ov} {k : Nat} {x : Ov} (hk : k < 60) (hx : l[k]? = some x) (hg : gr1 x = true) : gN l = true := by
  have : x ∈ l.take 60 := List.mem_of_getElem? (i := k) (by rw [List.getElem?_take, if_pos hk]; exact hx)
  rw [gN, List.any_eq_true.2 ⟨x, this, hg⟩, Bool.true_or]
theorem any_take_step {l : List Ov} {k : Nat} {x : Ov} (hx : l[k]? = some x) (h : (l.take k).any gr1 = false) (hg : gr1 x = false) : (l.take (k + 1)).any gr1 = false := by
  rw [List.take_add_one, List.any_append, h, hx]
  simp [hg]
set_option maxRecDepth 100000 in
set_option maxHeartbeats 16000000 in
theorem l37_great (l : List Ov) (v : Value) (lim : Nat) (W : World) (h : RowOv W lim v l) (hN : ∀ x ∈ l, x.t.ks.cnt ≤ 1048576) (hl : lim ≤ W.heap.size) (hn : l.length ≤ 1000000000) :
    Calls Try.prog 7 #[v] W fun e w' => e = .returned (.bool (gN l)) ∧ Below W.heap.size W w' := by
  obtain ⟨p, c, rfl, hp⟩ := id h
  have HP := Lib.hid hp
  have HL := Lib.hid hl
  have HN := Lib.hid hn
  have HC := Lib.hid hN
  obtain ⟨n, hnl⟩ : ∃ n, l.length = n := ⟨_, rfl⟩
  have HNL := Lib.hid hnl
  obtain ⟨D, hD⟩ : ∃ D, gN l = D := ⟨_, rfl⟩
  have HD := Lib.hid hD
  rw [hD, hnl]
  clear h hp hl hn hN hnl hD
  go_enter Try.func7, Try.ntmps7
  go_wp2_with fail
  go_loopw [3] (fun j wr => ∃ k : Nat, j = .int .i64 k ∧ Hid (k ≤ n) ∧ Hid (k ≤ 60) ∧ Hid ((l.take k).any gr1 = false) ∧ Hid (Below W.heap.size W wr)) (fun j _ => n - (intOf j).toNat)
  case atStart => exact ⟨0, rfl, Lib.hid (Nat.zero_le _), Lib.hid (Nat.zero_le _), Lib.hid rfl, Lib.hid (Below.refl _ _)⟩
  case round =>
    obtain ⟨k, rfl, HK, HK6, HA, HB⟩ := hrel
    obtain ⟨x1, rfl⟩ : ∃ w, w = wr := ⟨_, rfl⟩
    have HE := Lib.hid (fun (h9 : n ≤ k ∨ 60 ≤ k) => show D = decide (40 < n) by
      have h1 : (l.take 60).any gr1 = false := by
        rcases h9 with h9 | h9
        · have h2 : l.take 60 = l.take k := by
            have := HNL.out; have := HK6.out
            rw [List.take_of_length_le (show l.length ≤ 60 by omega), List.take_of_length_le (show l.length ≤ k by omega)]
          rw [h2]; exact HA.out
        · have : k = 60 := by have := HK6.out; omega
          rw [← this]; exact HA.out
      rw [← HD.out, gN, h1, HNL.out, Bool.false_or])
    by_cases hk : k < n
    · have hki : (k : Int) < (n : Int) := by omega
      by_cases h60 : k < 60
      · have hk60 : (k : Int) < 60 := by omega
        have hk0 : (0 : Int) ≤ (k : Int) := by omega
        have HKL := Lib.hid hk
        have HK60 := Lib.hid h60
        have WK := Lib.hid (show wrap64 ((k : Int) + 1) = ((k + 1 : Nat) : Int) by have := HK6.out; simp only [wrap64]; omega)
        obtain ⟨a, ha⟩ : ∃ a, l[k]? = some a := ⟨_, List.getElem?_eq_getElem (by rw [HNL.out]; exact hk)⟩
        rcases HP.out with h0 | ⟨g1, o1, rfl, hg1, hc1⟩
        · have := HNL.out; rw [h0] at this; simp at this; omega
        obtain ⟨cs, hva, hca⟩ := (hc1 k a ha).below HL.out HB.out hg1
        obtain ⟨ap, ap2, akp, ak, ak2, akm, akc, rfl, a2, a3, a4, a5, a6, a7⟩ := hva
        have hgx := Nat.lt_of_lt_of_le hg1 HB.out.size
        have hl1 : lim ≤ x1.heap.size := Nat.le_trans HL.out HB.out.size
        have CM := Lib.hid (r13_much a.t.ks (.slice akp akm akc) a.t.dk a.t.dn lim x1 (HC.out a (List.mem_of_getElem? ha)) a2 hl1)
        have m10 := hca 10 (.int .i64 a.t.dk) rfl
        have m11 := hca 11 (.int .i64 a.t.dn) rfl
        have m12 := hca 12 (.slice akp akm akc) rfl
        have HM := Lib.hid (fun (w : World) (hb : Below x1.heap.size x1 w) => And.intro ((hb.cell (p := ⟨g1, o1 + k * 19 + 16, none⟩) hgx).trans (hca 16 (.slice ap2 a.t.ys.length ak2) rfl)) ((hb.cell (p := ⟨g1, o1 + k * 19 + 8, none⟩) hgx).trans (hca 8 (.slice ap a.xs.length ak) rfl)))
        have HG := Lib.hid (fun hg => gN_in h60 ha hg)
        have HS := Lib.hid (fun hg => any_take_step ha HA.out hg)
        have HR := Lib.hid (show gr1 a = (decide (80 < a.t.ks.cnt + 1) || decide (50 < a.t.ys.length) || decide (50 < a.xs.length)) from rfl)
        obtain ⟨n1, hn1⟩ : ∃ n1, a.t.ks.cnt + 1 = n1 := ⟨_, rfl⟩
        obtain ⟨n2, hn2⟩ : ∃ n2, a.t.ys.length = n2 := ⟨_, rfl⟩
        obtain ⟨n3, hn3⟩ : ∃ n3, a.xs.length = n3 := ⟨_, rfl⟩
        rw [hn1] at CM HR
        rw [hn2] at HM HR
        rw [hn3] at HM HR
        clear hn1 hn2 hn3 a2 a3 a4 a5 a6 a7 hca ha hk hc1 hl1
        go_wp2_with fail
        refine CM.out.mono ?_
        rintro e x2 ⟨rfl, hb⟩
        obtain ⟨m16, m8⟩ := HM.out x2 hb
        have HB2 := Lib.hid (HB.out.trans (hb.mono HB.out.size))
        clear hb m10 m11 m12
        by_cases g1' : 80 < n1
        · have hfin : D = true := by rw [← HD.out]; exact HG.out (by rw [HR.out]; simp [g1'])
          subst hfin
          rw [decide_eq_true g1']
          clear g1'
          go_wp2_with fail
          go_ret
          exact ⟨rfl, HB2.out⟩
        · rw [decide_eq_false g1']
          by_cases g2' : 50 < n2
          · have hfin : D = true := by rw [← HD.out]; exact HG.out (by rw [HR.out]; simp [g2'])
            subst hfin
            have hq2 : (50 : Int) < (n2 : Int) := by omega
            clear g1' g2'
            go_wp2_with fail
            go_ret
            exact ⟨rfl, HB2.out⟩
          · have hq2 : ¬ (50 : Int) < (n2 : Int) := by omega
            by_cases g3' : 50 < n3
            · have hfin : D = true := by rw [← HD.out]; exact HG.out (by rw [HR.out]; simp [g3'])
              subst hfin
              have hq3 : (50 : Int) < (n3 : Int) := by omega
              clear g1' g2' g3'
              go_wp2_with fail
              go_ret
              exact ⟨rfl, HB2.out⟩
            · have hq3 : ¬ (50 : Int) < (n3 : Int) := by omega
              have HA2 := Lib.hid (HS.out (by rw [HR.out]; simp [g1', g2', g3']))
              clear g1' g2' g3'
              go_wp2_with fail
              go_roundw
              case rel => exact ⟨k + 1, by first | rw [WK.out] | simp, Lib.hid HKL.out, Lib.hid HK60.out, HA2, HB2⟩
              case measure => first | (rw [WK.out]; have := HKL.out; simp only [intOf]; omega) | (have := HKL.out; simp only [intOf]; omega)
      · have hk60 : ¬ (k : Int) < 60 := by omega
        have hfin := HE.out (.inr (by omega))
        have HF := Lib.hid hfin
        clear hfin hk h60
        by_cases h40 : 40 < n
        · have hq : (40 : Int) < (n : Int) := by omega
          rw [decide_eq_true h40] at HF
          obtain rfl := HF.out
          clear h40
          go_wp2_with fail
          go_ret
          exact ⟨rfl, HB.out⟩
        · have hq : ¬ (40 : Int) < (n : Int) := by omega
          rw [decide_eq_false h40] at HF
          obtain rfl := HF.out
          clear h40
          go_wp2_with fail
          go_ret
          exact ⟨rfl, HB.out⟩
    · have hki : ¬ (k : Int) < (n : Int) := by omega
      have HF := Lib.hid (HE.out (.inl (by omega)))
      clear hk
      by_cases h40 : 40 < n
      · have hq : (40 : Int) < (n : Int) := by omega
        rw [decide_eq_true h40] at HF
        obtain rfl := HF.out
        clear h40
        go_wp2_with fail
        go_ret
        exact ⟨rfl, HB.out⟩
      · have hq : ¬ (40 : Int) < (n : Int) := by omega
        rw [decide_eq_false h40] at HF
        obtain rfl := HF.out
        clear h40
        go_wp2_with fail
        go_ret
        exact ⟨rfl, HB.out⟩
end Go.Proofs.Ytofgkhoemgimeaa
