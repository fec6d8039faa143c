/- lru: slices.Delete of one element of a row of pointers. By program (genlrd.py). -/
import Derived.Test.YtncpikaegcookaaLrr
import Derived.Deep.Cut
namespace Go.Proofs.Ytncpikaegcookaa
open Go.ChangeShapes Go.WideShapes Go.ChangeAt Go.RowKit
set_option linter.unusedVariables false
set_option linter.unusedSimpArgs false
/-- The row behind it. -/
def delL (L : List Value) (n i : Nat) : List Value := (L.take n).eraseIdx i ++ nilP :: L.drop n
theorem delL_mid {L : List Value} {n i : Nat} (hi : i < n) (hn : n ≤ L.length) : ((L.take i ++ (L.take n).drop (i + 1) ++ L.drop (i + ((L.take n).drop (i + 1)).length)).take (n - 1)) ++ [nilP] ++ ((L.take i ++ (L.take n).drop (i + 1) ++ L.drop (i + ((L.take n).drop (i + 1)).length)).drop (n - 1 + 1)) = delL L n i := by
  have h1 : (L.take i).length = i := by rw [List.length_take]; omega
  have h2 : ((L.take n).drop (i + 1)).length = n - (i + 1) := by rw [List.length_drop, List.length_take]; omega
  have h3 : (L.take i ++ (L.take n).drop (i + 1)).length = n - 1 := by rw [List.length_append, h1, h2]; omega
  unfold delL
  rw [h2, List.eraseIdx_eq_take_drop_succ, List.take_take, Nat.min_eq_left (by omega), show i + (n - (i + 1)) = n - 1 by omega]
  generalize L.take i ++ (L.take n).drop (i + 1) = A at h3 ⊢
  rw [List.take_left' h3, List.drop_append, List.drop_of_length_le (by omega), List.nil_append, List.drop_drop, h3, show n - 1 + (n - 1 + 1 - (n - 1)) = n by omega, List.append_assoc, List.singleton_append]
set_option maxRecDepth 100000 in
set_option maxHeartbeats 8000000 in
theorem l_delete (F n cap i : Nat) (L : List Value) (W : World) (h : FB W F L) (hL : L.length = cap) (hn : n ≤ cap) (hi : i < n) (hcap : cap ≤ 9223372036854775807) (h1 : ∀ v ∈ L, v.oneCell' = true) :
    Calls Try.prog 31 #[.slice (some ⟨F, 0, none⟩) n cap, .int .i64 i, .int .i64 ((i + 1 : Nat) : Int)] W fun e w' =>
      e = .returned (.slice (some ⟨F, 0, none⟩) (n - 1) cap) ∧ FB w' F (delL L n i) ∧ But W w' F := by
  obtain ⟨news, hnews⟩ : ∃ news, (L.take n).drop (i + 1) = news := ⟨_, rfl⟩
  have hnl : news.length = n - (i + 1) := by rw [← hnews, List.length_drop, List.length_take]; omega
  obtain ⟨i0, hi0, hz0, hs0, hb0⟩ := info_p'
  obtain ⟨A, hA, hsrc⟩ : ∃ A : Addr, (if cap = i + 1 then some (⟨F, 0, none⟩ : Addr) else some ⟨F, i + 1, none⟩) = some A ∧ ∀ t u, news[t]? = some u → W.drew.cell? (A.add t) = some u := by
    by_cases hc : cap = i + 1
    · refine ⟨⟨F, 0, none⟩, by rw [if_pos hc], fun t u hu => ?_⟩
      have := (List.getElem?_eq_some_iff.1 hu).1
      omega
    · refine ⟨⟨F, i + 1, none⟩, by rw [if_neg hc], fun t u hu => ?_⟩
      rw [Addr.add_mid]
      have ht := (List.getElem?_eq_some_iff.1 hu).1
      rw [← hnews, List.getElem?_drop, List.getElem?_take] at hu
      rw [if_pos (by omega)] at hu
      exact h.cell hu
  have hS : Src Try.prog i0.size 49 (.slice (some A) (n - (i + 1)) (cap - (i + 1))) (n - (i + 1)) news W.drew :=
    Src.ofSlice W.drew Try.underlying49 A _ _ news (by rw [hs0]; omega) hsrc (fun u hu => h1 u (by rw [← hnews] at hu; exact List.mem_of_mem_take (List.mem_of_mem_drop hu)))
  have hap : ∀ ty, (Builtin.append_ #[49, 49] ty #[.slice (some ⟨F, 0, none⟩) i cap, .slice (some A) (n - (i + 1)) (cap - (i + 1))]).run Try.prog W.drew = .ok (.slice (some ⟨F, 0, none⟩) (i + (n - (i + 1))) cap) (W.drew.setCells F i news) := fun ty => by
    have := run_append_room_src (P := Try.prog) W.drew 49 49 ty 52 i0 Try.underlying49 hi0 F 0 i cap _ _ news hS (by omega) (fun j hj => by
      rw [hs0]; exact (show (W.cell? ⟨F, 0 + i * 1 + j, none⟩).isSome = true from by rw [show 0 + i * 1 + j = i + j by omega]; exact h.some (by omega))) (fun j hj => h.free _)
    rw [hs0, show 0 + i * 1 = i by omega] at this
    exact this
  obtain ⟨W1, hW1⟩ : ∃ W1, W.drew.setCells F i news = W1 := ⟨_, rfl⟩
  rw [hW1] at hap
  have hF1 : FB W1 F (L.take i ++ news ++ L.drop (i + news.length)) := by
    rw [← hW1]; exact FB.set news i (show FB W.drew F L from h) (by omega)
  have hl1 : (L.take i ++ news ++ L.drop (i + news.length)).length = cap := by
    rw [List.length_append, List.length_append, List.length_take, List.length_drop]; omega
  have hB1 : But W W1 F := by rw [← hW1]; exact (But.drew W F).trans (But.cells F news i _)
  have hcl : ∀ ty, (Builtin.clear_ #[49] ty #[.slice (some ⟨F, n - 1, none⟩) 1 (cap - (n - 1))]).run Try.prog W1 = .ok (.tuple #[]) (W1.setCells F (n - 1) [nilP]) := fun ty =>
    Lib.run_clear_slice W1 _ 52 ty nilP Try.underlying49 zero_p rfl rfl F (n - 1) 1 _ (by decide) (fun j hj => by
      obtain rfl : j = 0 := by omega
      exact hF1.some (by omega)) (fun j hj => hF1.free _)
  have E := Lib.hid (show FB (W1.setCells F (n - 1) [nilP]) F (delL L n i) ∧ But W (W1.setCells F (n - 1) [nilP]) F from by
    have := FB.set [nilP] (n - 1) hF1 (by rw [hl1]; simp; omega)
    rw [List.length_singleton, ← hnews, delL_mid hi (by omega)] at this
    exact ⟨this, hB1.trans (But.cells F [nilP] (n - 1) W1)⟩)
  have HF := Lib.hid h.lt
  have HAP := Lib.hid hap
  have HCL := Lib.hid hcl
  have HW1 := Lib.hid hW1
  have hj0 : (0 : Int) ≤ (i : Int) + 1 := by omega
  have hj1 : (i : Int) + 1 ≤ (n : Int) := by omega
  have e1 : i + (n - (i + 1)) = n - 1 := by omega
  have hc1 : ¬ (cap = n - 1) := by omega
  have hic : i ≤ cap := by omega
  have hic1 : i + 1 ≤ cap := by omega
  have hin1 : i + 1 ≤ n := by omega
  have WR : wrap64 ((i : Int) + 1) = ((i + 1 : Nat) : Int) := by simp only [wrap64]; omega
  clear h hL hsrc hS hap hF1 hB1 hcl hW1 hnews hnl hl1 h1 hs0 hb0 hz0
  go_enter Try.func31, Try.ntmps31
  go_upto_region 5 with fail
  refine region_gate (fun w' => w' = W.drew) 6 (by kernel_rfl) rfl (fun hHeld => ?_)
  refine gate_takeF (i := 0) (v := ?v1) rfl (by kernel_rfl) (by kernel_rfl) (by kernel_rfl) (by kernel_rfl) (fun _ _ _ h => h) (Or.inl ⟨by rfl, ?hy1⟩) (by assumption) ?rest1
  case hy1 => intro w hSw; clear hSw; go_simp; (first | done | with_reducible rfl)
  (try simp only [Act.put, List.getElem_toArray, List.getElem_cons_zero, List.getElem_cons_succ, List.setIfInBounds_toArray, List.set_cons_zero, List.set_cons_succ])
  refine gate_takeF (i := 1) (v := ?v2) rfl (by kernel_rfl) (by kernel_rfl) (by kernel_rfl) (by kernel_rfl) (fun _ _ _ h => h) (Or.inl ⟨by rfl, ?hy2⟩) (by assumption) ?rest2
  case hy2 => intro w hSw; clear hSw; go_simp; (first | done | with_reducible rfl)
  (try simp only [Act.put, List.getElem_toArray, List.getElem_cons_zero, List.getElem_cons_succ, List.setIfInBounds_toArray, List.set_cons_zero, List.set_cons_succ])
  refine gate_takeF (i := 2) (v := ?v3) rfl (by kernel_rfl) (by kernel_rfl) (by kernel_rfl) (by kernel_rfl) (fun _ _ _ h => h) (Or.inl ⟨by rfl, ?hy3⟩) (by assumption) ?rest3
  case hy3 => intro w hSw; clear hSw; go_simp; (first | done | with_reducible rfl)
  (try simp only [Act.put, List.getElem_toArray, List.getElem_cons_zero, List.getElem_cons_succ, List.setIfInBounds_toArray, List.set_cons_zero, List.set_cons_succ])
  refine gate_takeF (i := 3) (v := ?v4) rfl (by kernel_rfl) (by kernel_rfl) (by kernel_rfl) (by kernel_rfl) (fun _ _ _ h => h) (Or.inl ⟨by rfl, ?hy4⟩) (by assumption) ?rest4
  case hy4 => intro w hSw; clear hSw; go_simp; (first | done | with_reducible rfl)
  (try simp only [Act.put, List.getElem_toArray, List.getElem_cons_zero, List.getElem_cons_succ, List.setIfInBounds_toArray, List.set_cons_zero, List.set_cons_succ])
  refine gate_takeF (i := 4) (v := ?v5) rfl (by kernel_rfl) (by kernel_rfl) (by kernel_rfl) (by kernel_rfl) (fun _ _ _ h => h) (Or.inl ⟨by rfl, ?hy5⟩) (by assumption) ?rest5
  case hy5 => intro w hSw; clear hSw; go_simp; (first | done | with_reducible rfl)
  (try simp only [Act.put, List.getElem_toArray, List.getElem_cons_zero, List.getElem_cons_succ, List.setIfInBounds_toArray, List.set_cons_zero, List.set_cons_succ])
  refine gate_takeF (i := 5) (v := ?v6) rfl (by kernel_rfl) (by kernel_rfl) (by kernel_rfl) (by kernel_rfl) (fun _ _ _ h => h) (Or.inl ⟨by rfl, ?hy6⟩) (by assumption) ?rest6
  case hy6 => intro w hSw; clear hSw; go_simp; (first | done | with_reducible rfl)
  (try simp only [Act.put, List.getElem_toArray, List.getElem_cons_zero, List.getElem_cons_succ, List.setIfInBounds_toArray, List.set_cons_zero, List.set_cons_succ])
  refine gate_past (i := 6) rfl (by kernel_rfl) (by kernel_rfl) (fun K hK => ?_)
  refine step_app rfl _ _ _ _ rfl _ _ rfl rfl (HAP.out _) ?_
  refine hK.out _ _ ?_
  clear hK K
  (try simp only [Act.put, List.getElem_toArray, List.getElem_cons_zero, List.getElem_cons_succ, List.setIfInBounds_toArray, List.set_cons_zero, List.set_cons_succ])
  refine gate_past (i := 7) rfl (by kernel_rfl) (by kernel_rfl) (fun K hK => ?_)
  go_simp
  refine hK.out _ _ ?_
  clear hK K
  (try simp only [Act.put, List.getElem_toArray, List.getElem_cons_zero, List.getElem_cons_succ, List.setIfInBounds_toArray, List.set_cons_zero, List.set_cons_succ])
  refine gate_done (by kernel_rfl) ?_ _
  have hcl := HCL.out
  have e2 : n - (n - 1) = 1 := by omega
  have e3 : n - 1 ≤ n := by omega
  clear hHeld hA
  go_wp2_with fail
  go_ret
  exact ⟨rfl, E.out.1, E.out.2⟩
end Go.Proofs.Ytncpikaegcookaa
