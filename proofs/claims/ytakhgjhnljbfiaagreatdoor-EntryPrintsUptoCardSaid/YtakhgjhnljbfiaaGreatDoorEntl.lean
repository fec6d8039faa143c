/- An entry's printed line is that entry's line: its three words. -/
import Derived.Test.YtakhgjhnljbfiaaGreatDoorEntp
namespace Go.Proofs.YtakhgjhnljbfiaaGreatDoor
open Go.ChangeShapes Go.WideShapes Go.ChangeAt Go.RowKit
set_option linter.unusedVariables false
set_option linter.unusedSimpArgs false
theorem wrd_signs : ∀ i : Fin 8, ∀ b ∈ (wrd i.val).data.toList, 97 ≤ b.toNat ∧ b.toNat ≤ 122 := by decide +kernel
def gdB (b : UInt8) : Prop := okB b = true ∧ b ≠ 32
theorem gdB_of {b : UInt8} (h : 33 ≤ b.toNat ∧ b.toNat ≤ 126) : gdB b :=
  ⟨decide_eq_true (by omega), fun e => by subst e; exact absurd h.1 (by decide)⟩
theorem dec_gd (n : Nat) : ∀ b ∈ Lib.decDigits n, gdB b := fun b hb => by
  have := dec_dig n b hb; exact gdB_of (by omega)
theorem hdB_gd {k n : Int} (h : okT1 k n) : ∀ b ∈ hdB k n, gdB b := fun b hb => by
  rcases List.mem_append.1 hb with hb | hb
  · have := wrd_signs ⟨k.toNat, by have := h.1; omega⟩ b (by
      show b ∈ (wrd ((k.toNat : Nat) : Int)).data.toList
      rw [Int.toNat_of_nonneg (by have := h.1; omega)]; exact hb)
    exact gdB_of (by omega)
  · exact dec_gd _ b hb
theorem txB_gd : ∀ f : Fo, f.okT → ∀ b ∈ txB f, gdB b := by
  intro f
  induction f with
  | nil => intro _ b hb; cases hb
  | cons k n ks r i1 i2 =>
    rintro ⟨h1, h2, h3⟩ b hb
    have e : txB (.cons k n ks r) = hdB k n ++ ((if ks.len = 0 then [] else 40 :: (txB ks ++ [41])) ++ (if r.len = 0 then [] else 44 :: txB r)) := rfl
    rw [e] at hb
    rcases List.mem_append.1 hb with hb | hb
    · exact hdB_gd h1 b hb
    rcases List.mem_append.1 hb with hb | hb
    · by_cases hl : ks.len = 0
      · rw [if_pos hl] at hb; cases hb
      · rw [if_neg hl] at hb
        rcases List.mem_cons.1 hb with rfl | hb
        · exact gdB_of (by decide)
        rcases List.mem_append.1 hb with hb | hb
        · exact i1 h2 b hb
        · rw [List.mem_singleton] at hb; subst hb; exact gdB_of (by decide)
    · by_cases hl : r.len = 0
      · rw [if_pos hl] at hb; cases hb
      · rw [if_neg hl] at hb
        rcases List.mem_cons.1 hb with rfl | hb
        · exact gdB_of (by decide)
        · exact i2 h3 b hb
theorem splA_end (p : List UInt8) : ∀ cur, (∀ b ∈ p, gdB b) → splA cur p = [cur ++ p] := by
  induction p with
  | nil => intro cur _; simp [splA]
  | cons b l ih =>
    intro cur h
    unfold splA
    rw [if_neg (h b (List.mem_cons_self ..)).2, ih _ (fun x hx => h x (List.mem_cons_of_mem _ hx))]
    simp
theorem splA_word (p l : List UInt8) : ∀ cur, (∀ b ∈ p, gdB b) → splA cur (p ++ 32 :: l) = (cur ++ p) :: splA [] l := by
  induction p with
  | nil => intro cur _; simp [splA]
  | cons b q ih =>
    intro cur h
    rw [List.cons_append, splA, if_neg (h b (List.mem_cons_self ..)).2, ih _ (fun x hx => h x (List.mem_cons_of_mem _ hx))]
    simp
theorem dec_ne (n : Nat) : Lib.decDigits n ≠ [] := fun h => by
  obtain ⟨b, r, e, -⟩ := dec_head n
  rw [e] at h; cases h
theorem ln_words {a b k n : Int} {ks : Fo} (hok : (Fo.cons k n ks .nil).okT) : wds (lnB a b k n ks) = some [Lib.decDigits a.toNat, Lib.decDigits b.toNat, ndB k n ks] := by
  have ga := dec_gd a.toNat
  have gb := dec_gd b.toNat
  have gt : ∀ x ∈ ndB k n ks, gdB x := txB_gd _ hok
  have hs : splA [] (lnB a b k n ks) = [Lib.decDigits a.toNat, Lib.decDigits b.toNat, ndB k n ks] := by
    unfold lnB
    rw [splA_word _ _ _ ga, splA_word _ _ _ gb, splA_end _ _ gt]
    rfl
  have hne : lnB a b k n ks ≠ [] := fun h => by
    unfold lnB at h
    exact dec_ne _ (List.append_eq_nil_iff.1 h).1
  have hnd : ndB k n ks ≠ [] := fun h => by
    have := tx_cntB hok
    rw [show txB (.cons k n ks .nil) = ndB k n ks from rfl, h] at this
    simp at this
  have hall : (lnB a b k n ks).all okB = true := by
    refine List.all_eq_true.2 fun x hx => ?_
    unfold lnB at hx
    rcases List.mem_append.1 hx with hx | hx
    · exact (ga x hx).1
    rcases List.mem_cons.1 hx with rfl | hx
    · rfl
    rcases List.mem_append.1 hx with hx | hx
    · exact (gb x hx).1
    rcases List.mem_cons.1 hx with rfl | hx
    · rfl
    · exact (gt x hx).1
  unfold wds
  rw [if_neg hne, hall, hs]
  have h1 := dec_ne a.toNat
  have h2 := dec_ne b.toNat
  simp [h1, h2, hnd]
/-- The line is read as that entry. -/
theorem ln_ent {s : ByteArray} {a b k n : Int} {ks : Fo} (hs : s.data.toList = lnB a b k n ks) (hf : fori a b n (chkd k n ks) = 0) : Ent s a b k n ks ∧ ecode s = 0 ∧ s.size ≤ 1100 := by
  obtain ⟨⟨ha1, ha2⟩, hb01, hck, hna⟩ := fori_zero hf
  obtain ⟨hbg, hok⟩ := chk_okT hck
  have hw := ln_words (a := a) (b := b) hok
  rw [← hs] at hw
  have hle := txB_le _ hok
  have e4 : (Fo.cons k n ks .nil).cnt = ks.cnt + 0 + 1 := rfl
  have hcn : ks.cnt + 1 ≤ 60 := by
    unfold bigT at hbg; omega
  have hla := (dec_len (n := a.toNat) (by omega)).2
  have hlb := (dec_len (n := b.toNat) (by omega)).2
  have hnl : (ndB k n ks).length ≤ 1020 := by
    show (txB _).length ≤ _
    omega
  obtain ⟨pa, va⟩ := dec_isN (n := a.toNat) (by omega) (baL (Lib.decDigits a.toNat)) (baL_list _)
  obtain ⟨pb, vb⟩ := dec_isN (n := b.toNat) (by omega) (baL (Lib.decDigits b.toNat)) (baL_list _)
  have ht : Tree (baL (ndB k n ks)) k n ks := ⟨hok, baL_list _⟩
  have hz : ¬ 4096 < (baL (ndB k n ks)).size := by rw [Lib.size_eq, baL_list]; omega
  have hp := prs_ok hz ht hbg
  have ea : a = ((vl (baL (Lib.decDigits a.toNat)) (baL (Lib.decDigits a.toNat)).size : Nat) : Int) := by rw [va]; omega
  have eb : b = ((vl (baL (Lib.decDigits b.toNat)) (baL (Lib.decDigits b.toNat)).size : Nat) : Int) := by rw [vb]; omega
  refine ⟨⟨⟨_, _, _, hw, pa, pb, ea, eb, ht⟩, hf⟩, ?_, ?_⟩
  · rw [ec_for hw pa pb hp ht, ← ea, ← eb]; exact hf
  · rw [Lib.size_eq, hs]
    unfold lnB
    simp only [List.length_append, List.length_cons]
    omega
end Go.Proofs.YtakhgjhnljbfiaaGreatDoor
