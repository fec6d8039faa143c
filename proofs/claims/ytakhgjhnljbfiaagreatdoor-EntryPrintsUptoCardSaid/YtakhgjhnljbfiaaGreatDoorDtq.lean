/- dtext.Print; the reference's Big, Check, Text. -/
import Derived.Test.YtakhgjhnljbfiaaGreatDoorDta
namespace Go.Proofs.YtakhgjhnljbfiaaGreatDoor
open Go.ChangeShapes Go.WideShapes Go.ChangeAt Go.RowKit
set_option linter.unusedVariables false
set_option linter.unusedSimpArgs false
attribute [local go_sem ↓] Go.wp_at_zero Go.wp_at_succ
/-- What Print tells. -/
def PrtOk (k n : Int) (ks : Fo) (W : World) (e : Ending) (w' : World) : Prop := Below W.heap.size W w' ∧
  ((bigT ks ∧ e = .returned (.tuple #[.string ⟨#[]⟩, .int .i64 12])) ∨ (¬ bigT ks ∧ ¬ (Fo.cons k n ks .nil).okT ∧ e = .returned (.tuple #[.string ⟨#[]⟩, .int .i64 8])) ∨
    (¬ bigT ks ∧ (Fo.cons k n ks .nil).okT ∧ ∃ s : ByteArray, s.data.toList = ndB k n ks ∧ e = .returned (.tuple #[.string s, .int .i64 0])))
theorem ndB_ne (k n : Int) (ks : Fo) (h : okT1 k n) : ndB k n ks ≠ [] := fun e => by
  have h1 := hdB_len k n h
  rw [ndB_eq] at e
  rw [(List.append_eq_nil_iff.1 e).1] at h1
  simp at h1
set_option maxRecDepth 100000 in
set_option maxHeartbeats 8000000 in
theorem d_print (ks : Fo) (v : Value) (k n : Int) (lim : Nat) (W : World) (hK : Kids W lim v ks) (hl : lim ≤ W.heap.size) (hwf : ks.wf) (wn : -9223372036854775808 ≤ n ∧ n ≤ 9223372036854775807) (hT : Lib.TabIs Tryz.prog W "internal/strconv.uint64pow10" .u64 Lib.pow10Tab) :
    Calls Tryz.prog 26 #[.agg #[.int .i64 k, .int .i64 n, v]] W (PrtOk k n ks W) := by
  obtain ⟨p, m, c, rfl, hc1, hc2, HM⟩ := hK.shape
  obtain ⟨w0, hw0, c0, c1, c2, hB0, hs0⟩ := box3 W k n (.slice p m c) 26
  have hK0 := hK.below hl hB0
  have BG := bulk_big ks (.slice p m c) k n lim w0 hK0 (by omega)
  have hT0 := pow10_below hT hB0
  have HW0 := Lib.hid hw0
  clear hw0 hK hT
  by_cases hb : bigT ks
  · have hb' : 60 < ks.cnt + 1 ∨ 12 < ks.depth + 1 := hb
    rw [decide_eq_true hb'] at BG
    have HBB := Lib.hid hb
    clear hb hb' HM
    go_enter Tryz.func26, Tryz.ntmps26
    go_wp2_with fail
    rw [← HW0.out]
    refine BG.mono ?_
    rintro e w1 ⟨rfl, hb1⟩
    go_wp2_with fail
    go_ret2
    exact ⟨hB0.trans (hb1.mono hB0.size), .inl ⟨HBB.out, rfl⟩⟩
  · have hb' : ¬ (60 < ks.cnt + 1 ∨ 12 < ks.depth + 1) := hb
    rw [decide_eq_false hb'] at BG
    have HBB := Lib.hid hb
    have hcnt : ks.cnt ≤ 60 := by omega
    clear hb hb' HM
    go_enter Tryz.func26, Tryz.ntmps26
    go_wp2_with fail
    rw [← HW0.out]
    refine BG.mono ?_
    rintro e w1 ⟨rfl, hb1⟩
    have hz1 := hb1.size
    have hK1 := hK0.below (by omega) hb1
    have hT1 := pow10_below hT0 hb1
    have AD := d_add 60 ks (.slice p m c) (.slice none 0 0) k n lim w1.heap.size [] w1 hcnt (by decide) hK1 (by omega) (Nat.le_refl _) (pow10_lt hT1) hT1 (OwnB.nil _ _) hwf wn (by simp; omega)
    have HB1 := Lib.hid (hB0.trans (hb1.mono hB0.size))
    have d0 := (hb1.cell (p := ⟨W.heap.size, 0, none⟩) (show W.heap.size < w0.heap.size by omega)).trans c0
    have d1 := (hb1.cell (p := ⟨W.heap.size, 1, none⟩) (show W.heap.size < w0.heap.size by omega)).trans c1
    have d2 := (hb1.cell (p := ⟨W.heap.size, 2, none⟩) (show W.heap.size < w0.heap.size by omega)).trans c2
    clear c0 c1 c2 BG HW0 hb1 hK1 hT1 hK0 hT0 hB0
    go_wp2_with fail
    refine AD.mono ?_
    rintro e w2 ⟨hb2, -, hcase⟩
    have HB2 := Lib.hid (HB1.out.trans (hb2.mono HB1.out.size))
    clear d0 d1 d2 AD hb2 HB1
    rcases hcase with ⟨hok, tv, rfl, hO⟩ | ⟨hno, rfl⟩
    · obtain ⟨ta, tn, tc, rfl⟩ := hO.form
      rw [List.nil_append] at hO
      have hcv := hO.text (ndB_ne k n ks hok.1) w2 rfl
      obtain ⟨s, hs⟩ : ∃ s : ByteArray, (⟨(ndB k n ks).toArray⟩ : ByteArray) = s := ⟨_, rfl⟩
      have HS : Hid (s.data.toList = ndB k n ks) := Lib.hid (by rw [← hs])
      rw [hs] at hcv
      have HOK := Lib.hid hok
      clear hs hok hO
      go_wp2_with fail
      go_ret2
      exact ⟨HB2.out, .inr (.inr ⟨HBB.out, HOK.out, s, HS.out, rfl⟩)⟩
    · have HNO := Lib.hid hno
      clear hno
      go_wp2_with fail
      go_ret2
      exact ⟨HB2.out, .inr (.inl ⟨HBB.out, HNO.out, rfl⟩)⟩
set_option maxRecDepth 100000 in
set_option maxHeartbeats 8000000 in
theorem r23_big (ks : Fo) (v : Value) (k n : Int) (lim : Nat) (W : World) (hN : ks.cnt ≤ 1048576) (hK : Kids W lim v ks) (hl : lim ≤ W.heap.size) :
    Calls Tryz.prog 95 #[.agg #[.int .i64 k, .int .i64 n, v]] W fun e w' => e = .returned (.bool (decide (bigT ks))) ∧ Below W.heap.size W w' := by
  obtain ⟨p, m, c, rfl, hc1, hc2, HM⟩ := hK.shape
  obtain ⟨w0, hw0, c0, c1, c2, hB0, hs0⟩ := box3 W k n (.slice p m c) 26
  have hK0 := hK.below hl hB0
  have RL := r13_list 1048576 ks (.slice p m c) k n lim w0 hN (Nat.le_refl _) hK0 (by omega)
  have HW0 := Lib.hid hw0
  have hlen : (Nd.mk k n ks :: ks.pre).length = ks.cnt + 1 := by simp [Fo.pre_len]
  clear hw0 hK HM
  go_enter Tryz.func95, Tryz.ntmps95
  go_wp2_with fail
  rw [← HW0.out]
  refine RL.mono ?_
  rintro e w1 ⟨u, rfl, hO, hb1⟩
  obtain ⟨ua, uc, rfl, -⟩ := hO.shape
  rw [hlen]
  have hz1 := hb1.size
  have HB1 := Lib.hid (hB0.trans (hb1.mono hB0.size))
  obtain ⟨L, hL⟩ : ∃ L, ks.cnt + 1 = L := ⟨_, rfl⟩
  rw [hL]
  have d0 := (hb1.cell (p := ⟨W.heap.size, 0, none⟩) (show W.heap.size < w0.heap.size by omega)).trans c0
  have d1 := (hb1.cell (p := ⟨W.heap.size, 1, none⟩) (show W.heap.size < w0.heap.size by omega)).trans c1
  have d2 := (hb1.cell (p := ⟨W.heap.size, 2, none⟩) (show W.heap.size < w0.heap.size by omega)).trans c2
  have RD := r13_depth 1048576 ks (.slice p m c) k n lim w1 hN (Nat.le_refl _) (hK0.below (by omega) hb1) (by omega)
  by_cases h60 : 60 < L
  · have e1 : decide ((L : Int) > 60) = true := decide_eq_true (by omega)
    have e1' : decide (60 < L) = true := decide_eq_true h60
    have HR : Hid (decide (bigT ks) = true) := Lib.hid (decide_eq_true (.inl (by omega)))
    clear hO RL hb1 RD hlen hL hK0
    go_wp2_with fail
    go_ret
    exact ⟨by rw [HR.out]; rfl, HB1.out⟩
  · have e1 : decide ((L : Int) > 60) = false := decide_eq_false (by omega)
    have e1' : decide (60 < L) = false := decide_eq_false h60
    obtain ⟨E, hE⟩ : ∃ E, ks.depth + 1 = E := ⟨_, rfl⟩
    rw [hE] at RD
    have HR : Hid (decide (bigT ks) = decide (12 < E)) := Lib.hid (by
      by_cases h : 12 < E
      · rw [decide_eq_true h]; exact decide_eq_true (.inr (by omega))
      · rw [decide_eq_false h]; exact decide_eq_false (fun x => by
          rcases x with x | x <;> omega))
    clear hO RL hb1 hlen hL hK0 hE
    go_wp2_with fail
    refine RD.mono ?_
    rintro e w2 ⟨rfl, hb2⟩
    have hb2' := HB1.out.trans (hb2.mono HB1.out.size)
    clear hb2 RD
    by_cases h12 : 12 < E
    · have e2 : decide ((E : Int) > 12) = true := decide_eq_true (by omega)
      have e2' : decide (12 < E) = true := decide_eq_true h12
      go_wp2_with fail
      go_ret
      exact ⟨by rw [HR.out, e2']; rfl, hb2'⟩
    · have e2 : decide ((E : Int) > 12) = false := decide_eq_false (by omega)
      have e2' : decide (12 < E) = false := decide_eq_false h12
      go_wp2_with fail
      go_ret
      exact ⟨by rw [HR.out, e2']; rfl, hb2'⟩
end Go.Proofs.YtakhgjhnljbfiaaGreatDoor
