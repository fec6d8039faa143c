/- dtext.word, kindOf; the reference's word. (Seat d: on D11 and Lexdd.) -/
import Derived.Test.YtakhgjhnljbfiaaGreatDoorLexdd
namespace Go.Proofs.YtakhgjhnljbfiaaGreatDoor
open Go.ChangeShapes Go.WideShapes Go.ChangeAt Go.RowKit
set_option linter.unusedVariables false
set_option linter.unusedSimpArgs false

/-- A kind's word. -/
def wrd (k : Int) : ByteArray := if k = 1 then ⟨#[110, 97, 105, 118, 101]⟩ else if k = 2 then ⟨#[115, 109, 97, 108, 108]⟩ else if k = 3 then ⟨#[115, 116, 111, 99, 107]⟩ else if k = 4 then ⟨#[115, 112, 108, 105, 116]⟩ else if k = 5 then ⟨#[103, 111, 111, 100]⟩ else if k = 6 then ⟨#[114, 97, 100, 101, 114]⟩ else if k = 7 then ⟨#[98, 108, 117, 101]⟩ else ⟨#[]⟩
theorem wrd_apart : ∀ i j : Fin 8, (wrd i.val).data = (wrd j.val).data → i = j := by decide +kernel
theorem wrd_inj {i j : Int} (hi : 1 ≤ i ∧ i ≤ 7) (hj : 1 ≤ j ∧ j ≤ 7) (h : wrd i = wrd j) : i = j := by
  have := wrd_apart ⟨i.toNat, by omega⟩ ⟨j.toNat, by omega⟩ (by
    show (wrd ((i.toNat : Nat) : Int)).data = (wrd ((j.toNat : Nat) : Int)).data
    rw [Int.toNat_of_nonneg (by omega), Int.toNat_of_nonneg (by omega), h])
  have h2 : i.toNat = j.toNat := congrArg Fin.val this
  omega

set_option maxRecDepth 100000 in
theorem d_word (k : Int) (w : World) : Calls Tryz.prog 75 #[.int .i64 k] w fun e w' => e = .returned (.string (wrd k)) ∧ w = w' := by
  go_enter Tryz.func75, Tryz.ntmps75
  go_wp2
  all_goals go_ret
  all_goals (refine ⟨?_, rfl⟩; simp_all [wrd])

theorem bl_eq {x y : ByteArray} : (x.toList == y.toList) = decide (x = y) := by
  rw [Lib.toList_data, Lib.toList_data]
  by_cases h : x = y
  · subst h; simp
  · rw [decide_eq_false h, beq_eq_false_iff_ne]
    intro e
    exact h (ByteArray.ext (Array.toList_inj.1 e))

set_option maxRecDepth 100000 in
/-- A word's kind; 0: none. -/
theorem d_kindOf (s : ByteArray) (w : World) : Calls Tryz.prog 84 #[.string s] w fun e w' => w = w' ∧ ((∃ k : Int, 1 ≤ k ∧ k ≤ 7 ∧ wrd k = s ∧ e = .returned (.int .i64 k)) ∨ ((∀ k : Int, 1 ≤ k → k ≤ 7 → wrd k ≠ s) ∧ e = .returned (.int .i64 0))) := by
  go_enter Tryz.func84, Tryz.ntmps84
  go_wp2
  go_loopw [3] (fun x wi => ∃ j : Int, x = .int .i64 j ∧ 1 ≤ j ∧ j ≤ 8 ∧ Hid (∀ k : Int, 1 ≤ k → k < j → wrd k ≠ s) ∧ w = wi) (fun x _ => (8 - intOf x).toNat)
  case atStart => exact ⟨1, rfl, by omega, by omega, Lib.hid (fun k h1 h2 => by omega), rfl⟩
  case round =>
    obtain ⟨j, rfl, h1, h8, HN, rfl⟩ := hrel
    by_cases hj : j ≤ 7
    · have d1 : decide (j ≤ 7) = true := decide_eq_true hj
      obtain ⟨x, hx⟩ : ∃ x, wrd j = x := ⟨_, rfl⟩
      have C := Lib.hid (d_word j w)
      have C := Lib.hid (by have := C.out; rw [hx] at this; exact this)
      have he := bl_eq (x := x) (y := s)
      by_cases hxs : x = s
      · have e1 : (x.toList == s.toList) = true := by rw [he]; exact decide_eq_true hxs
        have HK : Hid (wrd j = s) := Lib.hid (by rw [hx, hxs])
        clear he hxs hx
        go_wp2_with fail
        refine C.out.mono ?_
        rintro e w1 ⟨rfl, rfl⟩
        go_wp2_with fail
        go_ret
        exact ⟨rfl, .inl ⟨j, h1, hj, HK.out, rfl⟩⟩
      · have e1 : (x.toList == s.toList) = false := by rw [he]; exact decide_eq_false hxs
        have HN2 : Hid (∀ k : Int, 1 ≤ k → k < j + 1 → wrd k ≠ s) := Lib.hid (fun k k1 k2 => by
          by_cases e : k = j
          · rw [e, hx]; exact hxs
          · exact HN.out k k1 (by omega))
        clear he hxs hx HN
        go_wp2_with fail
        refine C.out.mono ?_
        rintro e w1 ⟨rfl, rfl⟩
        go_wp2_with fail
        go_roundw
        case rel => exact ⟨j + 1, rfl, by omega, by omega, HN2, by first | rfl | trivial⟩
        case measure => (first | (simp [intOf]; done) | (simp [intOf]; omega) | (simp only [intOf]; omega))
    · have d1 : decide (j ≤ 7) = false := decide_eq_false hj
      have HN2 : Hid (∀ k : Int, 1 ≤ k → k ≤ 7 → wrd k ≠ s) := Lib.hid (fun k k1 k2 => HN.out k k1 (by omega))
      clear HN
      go_wp2
      go_ret
      exact ⟨rfl, .inr ⟨HN2.out, rfl⟩⟩
end Go.Proofs.YtakhgjhnljbfiaaGreatDoor
