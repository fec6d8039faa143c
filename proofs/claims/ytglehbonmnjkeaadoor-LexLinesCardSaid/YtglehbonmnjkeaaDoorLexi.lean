/- lex.Line and the reference's: up to the first line feed. -/
import Derived.Test.YtglehbonmnjkeaaDoorLexh
namespace Go.Proofs.YtglehbonmnjkeaaDoor
open Go.ChangeShapes Go.WideShapes Go.ChangeAt Go.RowKit
set_option linter.unusedVariables false
set_option linter.unusedSimpArgs false

theorem idx10 (l : List UInt8) : (∃ n : Nat, Lib.index l [10] = n ∧ l[n]? = some 10 ∧ ∀ j, j < n → l[j]? ≠ some 10) ∨ (Lib.index l [10] = -1 ∧ ∀ j : Nat, l[j]? ≠ some 10) := by
  induction l with
  | nil => exact .inr ⟨rfl, by simp⟩
  | cons b l ih =>
    rw [Lib.index]
    by_cases h : b = 10
    · subst h
      exact .inl ⟨0, by simp [List.isPrefixOf], rfl, fun j hj => absurd hj (Nat.not_lt_zero _)⟩
    · have h' : ¬ (10 : UInt8) = b := fun e => h e.symm
      rcases ih with ⟨n, h1, h2, h3⟩ | ⟨h1, h2⟩
      · refine .inl ⟨n + 1, ?_, by simpa using h2, fun j hj => ?_⟩
        · rw [h1]
          have : ¬ (((n : Int) == -1) = true) := by rw [beq_iff_eq]; omega
          simp [List.isPrefixOf, h', this]
        · cases j with
          | zero => simpa using h
          | succ j => simpa using h3 j (by omega)
      · refine .inr ⟨?_, fun j => ?_⟩
        · rw [h1]; simp [List.isPrefixOf, h']
        · cases j with
          | zero => simpa using h
          | succ j => simpa using h2 j
theorem bt10 {s : ByteArray} {i : Nat} (h : i < s.size) : bt s i = 10 ↔ s.data.toList[i]? = some 10 := by
  rw [(bt_list s i h).2, (bt_list s i h).1]
  constructor
  · intro e; rw [show s[i] = 10 from UInt8.toNat_inj.1 (by rw [e]; rfl)]
  · intro e; rw [Option.some.inj e]; rfl

/-- The first line feed from a place on. -/
def Fst (s : ByteArray) (at_ : Int) (i : Nat) : Prop := 0 ≤ at_ ∧ at_ ≤ i ∧ i < s.size ∧ bt s i = 10 ∧ ∀ j : Nat, at_ ≤ j → j < i → bt s j ≠ 10
def Nof (s : ByteArray) (at_ : Int) : Prop := at_ < 0 ∨ ∀ j : Nat, at_ ≤ j → j < s.size → bt s j ≠ 10
theorem Fst.uniq {s : ByteArray} {a : Int} {i j : Nat} (h : Fst s a i) (g : Fst s a j) : i = j := by
  rcases Nat.lt_trichotomy i j with h1 | h1 | h1
  · exact absurd h.2.2.2.1 (g.2.2.2.2 i h.2.1 h1)
  · exact h1
  · exact absurd g.2.2.2.1 (h.2.2.2.2 j g.2.1 h1)
theorem Fst.not {s : ByteArray} {a : Int} {i : Nat} (h : Fst s a i) (g : Nof s a) : False := by
  rcases g with g | g
  · have := h.1; omega
  · exact g i h.2.1 h.2.2.1 h.2.2.2.1

set_option maxRecDepth 100000 in
theorem lex_line (s : ByteArray) (hs : s.size ≤ 900) (a : Int) (wa : -9223372036854775808 ≤ a ∧ a ≤ 9223372036854775807) (w : World) (hm : ∃ m, w.cell? ⟨0, 0, none⟩ = some (.int .i64 m)) :
    Calls Tryd.prog 7 #[.string s, .int .i64 a] w fun e w' => Below w.heap.size w w' ∧ ((Nof s a ∧ e = .returned (.tuple #[.string ⟨#[]⟩, .int .i64 0, .bool false])) ∨
      ∃ i : Nat, Fst s a i ∧ e = .returned (.tuple #[.string (s.extract a.toNat i), .int .i64 ((i : Int) + 1), .bool true])) := by
  by_cases h0 : a < 0
  · have d1 : decide (a < 0) = true := decide_eq_true h0
    go_enter Tryd.func7, Tryd.ntmps7
    go_wp2
    go_ret3
    exact ⟨Below.refl _ _, .inl ⟨.inl h0, rfl⟩⟩
  · have d1 : decide (a < 0) = false := decide_eq_false h0
    by_cases h1 : a > s.size
    · have d2 : decide (a > (s.size : Int)) = true := decide_eq_true h1
      have d2' : decide ((s.size : Int) < a) = true := decide_eq_true h1
      go_enter Tryd.func7, Tryd.ntmps7
      go_wp2
      go_ret3
      exact ⟨Below.refl _ _, .inl ⟨.inr fun j h2 h3 => by omega, rfl⟩⟩
    · obtain ⟨p, rfl⟩ : ∃ p : Nat, a = p := ⟨a.toNat, by omega⟩
      have d2 : decide ((p : Int) > (s.size : Int)) = false := decide_eq_false h1
      have d2' : decide (s.size < p) = false := decide_eq_false (by omega)
      have hsl : ∀ wx, (Instr.slice 9 (.string s) (some (.int .i64 (p : Int))) none none).run Tryd.prog wx = .ok (.string (s.extract p s.size)) wx := fun wx => by
        rw [run_slice_string_from_if wx _ s .i64 (p : Int) Tryd.underlying9]
        simp
        omega
      obtain ⟨x, hx⟩ : ∃ x, s.extract p s.size = x := ⟨_, rfl⟩
      have hxd : x.data.toList = s.data.toList.drop p := by
        rw [← hx, Lib.extract_data, Lib.size_eq]
        rw [List.take_of_length_le (by simp)]
      have hxs : x.size ≤ s.size := by rw [← hx, ByteArray.size_extract]; omega
      rw [hx] at hsl
      obtain ⟨m, hm⟩ := hm
      have C := Lib.hid (c_strings_Cut x ⟨#[10]⟩ m w (by omega) hm)
      have hget : ∀ j, x.data.toList[j]? = s.data.toList[p + j]? := fun j => by rw [hxd, List.getElem?_drop]
      rcases idx10 x.data.toList with ⟨n, e1, e2, e3⟩ | ⟨e1, e2⟩
      · have hn : p + n < s.size := by
          rw [hget, List.getElem?_eq_some_iff] at e2
          obtain ⟨h, _⟩ := e2
          rw [Lib.size_eq]; exact h
        have hF : Fst s p (p + n) := ⟨by omega, by omega, hn, (bt10 hn).2 (by rw [← hget]; exact e2), fun j h2 h3 => by
          intro h4
          have := (bt10 (by omega)).1 h4
          have h5 := e3 (j - p) (by omega)
          rw [hget, show p + (j - p) = j by omega] at h5
          exact h5 this⟩
        have hcut : Lib.cut x.data.toList (ByteArray.mk #[10]).data.toList = (x.data.toList.take n, x.data.toList.drop (n + 1), true) := by
          unfold Lib.cut
          have e1' : Lib.index x.data.toList (ByteArray.mk #[10]).data.toList = (n : Int) := e1
          rw [e1', if_pos (by omega)]
          simp
        have C := Lib.hid (by have := C.out; rw [hcut] at this; exact this)
        have hex : (⟨(x.data.toList.take n).toArray⟩ : ByteArray) = s.extract p (p + n) := by
          rw [Lib.extract_eq, hxd, show p + n - p = n by omega]
        have C := Lib.hid (by have := C.out; rw [hex] at this; exact this)
        clear hcut hex e1 e2 e3 hget hxd hxs hx
        go_enter Tryd.func7, Tryd.ntmps7
        go_wp2_with fail
        refine C.out.mono ?_
        rintro e w1 ⟨rfl, q, rfl⟩
        have hsz : (s.extract p (p + n)).size = n := by rw [ByteArray.size_extract]; omega
        go_wp2_with fail
        go_ret3
        exact ⟨below_drewN (Below.refl _ _) q, .inr ⟨p + n, hF, by simp⟩⟩
      · have hN : Nof s p := .inr fun j h2 h3 h4 => by
          have := (bt10 h3).1 h4
          have h5 := e2 (j - p)
          rw [hget, show p + (j - p) = j by omega] at h5
          exact h5 this
        have hcut : Lib.cut x.data.toList (ByteArray.mk #[10]).data.toList = (x.data.toList, [], false) := by
          unfold Lib.cut
          have e1' : Lib.index x.data.toList (ByteArray.mk #[10]).data.toList = -1 := e1
          rw [e1', if_neg (by omega)]
        have C := Lib.hid (by have := C.out; rw [hcut] at this; exact this)
        clear hcut e1 e2 hget hxd hxs hx
        go_enter Tryd.func7, Tryd.ntmps7
        go_wp2_with fail
        refine C.out.mono ?_
        rintro e w1 ⟨rfl, q, rfl⟩
        go_wp2_with fail
        go_ret3
        exact ⟨below_drewN (Below.refl _ _) q, .inl ⟨hN, rfl⟩⟩

set_option maxRecDepth 100000 in
theorem ref_line (s : ByteArray) (hs : s.size ≤ 900) (a : Int) (wa : -9223372036854775808 ≤ a ∧ a ≤ 9223372036854775807) (w : World) :
    Calls Tryd.prog 8 #[.string s, .int .i64 a] w fun e w' => w = w' ∧ ((Nof s a ∧ e = .returned (.tuple #[.string ⟨#[]⟩, .int .i64 0, .bool false])) ∨
      ∃ i : Nat, Fst s a i ∧ e = .returned (.tuple #[.string (s.extract a.toNat i), .int .i64 ((i : Int) + 1), .bool true])) := by
  by_cases h0 : 0 ≤ a
  · obtain ⟨p, rfl⟩ : ∃ p : Nat, a = p := ⟨a.toNat, by omega⟩
    have d1 : decide ((p : Int) ≥ 0) = true := decide_eq_true h0
    go_enter Tryd.func8, Tryd.ntmps8
    go_wp2
    go_loopw [7] (fun x wi => ∃ i : Nat, x = .int .i64 i ∧ p ≤ i ∧ (i : Int) ≤ 9223372036854775807 ∧ Hid (∀ j : Nat, p ≤ j → j < i → bt s j ≠ 10) ∧ w = wi) (fun x _ => s.size - (intOf x).toNat)
    case atStart => exact ⟨p, rfl, Nat.le_refl _, wa.2, Lib.hid (fun j h1 h2 => absurd h1 (by omega)), rfl⟩
    case round =>
      obtain ⟨i, rfl, hpi, hib, HN, rfl⟩ := hrel
      by_cases hlt : i < s.size
      · have d2 : decide ((i : Int) < (s.size : Int)) = true := decide_eq_true (by omega)
        have d2' : decide (i < s.size) = true := decide_eq_true hlt
        have hix := idx_at s i hlt
        have hsub := sub_at s p i hpi (by omega)
        by_cases hb : bt s i = 10
        · have hF : Fst s p i := ⟨by omega, by omega, hlt, hb, fun j h1 h2 => HN.out j (by omega) h2⟩
          rw [hb] at hix
          clear HN hb
          go_wp2
          go_ret3
          exact ⟨rfl, .inr ⟨i, hF, rfl⟩⟩
        · have e1 : ((bt s i : Int) == 10) = false := by rw [beq_eq_false_iff_ne]; omega
          have e1' : ((bt s i) == 10) = false := by rw [beq_eq_false_iff_ne]; exact hb
          have HN2 := Lib.hid (show ∀ j : Nat, p ≤ j → j < i + 1 → bt s j ≠ 10 from fun j h1 h2 => by
            by_cases e : j = i
            · rw [e]; exact hb
            · exact HN.out j h1 (by omega))
          clear HN hb
          go_wp2
          go_roundw
          case rel => exact ⟨i + 1, rfl, by omega, by omega, HN2, by first | rfl | trivial⟩
          case measure => (first | (simp [intOf]; done) | (simp [intOf]; omega) | (simp only [intOf]; omega))
      · have d2 : decide ((i : Int) < (s.size : Int)) = false := decide_eq_false (by omega)
        have d2' : decide (i < s.size) = false := decide_eq_false hlt
        have hN : Nof s p := .inr fun j h1 h2 => HN.out j (by omega) (by omega)
        clear HN
        go_wp2
        go_ret3
        exact ⟨rfl, .inl ⟨hN, rfl⟩⟩
  · have d1 : decide (a ≥ 0) = false := decide_eq_false h0
    have d1' : decide (0 ≤ a) = false := decide_eq_false h0
    go_enter Tryd.func8, Tryd.ntmps8
    go_wp2
    go_loopw [7] (fun x wi => x = .int .i64 a ∧ w = wi) (fun _ _ => 0)
    case atStart => exact ⟨rfl, rfl⟩
    case round =>
      obtain ⟨rfl, rfl⟩ := hrel
      go_wp2
      go_ret3
      exact ⟨rfl, .inl ⟨.inl (by omega), rfl⟩⟩
end Go.Proofs.YtglehbonmnjkeaaDoor
