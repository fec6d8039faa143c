/- lex.Words and the reference's. -/
import Derived.Test.YtakhgjhnljbfiaaGreatDoorShele
import Derived.Test.YtakhgjhnljbfiaaGreatDoorLexnd
namespace Go.Proofs.YtakhgjhnljbfiaaGreatDoor
open Go.ChangeShapes Go.WideShapes Go.ChangeAt Go.RowKit
set_option linter.unusedVariables false
set_option linter.unusedSimpArgs false

/-- A row of texts. -/
def encS (l : List (List UInt8)) : List Value := l.map (fun p => .string ⟨p.toArray⟩)
theorem encS_at (l : List (List UInt8)) (i : Nat) : (encS l)[i]? = (l[i]?).map (fun p => .string ⟨p.toArray⟩) := by unfold encS; rw [List.getElem?_map]
theorem ext_drop (s : ByteArray) (i : Nat) (h : i < s.size) : s.data.toList.drop i = (s[i]'h) :: s.data.toList.drop (i + 1) := by
  rw [List.drop_eq_getElem_cons (by simpa using h)]
  simp [ByteArray.getElem_eq_getElem_data]
theorem str_nil (s : ByteArray) : s.toList.isEmpty = decide (s.data.toList = []) := by
  rw [Lib.toList_data]
  cases h : s.data.toList with
  | nil => rfl
  | cons a l => rfl
theorem all_ok (s : ByteArray) : s.data.toList.all okB = true ↔ ∀ j, j < s.size → 32 ≤ bt s j ∧ bt s j ≤ 126 := by
  rw [List.all_eq_true]
  constructor
  · intro h j hj
    have := h (s[j]'hj) (List.mem_of_getElem? (bt_list s j hj).1)
    simpa [okB, (bt_list s j hj).2] using this
  · intro h x hx
    obtain ⟨j, hj, rfl⟩ := List.getElem_of_mem hx
    have hj' : j < s.size := by rw [Lib.size_eq]; exact hj
    have := h j hj'
    rw [(bt_list s j hj').2] at this
    simp [okB]
    simpa [ByteArray.getElem_eq_getElem_data] using this

theorem c_split (s : ByteArray) (hs : s.size ≤ 1100) (w : World) (hm : ∃ m, w.cell? ⟨0, 0, none⟩ = some (.int .i64 m)) : Calls Tryz.prog 60 #[.string s, .string ⟨#[32]⟩] w fun e w' => ∃ n, n = (splA [] s.data.toList).length ∧ n ≤ 1101 ∧ e = .returned (.slice (some ⟨w.heap.size, 0, none⟩) n n) ∧ w'.ownsRow w.heap.size 9 1 (.slice (some ⟨w.heap.size, 0, none⟩) n n) n (encS (splA [] s.data.toList)) ∧ Below w.heap.size w w' := by
  obtain ⟨m, hm⟩ := hm
  refine (c_strings_Split s ⟨#[32]⟩ m w (by omega) hm (by decide)).mono ?_
  rintro e w' ⟨rfl, rfl⟩
  have hc : Lib.countB s ⟨#[32]⟩ = s.data.toList.count 32 := count_one s.data.toList
  have hl := splA_count s.data.toList []
  have hle : s.data.toList.count 32 ≤ s.size := by rw [Lib.size_eq]; exact List.count_le_length
  rw [splitB_all, hc, ← hl]
  refine ⟨_, rfl, by omega, rfl, ⟨by simp [encS], .inr ⟨_, _, _, rfl, Nat.le_refl _, heap_alloc_new _ _, Nat.le_refl _, ?_, by simp, ?_⟩⟩, (Below.refl _ _).alloc (Nat.le_refl _) _⟩
  · unfold maxLen; omega
  · simp [encS, List.map_map]
    rw [List.take_of_length_le (by simp)]
    rfl

set_option maxRecDepth 100000 in
set_option maxHeartbeats 4000000 in
theorem lex_words (s : ByteArray) (hs : s.size ≤ 1100) (w : World) (hm : ∃ m, w.cell? ⟨0, 0, none⟩ = some (.int .i64 m)) :
    Calls Tryz.prog 33 #[.string s] w fun e w' => Below w.heap.size w w' ∧ ((wds s.data.toList = none ∧ e = .returned (.tuple #[.slice none 0 0, .int .i64 10])) ∨
      ∃ l v, wds s.data.toList = some l ∧ e = .returned (.tuple #[v, .int .i64 0]) ∧ w'.ownsRow w.heap.size 9 1 v l.length (encS l)) := by
  by_cases h0 : s.data.toList = []
  · have e0 : s.toList.isEmpty = true := by rw [str_nil]; exact decide_eq_true h0
    go_enter Tryz.func33, Tryz.ntmps33
    go_wp2
    go_ret2
    exact ⟨Below.refl _ _, .inr ⟨[], _, by rw [h0]; rfl, rfl, World.ownsRow_nil _ _ _ _⟩⟩
  · have e0 : s.toList.isEmpty = false := by rw [str_nil]; exact decide_eq_false h0
    have C := Lib.hid (c_split s hs w hm)
    go_enter Tryz.func33, Tryz.ntmps33
    go_wp2
    go_loopw [12] (fun x wi => ∃ i : Nat, x = .int .i64 i ∧ i ≤ s.size ∧ Hid (∀ j, j < i → 32 ≤ bt s j ∧ bt s j ≤ 126) ∧ w = wi) (fun x _ => s.size - (intOf x).toNat)
    case atStart => exact ⟨0, rfl, by omega, Lib.hid (fun j hj => absurd hj (Nat.not_lt_zero _)), rfl⟩
    case round =>
      obtain ⟨i, rfl, hi, HO, rfl⟩ := hrel
      by_cases hlt : i < s.size
      · have d1 : decide ((i : Int) < (s.size : Int)) = true := decide_eq_true (by omega)
        have d1' : decide (i < s.size) = true := decide_eq_true hlt
        have hix := idx_at s i hlt
        by_cases hok : 32 ≤ bt s i ∧ bt s i ≤ 126
        · have d2 : decide ((bt s i : Int) < 32) = false := decide_eq_false (by omega)
          have d3 : decide ((bt s i : Int) > 126) = false := decide_eq_false (by omega)
          have d2' : decide ((bt s i) < 32) = false := decide_eq_false (by omega)
          have d3' : decide (126 < bt s i) = false := decide_eq_false (by omega)
          go_wp2
          go_roundw
          case rel => exact ⟨i + 1, rfl, by omega, Lib.hid (fun j hj => by
            by_cases e : j = i
            · rw [e]; exact hok
            · exact HO.out j (by omega)), by first | rfl | trivial⟩
          case measure => (first | (simp [intOf]; done) | (simp [intOf]; omega) | (simp only [intOf]; omega))
        · have hn : wds s.data.toList = none := by
            unfold wds
            rw [if_neg h0, if_neg]
            intro h
            rw [Bool.and_eq_true] at h
            exact hok ((all_ok s).1 h.1 i hlt)
          by_cases h32 : bt s i < 32
          · have d2 : decide ((bt s i : Int) < 32) = true := decide_eq_true (by omega)
            have d2' : decide ((bt s i) < 32) = true := decide_eq_true (by omega)
            go_wp2
            go_ret2
            exact ⟨Below.refl _ _, .inl ⟨hn, rfl⟩⟩
          · have d2 : decide ((bt s i : Int) < 32) = false := decide_eq_false (by omega)
            have d2' : decide ((bt s i) < 32) = false := decide_eq_false (by omega)
            have d3 : decide ((bt s i : Int) > 126) = true := decide_eq_true (by omega)
            have d3' : decide (126 < bt s i) = true := decide_eq_true (by omega)
            go_wp2
            go_ret2
            exact ⟨Below.refl _ _, .inl ⟨hn, rfl⟩⟩
      · obtain rfl : i = s.size := by omega
        have hall := (all_ok s).2 HO.out
        have d1 : decide ((s.size : Int) < (s.size : Int)) = false := decide_eq_false (by omega)
        clear HO
        go_wp2_with fail
        refine C.out.mono ?_
        rintro e w1 ⟨n, hn, hn9, rfl, ho, hB⟩
        obtain ⟨P, hP⟩ : ∃ P, splA [] s.data.toList = P := ⟨_, rfl⟩
        rw [hP] at hn ho
        have hw : wds s.data.toList = if P.all (fun p => decide (p ≠ [])) then some P else none := by
          unfold wds; rw [if_neg h0, hall, hP]; simp
        have HN : Hid (n = P.length) := Lib.hid hn
        have HW := Lib.hid hw
        clear C hall hP h0 e0 hn hw
        go_wp2_with fail
        go_loopw [30] (fun x wi => ∃ i : Nat, x = .int .i64 i ∧ i ≤ n ∧ Hid (∀ j p, j < i → P[j]? = some p → p ≠ []) ∧ w1 = wi) (fun x _ => n - (intOf x).toNat)
        case atStart => exact ⟨0, rfl, by omega, Lib.hid (fun j p hj => absurd hj (Nat.not_lt_zero _)), rfl⟩
        case round =>
          obtain ⟨i, rfl, hi, HO, rfl⟩ := hrel
          by_cases hlt : i < n
          · have d1 : decide ((i : Int) < (n : Int)) = true := decide_eq_true (by omega)
            have d1' : decide (i < n) = true := decide_eq_true hlt
            obtain ⟨p, hp⟩ : ∃ p, P[i]? = some p := ⟨P[i]'(by rw [← HN.out]; exact hlt), by simp⟩
            obtain ⟨sp, hsp⟩ : ∃ sp : ByteArray, sp = ⟨p.toArray⟩ := ⟨_, rfl⟩
            have c0 : w1.cell? ⟨w.heap.size, i, none⟩ = some (.string sp) := by
              rcases own_form ho with ⟨h, -, -⟩ | ⟨g, c, hv, hg1, hg2, hg3, hg4, hcell⟩
              · cases h
              · injection hv with v1 v2 v3
                injection v1 with v1
                injection v1 with v1
                subst v1
                obtain ⟨u, h1, h2, _⟩ := hcell i (by omega)
                rw [encS_at, hp] at h1
                rw [h2, ← h1, hsp]; rfl
            have hsn := str_nil sp
            have hsd : sp.data.toList = p := by rw [hsp]
            rw [hsd] at hsn
            clear hsd hsp
            by_cases hpn : p = []
            · have e1 : sp.toList.isEmpty = true := by rw [hsn]; simp [hpn]
              have hno : wds s.data.toList = none := by
                rw [HW.out, if_neg]
                intro h
                rw [List.all_eq_true] at h
                have := h p (List.mem_of_getElem? hp)
                simp [hpn] at this
              clear hpn hsn
              go_wp2
              go_ret2
              exact ⟨hB, .inl ⟨hno, rfl⟩⟩
            · have e1 : sp.toList.isEmpty = false := by rw [hsn]; simp [hpn]
              go_wp2
              go_roundw
              case rel => exact ⟨i + 1, rfl, by omega, Lib.hid (fun j q hj hq => by
                by_cases e : j = i
                · rw [e, hp] at hq; injection hq with hq; rw [← hq]; exact hpn
                · exact HO.out j q (by omega) hq), by first | rfl | trivial⟩
              case measure => (first | (simp [intOf]; done) | (simp [intOf]; omega) | (simp only [intOf]; omega))
          · obtain rfl : i = n := by omega
            have d1 : decide ((i : Int) < (i : Int)) = false := decide_eq_false (by omega)
            have hyes : wds s.data.toList = some P := by
              rw [HW.out, if_pos]
              rw [List.all_eq_true]
              intro q hq
              obtain ⟨j, hj, rfl⟩ := List.getElem_of_mem hq
              exact decide_eq_true (HO.out j _ (by rw [HN.out]; exact hj) (by simp))
            clear HO HW
            go_wp2
            go_ret2
            exact ⟨hB, .inr ⟨P, _, hyes, rfl, by rw [← HN.out]; exact ho⟩⟩
end Go.Proofs.YtakhgjhnljbfiaaGreatDoor
