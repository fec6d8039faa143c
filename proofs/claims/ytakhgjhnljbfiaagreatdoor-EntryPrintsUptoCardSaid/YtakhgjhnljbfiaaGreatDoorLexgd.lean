/- Reference 22's Words. -/
import Derived.Test.YtakhgjhnljbfiaaGreatDoorLexfd
import Derived.Laws.Concat
namespace Go.Proofs.YtakhgjhnljbfiaaGreatDoor
open Go.ChangeShapes Go.WideShapes Go.ChangeAt Go.RowKit
set_option linter.unusedVariables false
set_option linter.unusedSimpArgs false

theorem wds_bad {s : ByteArray} {i : Nat} (hi : i < s.size) (h : ¬ (32 ≤ bt s i ∧ bt s i ≤ 126)) : wds s.data.toList = none := by
  unfold wds
  rw [if_neg (by intro e; have := Lib.size_eq s; rw [e, List.length_nil] at this; omega), if_neg]
  intro hh
  rw [Bool.and_eq_true] at hh
  exact h ((all_ok s).1 hh.1 i hi)
theorem wds_empty {l : List UInt8} {a r : List (List UInt8)} (h0 : l ≠ []) (h : splA [] l = a ++ [] :: r) : wds l = none := by
  unfold wds
  rw [if_neg h0, if_neg]
  intro hh
  rw [Bool.and_eq_true] at hh
  have h2 := hh.2
  rw [h, List.all_eq_true] at h2
  have := h2 [] (by simp)
  simp at this
theorem wds_good {l : List UInt8} {P : List (List UInt8)} (h0 : l ≠ []) (h : splA [] l = P) (hok : l.all okB = true) (hP : ∀ p ∈ P, p ≠ []) : wds l = some P := by
  unfold wds
  rw [if_neg h0, if_pos, h]
  rw [Bool.and_eq_true]
  refine ⟨hok, ?_⟩
  rw [h, List.all_eq_true]
  exact fun p hp => decide_eq_true (hP p hp)
theorem bt32 {s : ByteArray} {i : Nat} (h : i < s.size) : bt s i = 32 ↔ (s[i]'h) = 32 := by
  rw [(bt_list s i h).2]
  constructor
  · intro e; exact UInt8.toNat_inj.1 (by rw [e]; rfl)
  · intro e; rw [e]; rfl

/-- How far the reference has come. -/
structure Wd (s : ByteArray) (i : Nat) (acc : List (List UInt8)) (cb : ByteArray) : Prop where
  le : i ≤ s.size
  ok : ∀ j, j < i → 32 ≤ bt s j ∧ bt s j ≤ 126
  ne : ∀ p ∈ acc, p ≠ []
  sp : splA [] s.data.toList = acc ++ splA cb.data.toList (s.data.toList.drop i)
  len : acc.length ≤ i
  siz : cb.size ≤ i
theorem Wd.start (s : ByteArray) : Wd s 0 [] ⟨#[]⟩ := ⟨Nat.zero_le _, fun j h => absurd h (Nat.not_lt_zero _), by simp, by simp, Nat.le_refl _, Nat.le_refl _⟩
theorem Wd.more {s : ByteArray} {i : Nat} {acc : List (List UInt8)} {cb : ByteArray} (h : Wd s i acc cb) (hi : i < s.size) (hok : 32 ≤ bt s i ∧ bt s i ≤ 126) (hb : bt s i ≠ 32) : Wd s (i + 1) acc (cb ++ s.extract i (i + 1)) := by
  have hb' : ¬ (s[i]'hi) = 32 := fun e => hb ((bt32 hi).2 e)
  refine ⟨hi, fun j hj => ?_, h.ne, ?_, Nat.le_succ_of_le h.len, ?_⟩
  · by_cases e : j = i
    · rw [e]; exact hok
    · exact h.ok j (by omega)
  · rw [h.sp, ext_drop s i hi, splA, if_neg hb', ByteArray.data_append, Array.toList_append, Lib.extract_data, ext_drop s i hi]
    simp
  · rw [ByteArray.size_append, ByteArray.size_extract]
    have := h.siz; omega
theorem Wd.cut {s : ByteArray} {i : Nat} {acc : List (List UInt8)} {cb : ByteArray} (h : Wd s i acc cb) (hi : i < s.size) (hb : bt s i = 32) (hne : cb.data.toList ≠ []) : Wd s (i + 1) (acc ++ [cb.data.toList]) ⟨#[]⟩ := by
  refine ⟨hi, fun j hj => ?_, ?_, ?_, by simp; exact h.len, Nat.zero_le _⟩
  · by_cases e : j = i
    · rw [e]; omega
    · exact h.ok j (by omega)
  · intro p hp
    rw [List.mem_append, List.mem_singleton] at hp
    rcases hp with hp | rfl
    · exact h.ne p hp
    · exact hne
  · rw [h.sp, ext_drop s i hi, splA, if_pos ((bt32 hi).1 hb)]
    simp

theorem encS_snoc (l : List (List UInt8)) (cb : ByteArray) : encS (l ++ [cb.data.toList]) = encS l ++ [.string cb] := by
  unfold encS
  rw [List.map_append]
  simp [Lib.mk_data]

set_option maxRecDepth 100000 in
set_option maxHeartbeats 4000000 in
theorem ref_words (s : ByteArray) (hs : s.size ≤ 900) (w : World) :
    Calls Tryz.prog 70 #[.string s] w fun e w' => Below w.heap.size w w' ∧ ((wds s.data.toList = none ∧ e = .returned (.tuple #[.slice none 0 0, .bool false])) ∨
      ∃ l v, wds s.data.toList = some l ∧ e = .returned (.tuple #[v, .bool true]) ∧ w'.ownsRow w.heap.size 9 1 v l.length (encS l)) := by
  go_enter Tryz.func70, Tryz.ntmps70
  go_wp2
  go_loopw [4, 5, 6] (fun v x y wr => ∃ (i : Nat) (acc : List (List UInt8)) (cb : ByteArray) (sv : Value) (wx : World), sv = v ∧ wx = wr ∧ x = .string cb ∧ y = .int .i64 i ∧ Hid (Wd s i acc cb) ∧ wr.ownsRow w.heap.size 9 1 v acc.length (encS acc) ∧ Below w.heap.size w wr) (fun _ _ y _ => s.size - (intOf y).toNat)
  case atStart => exact ⟨0, [], _, _, _, rfl, rfl, rfl, rfl, Lib.hid (Wd.start s), World.ownsRow_nil _ _ _ _, Below.refl _ _⟩
  case round =>
    obtain ⟨i, acc, cb, v, wr, rfl, rfl, rfl, rfl, HW, ho, hB⟩ := hrel
    have hsn := str_nil cb
    have hlen : acc.length < 100000 := by have := HW.out.len; have := HW.out.le; omega
    have hile := HW.out.le
    by_cases hlt : i < s.size
    · have d1 : decide ((i : Int) < (s.size : Int)) = true := decide_eq_true (by omega)
      have d1' : decide (i < s.size) = true := decide_eq_true hlt
      have hix := idx_at s i hlt
      have hne0 : s.data.toList ≠ [] := by intro e; have := Lib.size_eq s; rw [e, List.length_nil] at this; omega
      by_cases hok : 32 ≤ bt s i ∧ bt s i ≤ 126
      · have d2 : decide ((bt s i : Int) < 32) = false := decide_eq_false (by omega)
        have d3 : decide ((bt s i : Int) > 126) = false := decide_eq_false (by omega)
        have d2' : decide ((bt s i) < 32) = false := decide_eq_false (by omega)
        have d3' : decide (126 < bt s i) = false := decide_eq_false (by omega)
        by_cases hb : bt s i = 32
        · by_cases hcn : cb.data.toList = []
          · have e1 : cb.toList.isEmpty = true := by rw [hsn]; exact decide_eq_true hcn
            have hno : wds s.data.toList = none := wds_empty (a := acc) (r := splA [] (s.data.toList.drop (i + 1))) hne0 (by
              rw [HW.out.sp, ext_drop s i hlt, splA, if_pos ((bt32 hlt).1 hb), hcn])
            clear hcn hsn HW
            go_wp2
            go_ret2
            exact ⟨hB, .inl ⟨hno, rfl⟩⟩
          · have e1 : cb.toList.isEmpty = false := by rw [hsn]; exact decide_eq_false hcn
            have H2 := Lib.hid (HW.out.cut hlt hb hcn)
            clear hcn hsn HW
            go_wp2_with (at_builtin; refine append_g Tryz.underlying56 info_str (by decide) (by decide) rfl _ _ rfl rfl ho rfl hB.size hlen rfl (by simp [Value.oneCell']) ?_; intro v' w' hO hb')
            go_roundw
            case rel => exact ⟨i + 1, acc ++ [cb.data.toList], _, _, _, rfl, rfl, rfl, rfl, H2, by rw [encS_snoc]; simpa using hO, hB.trans hb'⟩
            case measure => (first | (simp [intOf]; done) | (simp [intOf]; omega) | (simp only [intOf]; omega))
        · have H2 := Lib.hid (HW.out.more hlt hok hb)
          have hsub := sub_at s i (i + 1) (by omega) (by omega)
          have hadd : ∀ wx : World, (Op.stringOp .add cb (s.extract i (i + 1))).run Tryz.prog wx = .ok (.string (cb ++ s.extract i (i + 1))) wx := fun wx => run_string_add_sum wx _ _ (by
            rw [ByteArray.size_extract]; have := HW.out.siz; omega)
          have e2 : ((bt s i : Int) != 32) = true := by simp; omega
          have e2' : ((bt s i) == 32) = false := by simp; omega
          clear HW hsn
          go_wp2
          go_roundw
          case rel => exact ⟨i + 1, acc, _, _, _, rfl, rfl, rfl, rfl, H2, ho, hB⟩
          case measure => (first | (simp [intOf]; done) | (simp [intOf]; omega) | (simp only [intOf]; omega))
      · have hno := wds_bad hlt hok
        clear HW hsn
        by_cases h32 : bt s i < 32
        · have d2 : decide ((bt s i : Int) < 32) = true := decide_eq_true (by omega)
          have d2' : decide ((bt s i) < 32) = true := decide_eq_true (by omega)
          go_wp2
          go_ret2
          exact ⟨hB, .inl ⟨hno, rfl⟩⟩
        · have d2 : decide ((bt s i : Int) < 32) = false := decide_eq_false (by omega)
          have d2' : decide ((bt s i) < 32) = false := decide_eq_false (by omega)
          have d3 : decide ((bt s i : Int) > 126) = true := decide_eq_true (by omega)
          have d3' : decide (126 < bt s i) = true := decide_eq_true (by omega)
          go_wp2
          go_ret2
          exact ⟨hB, .inl ⟨hno, rfl⟩⟩
    · obtain rfl : i = s.size := by omega
      have d1 : decide ((s.size : Int) < (s.size : Int)) = false := decide_eq_false (by omega)
      have hsp : splA [] s.data.toList = acc ++ [cb.data.toList] := by
        rw [HW.out.sp, List.drop_of_length_le (by rw [Lib.size_eq]; exact Nat.le_refl _)]; rfl
      have hall := (all_ok s).2 HW.out.ok
      have hnes := HW.out.ne
      clear HW
      by_cases h0 : s.data.toList = []
      · have e0 : s.toList.isEmpty = true := by rw [str_nil]; exact decide_eq_true h0
        have hw : wds s.data.toList = some [] := by rw [h0]; rfl
        clear hsp hall hnes h0 hsn
        go_wp2
        go_ret2
        exact ⟨hB, .inr ⟨[], _, hw, rfl, World.ownsRow_nil _ _ _ _⟩⟩
      · have e0 : s.toList.isEmpty = false := by rw [str_nil]; exact decide_eq_false h0
        by_cases hcn : cb.data.toList = []
        · have e1 : cb.toList.isEmpty = true := by rw [hsn]; exact decide_eq_true hcn
          have hno : wds s.data.toList = none := wds_empty (a := acc) (r := []) h0 (by rw [hsp, hcn])
          clear hsp hall hnes h0 hsn hcn
          go_wp2
          go_ret2
          exact ⟨hB, .inl ⟨hno, rfl⟩⟩
        · have e1 : cb.toList.isEmpty = false := by rw [hsn]; exact decide_eq_false hcn
          have hyes : wds s.data.toList = some (acc ++ [cb.data.toList]) := wds_good h0 hsp hall (by
            intro p hp
            rw [List.mem_append, List.mem_singleton] at hp
            rcases hp with hp | rfl
            · exact hnes p hp
            · exact hcn)
          clear hsp hall hnes h0 hsn hcn
          go_wp2_with (at_builtin; refine append_g Tryz.underlying56 info_str (by decide) (by decide) rfl _ _ rfl rfl ho rfl hB.size hlen rfl (by simp [Value.oneCell']) ?_; intro v' w' hO hb')
          go_ret2
          exact ⟨hB.trans hb', .inr ⟨_, _, hyes, rfl, by rw [encS_snoc]; simpa using hO⟩⟩
end Go.Proofs.YtakhgjhnljbfiaaGreatDoor
