/- Put together by program (merge2.py): Lexg Lexi Shn Scx Sfa Sfb. -/
import Derived.Laws.Concat
import Derived.Shelf.Strconv.Itoa3
import Derived.Shelf.LaysM
import Derived.Lib.AppendIntMem
import Derived.Lib.ItoaMem
import Derived.Test.YtoejflnlkapkiaaDoorSy2
import Derived.Test.YtoejflnlkapkiaaDoorSy5
import Derived.Test.YtoejflnlkapkiaaDoorSy7
/- Reference 22's Words. -/
namespace Go.Proofs.YtoejflnlkapkiaaDoor
open Go.ChangeShapes Go.WideShapes Go.ChangeAt Go.RowKit
set_option linter.unusedVariables false
set_option linter.unusedSimpArgs false

theorem wds_bad {s : ByteArray} {i : Nat} (hi : i < s.size) (h : ¬ (32 ≤ bt s i ∧ bt s i ≤ 126)) : wds s.data.toList = none := by
  unfold wds
  rw [if_neg (by intro e; have := Lib.size_eq s; rw [e, List.length_nil] at this; omega), if_neg]
  intro hh
  rw [Bool.and_eq_true] at hh
  exact h ((all_ok s).1 hh.1 i hi)
theorem wds_empty {l : List UInt8} {a r : List (List UInt8)} (h0 : l ≠ []) (h : splA [] l = a ++ [] :: r) : wds l = none := by
  unfold wds
  rw [if_neg h0, if_neg]
  intro hh
  rw [Bool.and_eq_true] at hh
  have h2 := hh.2
  rw [h, List.all_eq_true] at h2
  have := h2 [] (by simp)
  simp at this
theorem wds_good {l : List UInt8} {P : List (List UInt8)} (h0 : l ≠ []) (h : splA [] l = P) (hok : l.all okB = true) (hP : ∀ p ∈ P, p ≠ []) : wds l = some P := by
  unfold wds
  rw [if_neg h0, if_pos, h]
  rw [Bool.and_eq_true]
  refine ⟨hok, ?_⟩
  rw [h, List.all_eq_true]
  exact fun p hp => decide_eq_true (hP p hp)
theorem bt32 {s : ByteArray} {i : Nat} (h : i < s.size) : bt s i = 32 ↔ (s[i]'h) = 32 := by
  rw [(bt_list s i h).2]
  constructor
  · intro e; exact UInt8.toNat_inj.1 (by rw [e]; rfl)
  · intro e; rw [e]; rfl

/-- How far the reference has come. -/
structure Wd (s : ByteArray) (i : Nat) (acc : List (List UInt8)) (cb : ByteArray) : Prop where
  le : i ≤ s.size
  ok : ∀ j, j < i → 32 ≤ bt s j ∧ bt s j ≤ 126
  ne : ∀ p ∈ acc, p ≠ []
  sp : splA [] s.data.toList = acc ++ splA cb.data.toList (s.data.toList.drop i)
  len : acc.length ≤ i
  siz : cb.size ≤ i
theorem Wd.start (s : ByteArray) : Wd s 0 [] ⟨#[]⟩ := ⟨Nat.zero_le _, fun j h => absurd h (Nat.not_lt_zero _), by simp, by simp, Nat.le_refl _, Nat.le_refl _⟩
theorem Wd.more {s : ByteArray} {i : Nat} {acc : List (List UInt8)} {cb : ByteArray} (h : Wd s i acc cb) (hi : i < s.size) (hok : 32 ≤ bt s i ∧ bt s i ≤ 126) (hb : bt s i ≠ 32) : Wd s (i + 1) acc (cb ++ s.extract i (i + 1)) := by
  have hb' : ¬ (s[i]'hi) = 32 := fun e => hb ((bt32 hi).2 e)
  refine ⟨hi, fun j hj => ?_, h.ne, ?_, Nat.le_succ_of_le h.len, ?_⟩
  · by_cases e : j = i
    · rw [e]; exact hok
    · exact h.ok j (by omega)
  · rw [h.sp, ext_drop s i hi, splA, if_neg hb', ByteArray.data_append, Array.toList_append, Lib.extract_data, ext_drop s i hi]
    simp
  · rw [ByteArray.size_append, ByteArray.size_extract]
    have := h.siz; omega
theorem Wd.cut {s : ByteArray} {i : Nat} {acc : List (List UInt8)} {cb : ByteArray} (h : Wd s i acc cb) (hi : i < s.size) (hb : bt s i = 32) (hne : cb.data.toList ≠ []) : Wd s (i + 1) (acc ++ [cb.data.toList]) ⟨#[]⟩ := by
  refine ⟨hi, fun j hj => ?_, ?_, ?_, by simp; exact h.len, Nat.zero_le _⟩
  · by_cases e : j = i
    · rw [e]; omega
    · exact h.ok j (by omega)
  · intro p hp
    rw [List.mem_append, List.mem_singleton] at hp
    rcases hp with hp | rfl
    · exact h.ne p hp
    · exact hne
  · rw [h.sp, ext_drop s i hi, splA, if_pos ((bt32 hi).1 hb)]
    simp

theorem encS_snoc (l : List (List UInt8)) (cb : ByteArray) : encS (l ++ [cb.data.toList]) = encS l ++ [.string cb] := by
  unfold encS
  rw [List.map_append]
  simp [Lib.mk_data]

set_option maxRecDepth 100000 in
set_option maxHeartbeats 4000000 in
theorem ref_words (s : ByteArray) (hs : s.size ≤ 1000000) (w : World) :
    Calls Tryd.prog 31 #[.string s] w fun e w' => Below w.heap.size w w' ∧ ((wds s.data.toList = none ∧ e = .returned (.tuple #[.slice none 0 0, .bool false])) ∨
      ∃ l v, wds s.data.toList = some l ∧ e = .returned (.tuple #[v, .bool true]) ∧ w'.ownsRow w.heap.size 9 1 v l.length (encS l)) := by
  go_enter Tryd.func31, Tryd.ntmps31
  go_wp2
  go_loopw [4, 5, 6] (fun v x y wr => ∃ (i : Nat) (acc : List (List UInt8)) (cb : ByteArray) (sv : Value) (wx : World), sv = v ∧ wx = wr ∧ x = .string cb ∧ y = .int .i64 i ∧ Hid (Wd s i acc cb) ∧ wr.ownsRow w.heap.size 9 1 v acc.length (encS acc) ∧ Below w.heap.size w wr) (fun _ _ y _ => s.size - (intOf y).toNat)
  case atStart => exact ⟨0, [], _, _, _, rfl, rfl, rfl, rfl, Lib.hid (Wd.start s), World.ownsRow_nil _ _ _ _, Below.refl _ _⟩
  case round =>
    obtain ⟨i, acc, cb, v, wr, rfl, rfl, rfl, rfl, HW, ho, hB⟩ := hrel
    have hsn := str_nil cb
    have hlen : acc.length < 10000000 := by have := HW.out.len; have := HW.out.le; omega
    have hile := HW.out.le
    by_cases hlt : i < s.size
    · have d1 : decide ((i : Int) < (s.size : Int)) = true := decide_eq_true (by omega)
      have d1' : decide (i < s.size) = true := decide_eq_true hlt
      have hix := idx_at s i hlt
      have hne0 : s.data.toList ≠ [] := by intro e; have := Lib.size_eq s; rw [e, List.length_nil] at this; omega
      by_cases hok : 32 ≤ bt s i ∧ bt s i ≤ 126
      · have d2 : decide ((bt s i : Int) < 32) = false := decide_eq_false (by omega)
        have d3 : decide ((bt s i : Int) > 126) = false := decide_eq_false (by omega)
        have d2' : decide ((bt s i) < 32) = false := decide_eq_false (by omega)
        have d3' : decide (126 < bt s i) = false := decide_eq_false (by omega)
        by_cases hb : bt s i = 32
        · by_cases hcn : cb.data.toList = []
          · have e1 : cb.toList.isEmpty = true := by rw [hsn]; exact decide_eq_true hcn
            have hno : wds s.data.toList = none := wds_empty (a := acc) (r := splA [] (s.data.toList.drop (i + 1))) hne0 (by
              rw [HW.out.sp, ext_drop s i hlt, splA, if_pos ((bt32 hlt).1 hb), hcn])
            clear hcn hsn HW
            go_wp2
            go_ret2
            exact ⟨hB, .inl ⟨hno, rfl⟩⟩
          · have e1 : cb.toList.isEmpty = false := by rw [hsn]; exact decide_eq_false hcn
            have H2 := Lib.hid (HW.out.cut hlt hb hcn)
            clear hcn hsn HW
            go_wp2_with (at_builtin; refine append_gL Tryd.underlying31 info_str (by decide) (by decide) rfl _ _ rfl rfl ho rfl hB.size hlen rfl (by simp [Value.oneCell']) ?_; intro v' w' hO hb')
            go_roundw
            case rel => exact ⟨i + 1, acc ++ [cb.data.toList], _, _, _, rfl, rfl, rfl, rfl, H2, by rw [encS_snoc]; simpa using hO, hB.trans hb'⟩
            case measure => (first | (simp [intOf]; done) | (simp [intOf]; omega) | (simp only [intOf]; omega))
        · have H2 := Lib.hid (HW.out.more hlt hok hb)
          have hsub := sub_at s i (i + 1) (by omega) (by omega)
          have hadd : ∀ wx : World, (Op.stringOp .add cb (s.extract i (i + 1))).run Tryd.prog wx = .ok (.string (cb ++ s.extract i (i + 1))) wx := fun wx => run_string_add_sum wx _ _ (by
            rw [ByteArray.size_extract]; have := HW.out.siz; omega)
          have e2 : ((bt s i : Int) != 32) = true := by simp; omega
          have e2' : ((bt s i) == 32) = false := by simp; omega
          clear HW hsn
          go_wp2
          go_roundw
          case rel => exact ⟨i + 1, acc, _, _, _, rfl, rfl, rfl, rfl, H2, ho, hB⟩
          case measure => (first | (simp [intOf]; done) | (simp [intOf]; omega) | (simp only [intOf]; omega))
      · have hno := wds_bad hlt hok
        clear HW hsn
        by_cases h32 : bt s i < 32
        · have d2 : decide ((bt s i : Int) < 32) = true := decide_eq_true (by omega)
          have d2' : decide ((bt s i) < 32) = true := decide_eq_true (by omega)
          go_wp2
          go_ret2
          exact ⟨hB, .inl ⟨hno, rfl⟩⟩
        · have d2 : decide ((bt s i : Int) < 32) = false := decide_eq_false (by omega)
          have d2' : decide ((bt s i) < 32) = false := decide_eq_false (by omega)
          have d3 : decide ((bt s i : Int) > 126) = true := decide_eq_true (by omega)
          have d3' : decide (126 < bt s i) = true := decide_eq_true (by omega)
          go_wp2
          go_ret2
          exact ⟨hB, .inl ⟨hno, rfl⟩⟩
    · obtain rfl : i = s.size := by omega
      have d1 : decide ((s.size : Int) < (s.size : Int)) = false := decide_eq_false (by omega)
      have hsp : splA [] s.data.toList = acc ++ [cb.data.toList] := by
        rw [HW.out.sp, List.drop_of_length_le (by rw [Lib.size_eq]; exact Nat.le_refl _)]; rfl
      have hall := (all_ok s).2 HW.out.ok
      have hnes := HW.out.ne
      clear HW
      by_cases h0 : s.data.toList = []
      · have e0 : s.toList.isEmpty = true := by rw [str_nil]; exact decide_eq_true h0
        have hw : wds s.data.toList = some [] := by rw [h0]; rfl
        clear hsp hall hnes h0 hsn
        go_wp2
        go_ret2
        exact ⟨hB, .inr ⟨[], _, hw, rfl, World.ownsRow_nil _ _ _ _⟩⟩
      · have e0 : s.toList.isEmpty = false := by rw [str_nil]; exact decide_eq_false h0
        by_cases hcn : cb.data.toList = []
        · have e1 : cb.toList.isEmpty = true := by rw [hsn]; exact decide_eq_true hcn
          have hno : wds s.data.toList = none := wds_empty (a := acc) (r := []) h0 (by rw [hsp, hcn])
          clear hsp hall hnes h0 hsn hcn
          go_wp2
          go_ret2
          exact ⟨hB, .inl ⟨hno, rfl⟩⟩
        · have e1 : cb.toList.isEmpty = false := by rw [hsn]; exact decide_eq_false hcn
          have hyes : wds s.data.toList = some (acc ++ [cb.data.toList]) := wds_good h0 hsp hall (by
            intro p hp
            rw [List.mem_append, List.mem_singleton] at hp
            rcases hp with hp | rfl
            · exact hnes p hp
            · exact hcn)
          clear hsp hall hnes h0 hsn hcn
          go_wp2_with (at_builtin; refine append_gL Tryd.underlying31 info_str (by decide) (by decide) rfl _ _ rfl rfl ho rfl hB.size hlen rfl (by simp [Value.oneCell']) ?_; intro v' w' hO hb')
          go_ret2
          exact ⟨hB.trans hb', .inr ⟨_, _, hyes, rfl, by rw [encS_snoc]; simpa using hO⟩⟩
end Go.Proofs.YtoejflnlkapkiaaDoor
/- lex.Line and the reference's: up to the first line feed. -/
namespace Go.Proofs.YtoejflnlkapkiaaDoor
open Go.ChangeShapes Go.WideShapes Go.ChangeAt Go.RowKit
set_option linter.unusedVariables false
set_option linter.unusedSimpArgs false

theorem idx10 (l : List UInt8) : (∃ n : Nat, Lib.index l [10] = n ∧ l[n]? = some 10 ∧ ∀ j, j < n → l[j]? ≠ some 10) ∨ (Lib.index l [10] = -1 ∧ ∀ j : Nat, l[j]? ≠ some 10) := by
  induction l with
  | nil => exact .inr ⟨rfl, by simp⟩
  | cons b l ih =>
    rw [Lib.index]
    by_cases h : b = 10
    · subst h
      exact .inl ⟨0, by simp [List.isPrefixOf], rfl, fun j hj => absurd hj (Nat.not_lt_zero _)⟩
    · have h' : ¬ (10 : UInt8) = b := fun e => h e.symm
      rcases ih with ⟨n, h1, h2, h3⟩ | ⟨h1, h2⟩
      · refine .inl ⟨n + 1, ?_, by simpa using h2, fun j hj => ?_⟩
        · rw [h1]
          have : ¬ (((n : Int) == -1) = true) := by rw [beq_iff_eq]; omega
          simp [List.isPrefixOf, h', this]
        · cases j with
          | zero => simpa using h
          | succ j => simpa using h3 j (by omega)
      · refine .inr ⟨?_, fun j => ?_⟩
        · rw [h1]; simp [List.isPrefixOf, h']
        · cases j with
          | zero => simpa using h
          | succ j => simpa using h2 j
theorem bt10 {s : ByteArray} {i : Nat} (h : i < s.size) : bt s i = 10 ↔ s.data.toList[i]? = some 10 := by
  rw [(bt_list s i h).2, (bt_list s i h).1]
  constructor
  · intro e; rw [show s[i] = 10 from UInt8.toNat_inj.1 (by rw [e]; rfl)]
  · intro e; rw [Option.some.inj e]; rfl

/-- The first line feed from a place on. -/
def Fst (s : ByteArray) (at_ : Int) (i : Nat) : Prop := 0 ≤ at_ ∧ at_ ≤ i ∧ i < s.size ∧ bt s i = 10 ∧ ∀ j : Nat, at_ ≤ j → j < i → bt s j ≠ 10
def Nof (s : ByteArray) (at_ : Int) : Prop := at_ < 0 ∨ ∀ j : Nat, at_ ≤ j → j < s.size → bt s j ≠ 10
theorem Fst.uniq {s : ByteArray} {a : Int} {i j : Nat} (h : Fst s a i) (g : Fst s a j) : i = j := by
  rcases Nat.lt_trichotomy i j with h1 | h1 | h1
  · exact absurd h.2.2.2.1 (g.2.2.2.2 i h.2.1 h1)
  · exact h1
  · exact absurd g.2.2.2.1 (h.2.2.2.2 j g.2.1 h1)
theorem Fst.not {s : ByteArray} {a : Int} {i : Nat} (h : Fst s a i) (g : Nof s a) : False := by
  rcases g with g | g
  · have := h.1; omega
  · exact g i h.2.1 h.2.2.1 h.2.2.2.1

set_option maxRecDepth 100000 in
theorem lex_line (s : ByteArray) (hs : s.size ≤ 1000000) (a : Int) (wa : -9223372036854775808 ≤ a ∧ a ≤ 9223372036854775807) (w : World) (hm : ∃ m, w.cell? ⟨1, 0, none⟩ = some (.int .i64 m)) :
    Calls Tryd.prog 45 #[.string s, .int .i64 a] w fun e w' => Below w.heap.size w w' ∧ ((Nof s a ∧ e = .returned (.tuple #[.string ⟨#[]⟩, .int .i64 0, .bool false])) ∨
      ∃ i : Nat, Fst s a i ∧ e = .returned (.tuple #[.string (s.extract a.toNat i), .int .i64 ((i : Int) + 1), .bool true])) := by
  by_cases h0 : a < 0
  · have d1 : decide (a < 0) = true := decide_eq_true h0
    go_enter Tryd.func45, Tryd.ntmps45
    go_wp2
    go_ret3
    exact ⟨Below.refl _ _, .inl ⟨.inl h0, rfl⟩⟩
  · have d1 : decide (a < 0) = false := decide_eq_false h0
    by_cases h1 : a > s.size
    · have d2 : decide (a > (s.size : Int)) = true := decide_eq_true h1
      have d2' : decide ((s.size : Int) < a) = true := decide_eq_true h1
      go_enter Tryd.func45, Tryd.ntmps45
      go_wp2
      go_ret3
      exact ⟨Below.refl _ _, .inl ⟨.inr fun j h2 h3 => by omega, rfl⟩⟩
    · obtain ⟨p, rfl⟩ : ∃ p : Nat, a = p := ⟨a.toNat, by omega⟩
      have d2 : decide ((p : Int) > (s.size : Int)) = false := decide_eq_false h1
      have d2' : decide (s.size < p) = false := decide_eq_false (by omega)
      have hsl : ∀ wx, (Instr.slice 9 (.string s) (some (.int .i64 (p : Int))) none none).run Tryd.prog wx = .ok (.string (s.extract p s.size)) wx := fun wx => by
        rw [run_slice_string_from_if wx _ s .i64 (p : Int) Tryd.underlying9]
        simp
        omega
      obtain ⟨x, hx⟩ : ∃ x, s.extract p s.size = x := ⟨_, rfl⟩
      have hxd : x.data.toList = s.data.toList.drop p := by
        rw [← hx, Lib.extract_data, Lib.size_eq]
        rw [List.take_of_length_le (by simp)]
      have hxs : x.size ≤ s.size := by rw [← hx, ByteArray.size_extract]; omega
      rw [hx] at hsl
      obtain ⟨m, hm⟩ := hm
      have C := Lib.hid (c_strings_Cut x ⟨#[10]⟩ m w (by omega) hm)
      have hget : ∀ j, x.data.toList[j]? = s.data.toList[p + j]? := fun j => by rw [hxd, List.getElem?_drop]
      rcases idx10 x.data.toList with ⟨n, e1, e2, e3⟩ | ⟨e1, e2⟩
      · have hn : p + n < s.size := by
          rw [hget, List.getElem?_eq_some_iff] at e2
          obtain ⟨h, _⟩ := e2
          rw [Lib.size_eq]; exact h
        have hF : Fst s p (p + n) := ⟨by omega, by omega, hn, (bt10 hn).2 (by rw [← hget]; exact e2), fun j h2 h3 => by
          intro h4
          have := (bt10 (by omega)).1 h4
          have h5 := e3 (j - p) (by omega)
          rw [hget, show p + (j - p) = j by omega] at h5
          exact h5 this⟩
        have hcut : Lib.cut x.data.toList (ByteArray.mk #[10]).data.toList = (x.data.toList.take n, x.data.toList.drop (n + 1), true) := by
          unfold Lib.cut
          have e1' : Lib.index x.data.toList (ByteArray.mk #[10]).data.toList = (n : Int) := e1
          rw [e1', if_pos (by omega)]
          simp
        have C := Lib.hid (by have := C.out; rw [hcut] at this; exact this)
        have hex : (⟨(x.data.toList.take n).toArray⟩ : ByteArray) = s.extract p (p + n) := by
          rw [Lib.extract_eq, hxd, show p + n - p = n by omega]
        have C := Lib.hid (by have := C.out; rw [hex] at this; exact this)
        clear hcut hex e1 e2 e3 hget hxd hxs hx
        go_enter Tryd.func45, Tryd.ntmps45
        go_wp2_with fail
        refine C.out.mono ?_
        rintro e w1 ⟨rfl, q, rfl⟩
        have hsz : (s.extract p (p + n)).size = n := by rw [ByteArray.size_extract]; omega
        go_wp2_with fail
        go_ret3
        exact ⟨below_drewN (Below.refl _ _) q, .inr ⟨p + n, hF, by simp⟩⟩
      · have hN : Nof s p := .inr fun j h2 h3 h4 => by
          have := (bt10 h3).1 h4
          have h5 := e2 (j - p)
          rw [hget, show p + (j - p) = j by omega] at h5
          exact h5 this
        have hcut : Lib.cut x.data.toList (ByteArray.mk #[10]).data.toList = (x.data.toList, [], false) := by
          unfold Lib.cut
          have e1' : Lib.index x.data.toList (ByteArray.mk #[10]).data.toList = -1 := e1
          rw [e1', if_neg (by omega)]
        have C := Lib.hid (by have := C.out; rw [hcut] at this; exact this)
        clear hcut e1 e2 hget hxd hxs hx
        go_enter Tryd.func45, Tryd.ntmps45
        go_wp2_with fail
        refine C.out.mono ?_
        rintro e w1 ⟨rfl, q, rfl⟩
        go_wp2_with fail
        go_ret3
        exact ⟨below_drewN (Below.refl _ _) q, .inl ⟨hN, rfl⟩⟩

set_option maxRecDepth 100000 in
theorem ref_line (s : ByteArray) (hs : s.size ≤ 1000000) (a : Int) (wa : -9223372036854775808 ≤ a ∧ a ≤ 9223372036854775807) (w : World) :
    Calls Tryd.prog 30 #[.string s, .int .i64 a] w fun e w' => w = w' ∧ ((Nof s a ∧ e = .returned (.tuple #[.string ⟨#[]⟩, .int .i64 0, .bool false])) ∨
      ∃ i : Nat, Fst s a i ∧ e = .returned (.tuple #[.string (s.extract a.toNat i), .int .i64 ((i : Int) + 1), .bool true])) := by
  by_cases h0 : 0 ≤ a
  · obtain ⟨p, rfl⟩ : ∃ p : Nat, a = p := ⟨a.toNat, by omega⟩
    have d1 : decide ((p : Int) ≥ 0) = true := decide_eq_true h0
    go_enter Tryd.func30, Tryd.ntmps30
    go_wp2
    go_loopw [7] (fun x wi => ∃ i : Nat, x = .int .i64 i ∧ p ≤ i ∧ (i : Int) ≤ 9223372036854775807 ∧ Hid (∀ j : Nat, p ≤ j → j < i → bt s j ≠ 10) ∧ w = wi) (fun x _ => s.size - (intOf x).toNat)
    case atStart => exact ⟨p, rfl, Nat.le_refl _, wa.2, Lib.hid (fun j h1 h2 => absurd h1 (by omega)), rfl⟩
    case round =>
      obtain ⟨i, rfl, hpi, hib, HN, rfl⟩ := hrel
      by_cases hlt : i < s.size
      · have d2 : decide ((i : Int) < (s.size : Int)) = true := decide_eq_true (by omega)
        have d2' : decide (i < s.size) = true := decide_eq_true hlt
        have hix := idx_at s i hlt
        have hsub := sub_at s p i hpi (by omega)
        by_cases hb : bt s i = 10
        · have hF : Fst s p i := ⟨by omega, by omega, hlt, hb, fun j h1 h2 => HN.out j (by omega) h2⟩
          rw [hb] at hix
          clear HN hb
          go_wp2
          go_ret3
          exact ⟨rfl, .inr ⟨i, hF, rfl⟩⟩
        · have e1 : ((bt s i : Int) == 10) = false := by rw [beq_eq_false_iff_ne]; omega
          have e1' : ((bt s i) == 10) = false := by rw [beq_eq_false_iff_ne]; exact hb
          have HN2 := Lib.hid (show ∀ j : Nat, p ≤ j → j < i + 1 → bt s j ≠ 10 from fun j h1 h2 => by
            by_cases e : j = i
            · rw [e]; exact hb
            · exact HN.out j h1 (by omega))
          clear HN hb
          go_wp2
          go_roundw
          case rel => exact ⟨i + 1, rfl, by omega, by omega, HN2, by first | rfl | trivial⟩
          case measure => (first | (simp [intOf]; done) | (simp [intOf]; omega) | (simp only [intOf]; omega))
      · have d2 : decide ((i : Int) < (s.size : Int)) = false := decide_eq_false (by omega)
        have d2' : decide (i < s.size) = false := decide_eq_false hlt
        have hN : Nof s p := .inr fun j h1 h2 => HN.out j (by omega) (by omega)
        clear HN
        go_wp2
        go_ret3
        exact ⟨rfl, .inl ⟨hN, rfl⟩⟩
  · have d1 : decide (a ≥ 0) = false := decide_eq_false h0
    have d1' : decide (0 ≤ a) = false := decide_eq_false h0
    go_enter Tryd.func30, Tryd.ntmps30
    go_wp2
    go_loopw [7] (fun x wi => x = .int .i64 a ∧ w = wi) (fun _ _ => 0)
    case atStart => exact ⟨rfl, rfl⟩
    case round =>
      obtain ⟨rfl, rfl⟩ := hrel
      go_wp2
      go_ret3
      exact ⟨rfl, .inl ⟨.inl (by omega), rfl⟩⟩
end Go.Proofs.YtoejflnlkapkiaaDoor
/- script.wordsAt. -/
namespace Go.Proofs.YtoejflnlkapkiaaDoor
open Go.ChangeShapes Go.WideShapes Go.ChangeAt Go.RowKit
set_option linter.unusedVariables false
set_option linter.unusedSimpArgs false
theorem max_below {w w' : World} (h : MaxAt w) (hb : Below w.heap.size w w') (h1 : 1 < w.heap.size) : MaxAt w' := by
  obtain ⟨m, hm⟩ := h
  exact ⟨m, (hb.cell (p := ⟨1, 0, none⟩) h1).trans hm⟩
theorem ext_le (s : ByteArray) (a b : Nat) : (s.extract a b).size ≤ s.size := by
  rw [ByteArray.size_extract]; omega
def WordsAt (s : ByteArray) (a : Int) (W : World) (e : Ending) (w' : World) : Prop :=
  Below W.heap.size W w' ∧ ((Nof s a ∧ e = .returned (.tuple #[.slice none 0 0, .int .i64 0, .bool false])) ∨
    ∃ i : Nat, Fst s a i ∧ ((wds (s.extract a.toNat i).data.toList = none ∧ e = .returned (.tuple #[.slice none 0 0, .int .i64 ((i : Int) + 1), .bool false])) ∨
      ∃ l v, wds (s.extract a.toNat i).data.toList = some l ∧ e = .returned (.tuple #[v, .int .i64 ((i : Int) + 1), .bool (decide (0 < l.length))]) ∧ w'.ownsRow W.heap.size 9 1 v l.length (encS l)))
set_option maxRecDepth 100000 in
set_option maxHeartbeats 4000000 in
theorem sc_wordsAt (s : ByteArray) (hs : s.size ≤ 1000000) (a : Int) (wa : -9223372036854775808 ≤ a ∧ a ≤ 9223372036854775807) (W : World) (hm : MaxAt W) (h1 : 1 < W.heap.size) :
    Calls Tryd.prog 27 #[.string s, .int .i64 a] W (WordsAt s a W) := by
  have C := Lib.hid (lex_line s hs a wa W hm)
  have HM := Lib.hid hm
  have H1 := Lib.hid h1
  have HS := Lib.hid hs
  clear hs hm h1 wa
  go_enter Tryd.func27, Tryd.ntmps27
  go_wp2_with fail
  refine C.out.mono ?_
  rintro e w1 ⟨hb, ⟨hn, rfl⟩ | ⟨i, hf, rfl⟩⟩
  · have HB := Lib.hid hb
    have HN := Lib.hid hn
    clear hb hn
    go_wp2_with fail
    go_ret3
    exact ⟨HB.out, .inl ⟨HN.out, rfl⟩⟩
  · have HB := Lib.hid hb
    have HF := Lib.hid hf
    have D := Lib.hid (lex_words (s.extract a.toNat i) (Nat.le_trans (ext_le s _ _) HS.out) w1 (max_below HM.out hb H1.out))
    obtain ⟨x, hx⟩ : ∃ x, s.extract a.toNat i = x := ⟨_, rfl⟩
    rw [hx] at D
    have HX := Lib.hid hx
    clear hb hf
    rw [hx]
    clear hx
    go_wp2_with fail
    refine D.out.mono ?_
    rintro e w2 ⟨hb2, ⟨hw, rfl⟩ | ⟨l, v, hw, rfl, ho⟩⟩
    · have HB2 := Lib.hid (HB.out.trans (hb2.mono HB.out.size))
      have HW := Lib.hid hw
      clear hb2 hw
      go_wp2_with fail
      go_ret3
      exact ⟨HB2.out, .inr ⟨i, HF.out, .inl ⟨by rw [HX.out]; exact HW.out, rfl⟩⟩⟩
    · have HB2 := Lib.hid (HB.out.trans (hb2.mono HB.out.size))
      have HW := Lib.hid hw
      have HO := Lib.hid (ho.mono HB.out.size)
      obtain ⟨p, n, c, rfl, hn⟩ : ∃ p n c, v = .slice p n c ∧ n = l.length := by
        rcases own_form ho with ⟨rfl, h0, -⟩ | ⟨g, c, rfl, -⟩
        · exact ⟨_, _, _, rfl, h0.symm⟩
        · exact ⟨_, _, _, rfl, rfl⟩
      subst hn
      clear hb2 hw ho
      go_wp2_with fail
      go_ret3
      exact ⟨HB2.out, .inr ⟨i, HF.out, .inr ⟨l, _, by rw [HX.out]; exact HW.out, rfl, HO.out⟩⟩⟩
end Go.Proofs.YtoejflnlkapkiaaDoor
/- The library's contracts at this program (this seat alone: its numbers; written by gensheld.py). -/
namespace Go.Proofs.YtoejflnlkapkiaaDoor
open Go.Shelf Go.ChangeShapes Go.WideShapes Go.ChangeAt Go.RowKit
def lays283_ren : Go.Shelf.Ren := ⟨fun | 283 => 67 | n => n, fun | 3 => 3 | 9 => 9 | 4 => 4 | n => n, fun | n => n⟩
theorem lays283 : Go.Proofs.Lays.n283 Tryd.prog lays283_ren := {
  mixed := by kernel_rfl
  f283 := Tryd.func67.trans (congrArg some (by kernel_rfl))
  t3 := Tryd.underlying3
  a3 := Tryd.isAgg3
  z3 := Tryd.sizeOf3
  v3 := Tryd.zeroValue3
  t4 := Tryd.underlying4
  a4 := Tryd.isAgg4
  z4 := Tryd.sizeOf4
  v4 := Tryd.zeroValue4
  t9 := Tryd.underlying9
  a9 := Tryd.isAgg9
  z9 := Tryd.sizeOf9
  v9 := Tryd.zeroValue9 }
open Go.Lib in
theorem c_small (i : Nat) (h : i < 100) (w : World) :
    Calls Tryd.prog 67 #[.int .i64 i] w fun e w' => e = .returned (.string ⟨(Lib.decDigits i).toArray⟩) ∧ w' = w := Any.internal_strconv_small lays283 i h w
def laysM284_ren : Go.Shelf.Ren := ⟨fun | 284 => 68 | 129 => 80 | 317 => 79 | 318 => 81 | n => n, fun | 53 => 78 | 3 => 3 | 212 => 127 | 0 => 0 | 4 => 4 | 46 => 98 | 5 => 5 | 9 => 9 | n => n, fun | 17 => 0 | n => n⟩
theorem laysM284 : Go.Proofs.LaysM.n284 Tryd.prog laysM284_ren := {
  mixed := by kernel_rfl
  f129 := Tryd.func80.trans (congrArg some (by kernel_rfl))
  f284 := Tryd.func68.trans (congrArg some (by kernel_rfl))
  f317 := Tryd.func79.trans (congrArg some (by kernel_rfl))
  f318 := Tryd.func81.trans (congrArg some (by kernel_rfl))
  t0 := Tryd.underlying0
  a0 := Tryd.isAgg0
  z0 := Tryd.sizeOf0
  v0 := Tryd.zeroValue0
  t3 := Tryd.underlying3
  a3 := Tryd.isAgg3
  z3 := Tryd.sizeOf3
  v3 := Tryd.zeroValue3
  t4 := Tryd.underlying4
  a4 := Tryd.isAgg4
  z4 := Tryd.sizeOf4
  v4 := Tryd.zeroValue4
  t5 := Tryd.underlying5
  a5 := Tryd.isAgg5
  z5 := Tryd.sizeOf5
  v5 := Tryd.zeroValue5
  t9 := Tryd.underlying9
  a9 := Tryd.isAgg9
  z9 := Tryd.sizeOf9
  v9 := Tryd.zeroValue9
  t46 := Tryd.underlying98
  a46 := Tryd.isAgg98
  z46 := Tryd.sizeOf98
  v46 := Tryd.zeroValue98
  t53 := Tryd.underlying78
  a53 := Tryd.isAgg78
  z53 := Tryd.sizeOf78
  v53 := Tryd.zeroValue78
  t212 := Tryd.underlying127
  a212 := Tryd.isAgg127
  z212 := Tryd.sizeOf127
  v212 := Tryd.zeroValue127
  g17 := by kernel_rfl
  i0 := by kernel_rfl
  i3 := by kernel_rfl
  i4 := by kernel_rfl
  i5 := by kernel_rfl
  i9 := by kernel_rfl
  i46 := by kernel_rfl
  i53 := by kernel_rfl
  i212 := by kernel_rfl
  m17 := by kernel_rfl }
open Go.Lib in
theorem c_numDigits (u : Nat) (h1 : 1 ≤ u) (h2 : u < 18446744073709551616) (w : World) (htab : Lib.TabIs Tryd.prog w "internal/strconv.uint64pow10" .u64 Lib.pow10Tab) :
    Calls Tryd.prog 68 #[.int .u64 u] w fun e w' => e = .returned (.int .i64 (Lib.nDigits u)) ∧ w' = w := Any.internal_strconv_numDigits laysM284 u h1 h2 w htab
def lays285_ren : Go.Shelf.Ren := ⟨fun | 285 => 69 | n => n, fun | 37 => 53 | 53 => 78 | 3 => 3 | 4 => 4 | 51 => 128 | 9 => 9 | 5 => 5 | 0 => 0 | n => n, fun | n => n⟩
theorem lays285 : Go.Proofs.Lays.n285 Tryd.prog lays285_ren := {
  mixed := by kernel_rfl
  f285 := Tryd.func69.trans (congrArg some (by kernel_rfl))
  t0 := Tryd.underlying0
  a0 := Tryd.isAgg0
  z0 := Tryd.sizeOf0
  v0 := Tryd.zeroValue0
  t3 := Tryd.underlying3
  a3 := Tryd.isAgg3
  z3 := Tryd.sizeOf3
  v3 := Tryd.zeroValue3
  t4 := Tryd.underlying4
  a4 := Tryd.isAgg4
  z4 := Tryd.sizeOf4
  v4 := Tryd.zeroValue4
  t5 := Tryd.underlying5
  a5 := Tryd.isAgg5
  z5 := Tryd.sizeOf5
  v5 := Tryd.zeroValue5
  t9 := Tryd.underlying9
  a9 := Tryd.isAgg9
  z9 := Tryd.sizeOf9
  v9 := Tryd.zeroValue9
  t37 := Tryd.underlying53
  a37 := Tryd.isAgg53
  z37 := Tryd.sizeOf53
  v37 := Tryd.zeroValue53
  t51 := Tryd.underlying128
  a51 := Tryd.isAgg128
  z51 := Tryd.sizeOf128
  v51 := Tryd.zeroValue128
  t53 := Tryd.underlying78
  a53 := Tryd.isAgg78
  z53 := Tryd.sizeOf78
  v53 := Tryd.zeroValue78 }
open Go.RowKit Go.Sort Go.Lib in
theorem c_formatBase10 (blk off cap : Nat) (u : Nat) (d : Array UInt8) (w : World) (hH : Holds (fun (b : UInt8) => Value.int .u8 (b.toNat : Int)) w blk off d) (hu : u < 10 ^ d.size) (hu64 : u < 18446744073709551616) (hsz : d.size < 4611686018427387904) :
    Calls Tryd.prog 69 #[.slice (some ⟨blk, off, none⟩) d.size cap, .int .u64 u] w fun e w' =>
      e = .returned (.tuple #[]) ∧ ∃ (n v' : Nat) (dk : Array UInt8), w' = (putRow (fun (b : UInt8) => Value.int .u8 (b.toNat : Int)) w blk off dk).drewN n ∧ FmtInv d.size u 0 v' dk := Any.internal_strconv_formatBase10 lays285 blk off cap u d w hH hu hu64 hsz
end Go.Proofs.YtoejflnlkapkiaaDoor
/- strconv.FormatUint at 10. -/
namespace Go.Proofs.YtoejflnlkapkiaaDoor
open Go.ChangeShapes Go.WideShapes Go.ChangeAt Go.RowKit
set_option linter.unusedVariables false
open Go.Sort Go.Lib
set_option linter.unusedSimpArgs false
set_option maxHeartbeats 4000000 in
set_option maxRecDepth 100000 in
theorem sc_fmt_in (u : Nat) (hu64 : u < 18446744073709551616) (w : World) (htab : Lib.TabIs Tryd.prog w "internal/strconv.uint64pow10" .u64 Lib.pow10Tab) :
    Calls Tryd.prog 54 #[.int .u64 (u : Int), .int .i64 10] w fun e w' => e = .returned (.string ⟨(Lib.decDigits u).toArray⟩) ∧ ∃ k os, w' = grow (w.drewN k) os := by
  by_cases hs : u < 100
  · have d1 : decide ((u : Int) < 100) = true := decide_eq_true (by omega)
    have d1' : decide (u < 100) = true := decide_eq_true hs
    have WK : wrap64 (u : Int) = (u : Int) := by simp only [wrap64]; omega
    have C := Lib.hid (c_small u hs w)
    go_enter Tryd.func54, Tryd.ntmps54
    go_wp2_with fail
    refine C.out.mono ?_
    rintro e w1 ⟨rfl, rfl⟩
    go_wp2_with fail
    go_ret
    exact ⟨rfl, 0, #[], by simp [World.drewN_zero]⟩
  · have hu1 : 1 ≤ u := by omega
    have d1 : decide ((u : Int) < 100) = false := decide_eq_false (by omega)
    have d1' : decide (u < 100) = false := decide_eq_false hs
    have hnd20 : Lib.nDigits u ≤ 20 := by have := Lib.numDigits_eq u hu1 hu64; split at this <;> omega
    have hal : Tryd.prog.arrayLen 113 = 24 := by simp [Program.arrayLen, Tryd.underlying113]
    have hsl1 : ∀ W, (Instr.sliceAt 113 (.pointer (some ⟨w.heap.size, 0, none⟩)) none (some (.int .i64 (Lib.nDigits u : Int))) none).run Tryd.prog W = .ok (.slice (some ⟨w.heap.size, 0, none⟩) (Lib.nDigits u) 24) W := fun W => by
      rw [run_sliceAt_array_h W 113 ⟨w.heap.size, 0, none⟩ (by simp [Program.arrayLen, Program.elem, Tryd.underlying113]) .i64 (Lib.nDigits u : Int) (by omega) (by rw [hal]; omega)]
      go_simp
    have hH0 := Lib.holds_zero0 w 113 (Lib.nDigits u) (by omega)
    have hfmt := c_formatBase10 w.heap.size 0 24 u (Array.replicate (Lib.nDigits u) 0) (w.alloc (.cells Lib.zeros24 113)) hH0 (by rw [Array.size_replicate]; exact Lib.lt_pow_nDigits u) hu64 (by rw [Array.size_replicate]; omega)
    rw [Array.size_replicate] at hfmt
    have HH0 := Lib.hid hH0
    have ND := Lib.hid (c_numDigits u hu1 hu64 (w.alloc (.cells Lib.zeros24 113)) (Lib.tabIs_alloc htab _))
    have HF := Lib.hid hfmt
    clear hH0 hal hfmt htab
    go_enter Tryd.func54, Tryd.ntmps54
    go_wp2_with fail
    refine ND.out.mono ?_
    rintro e w1 ⟨rfl, rfl⟩
    go_wp2_with fail
    refine HF.out.mono ?_
    rintro e w' ⟨rfl, k, v', dk, rfl, hF⟩
    have hcv : (convert 53 9 (.slice (some ⟨w.heap.size, 0, none⟩) (Lib.nDigits u) 24)).run Tryd.prog ((putRow (fun (b : UInt8) => Value.int .u8 (b.toNat : Int)) (w.alloc (.cells Lib.zeros24 113)) w.heap.size 0 dk).drewN k) = .ok (.string ⟨(Lib.decDigits u).toArray⟩) ((putRow (fun (b : UInt8) => Value.int .u8 (b.toNat : Int)) (w.alloc (.cells Lib.zeros24 113)) w.heap.size 0 dk).drewN k) := by
      have h := run_convert_bytes_back (P := Tryd.prog) ((putRow (fun (b : UInt8) => Value.int .u8 (b.toNat : Int)) (w.alloc (.cells Lib.zeros24 113)) w.heap.size 0 dk).drewN k) 53 9 5 ⟨w.heap.size, 0, none⟩ 24 (Lib.decDigits u) Tryd.underlying53 Tryd.underlying5 Tryd.underlying9 (fun j hj => by
        rw [Lib.row_is_numeral hF j hj, Lib.add_plain, World.cell?_drewN]
        exact cell?_putRow (fun (b : UInt8) => Value.int .u8 (b.toNat : Int)) _ w.heap.size 0 _ dk HH0.out (by rw [hF.size, Array.size_replicate]) j (by rw [hF.size]; rw [Lib.decDigits_length] at hj; exact hj))
      rw [Lib.decDigits_length] at h
      exact h
    go_wp2_with fail
    go_ret
    obtain ⟨os, eo⟩ := Lib.fin_at w (.cells Lib.zeros24 113) dk k 0
    exact ⟨rfl, k, os, eo⟩
set_option maxRecDepth 100000 in
theorem sc_fmt (u : Nat) (hu64 : u < 18446744073709551616) (W : World) (hT : Lib.TabIs Tryd.prog W "internal/strconv.uint64pow10" .u64 Lib.pow10Tab) :
    Calls Tryd.prog 40 #[.int .u64 (u : Int), .int .i64 10] W fun e w' => e = .returned (.string (udS (u : Int))) ∧ Below W.heap.size W w' := by
  have C := Lib.hid (sc_fmt_in u hu64 W hT)
  clear hT
  go_enter Tryd.func40, Tryd.ntmps40
  go_wp2_with fail
  refine C.out.mono ?_
  rintro e w1 ⟨rfl, k, os, hw⟩
  have HB := Lib.hid (show Below W.heap.size W w1 by rw [hw]; exact Lib.below_grow W.heap.size W (Nat.le_refl _) k os)
  clear hw
  go_wp2_with fail
  go_ret
  exact ⟨by unfold udS; simp, HB.out⟩
end Go.Proofs.YtoejflnlkapkiaaDoor
/- script.toHex. -/
namespace Go.Proofs.YtoejflnlkapkiaaDoor
open Go.ChangeShapes Go.WideShapes Go.ChangeAt Go.RowKit
set_option linter.unusedVariables false
set_option linter.unusedSimpArgs false
theorem hexB_step {s : ByteArray} {i : Nat} (h : i < s.size) : ((s.data.toList.take (i + 1)).map fun b => [hexD (b.toNat / 16), hexD (b.toNat % 16)]).flatten = ((s.data.toList.take i).map fun b => [hexD (b.toNat / 16), hexD (b.toNat % 16)]).flatten ++ [hexD ((s[i]'h).toNat / 16), hexD ((s[i]'h).toNat % 16)] := by
  have e : s.data.toList[i]? = some (s[i]'h) := by simp [ByteArray.getElem_eq_getElem_data, h]
  rw [List.take_add_one, e]
  simp
def hexT (s : ByteArray) (i : Nat) : List UInt8 := ((s.data.toList.take i).map fun b => [hexD (b.toNat / 16), hexD (b.toNat % 16)]).flatten
theorem hexT_len (s : ByteArray) : ∀ i, i ≤ s.size → (hexT s i).length = 2 * i
  | 0, _ => by simp [hexT]
  | i + 1, h => by
    have h1 := hexT_len s i (by omega)
    unfold hexT at h1 ⊢
    rw [hexB_step (by omega), List.length_append, h1]
    simp only [List.length_cons, List.length_nil]
    omega
theorem hexT_step {s : ByteArray} {i : Nat} (h : i < s.size) : hexT s (i + 1) = hexT s i ++ [hexD ((s[i]'h).toNat / 16), hexD ((s[i]'h).toNat % 16)] := hexB_step h
theorem hexT_all (s : ByteArray) : hexT s s.size = hexB s := by
  unfold hexT hexB
  rw [List.take_of_length_le (by rw [← Lib.size_eq]; exact Nat.le_refl _)]
def hexes : ByteArray := ⟨#[48, 49, 50, 51, 52, 53, 54, 55, 56, 57, 97, 98, 99, 100, 101, 102]⟩
theorem hex_at (k : Nat) (h : k < hexes.size) : ((hexes[k]'h).toNat : Int) = ((hexD k).toNat : Int) := by
  have e : ∀ k : Fin 16, (hexes[k.1]'(by show k.1 < 16; exact k.2)).toNat = (hexD k.1).toNat := by decide +kernel
  have h2 : (hexes[k]'h).toNat = (hexD k).toNat := e ⟨k, h⟩
  rw [h2]
theorem hex_bytes (l : List UInt8) (x y : UInt8) : Lib.byteCells l ++ [.int .u8 (x.toNat : Int)] ++ [.int .u8 (y.toNat : Int)] = Lib.byteCells (l ++ [x, y]) := by
  unfold Lib.byteCells; simp
set_option maxRecDepth 100000 in
set_option maxHeartbeats 4000000 in
theorem sc_hex (s : ByteArray) (W : World) (hs : s.size ≤ 100000000) : Calls Tryd.prog 39 #[.string s] W fun e w' => e = .returned (.string ⟨(hexB s).toArray⟩) ∧ Below W.heap.size W w' := by
  obtain ⟨w0, hw0, r0, hB0, hs0⟩ := boxG W #[.pointer none, .slice none 0 0] 59
  have BU0 := Lib.hid (show Lib.IsBuilder 59 5 W.heap.size W.heap.size (Lib.byteCells (hexT s 0)) w0 by rw [← hw0]; exact Lib.fresh_isBuilder _ _ W)
  have HB0 := Lib.hid hB0
  have HS := Lib.hid hs
  clear r0 hB0 hs0 hs
  go_enter Tryd.func39, Tryd.ntmps39
  go_wp2_with fail
  go_loopw [4, 7] (fun _ j wr => ∃ i : Nat, j = .int .i64 i ∧ Hid (i ≤ s.size) ∧ Hid (Lib.IsBuilder 59 5 W.heap.size W.heap.size (Lib.byteCells (hexT s i)) wr) ∧ Hid (Below W.heap.size W wr)) (fun _ j _ => s.size - (intOf j).toNat)
  case atStart => exact ⟨0, rfl, Lib.hid (Nat.zero_le _), BU0, HB0⟩
  case round =>
    obtain ⟨i, rfl, HI, BU, HB⟩ := hrel
    obtain ⟨x1, rfl⟩ : ∃ w, w = wr := ⟨_, rfl⟩
    by_cases hi : i < s.size
    · have hii : (i : Int) < (s.size : Int) := by omega
      have hi0 : (0 : Int) ≤ (i : Int) := by omega
      have HIL := Lib.hid hi
      have hxl : (s[i]'hi).toNat < 256 := UInt8.toNat_lt _
      have hb1 : (s[i]'hi).toNat / 16 < 16 := by omega
      have hb2 : (s[i]'hi).toNat % 16 < 16 := by omega
      have hb1i : (((s[i]'hi).toNat : Nat) : Int) / 16 < 16 := by omega
      have hb0i : (0 : Int) ≤ (((s[i]'hi).toNat : Nat) : Int) / 16 := by omega
      have HTL := Lib.hid (hexT_len s i (Nat.le_of_lt hi))
      have HST := Lib.hid (hexT_step hi)
      have WK := Lib.hid (show wrap64 ((i : Int) + 1) = ((i + 1 : Nat) : Int) by have := HS.out; simp only [wrap64]; omega)
      have C1 := c_b_Byte W.heap.size W.heap.size _ ((hexes[(s[i]'hi).toNat / 16]'hb1).toNat : Int) x1 BU.out (by have h1 := HS.out; have h2 := HIL.out; have h3 := HTL.out; rw [Lib.byteCells_length]; omega) HB.out.size
      rw [hex_at _ hb1] at C1
      have E1 := hex_at _ hb1
      have E2 := hex_at _ hb2
      unfold hexes at E1 E2
      have HC1 := Lib.hid C1
      clear C1
      go_wp2_with fail
      try rw [E1]
      refine HC1.out.mono ?_
      rintro e x2 ⟨rfl, hbu2, hb2'⟩
      have HB2 := Lib.hid (HB.out.trans hb2')
      have C2 := c_b_Byte W.heap.size W.heap.size _ ((hexD ((s[i]'hi).toNat % 16)).toNat : Int) x2 (.inr hbu2) (by have h1 := HS.out; have h2 := HIL.out; have h3 := HTL.out; rw [List.length_append, Lib.byteCells_length]; simp only [List.length_cons, List.length_nil]; omega) HB2.out.size
      have HC2 := Lib.hid C2
      clear hbu2 hb2' C2
      go_wp2_with fail
      try rw [E2]
      refine HC2.out.mono ?_
      rintro e x3 ⟨rfl, hbu3, hb3⟩
      rw [hex_bytes, ← HST.out] at hbu3
      have BU3 := Lib.hid hbu3
      have HB3 := Lib.hid (HB2.out.trans hb3)
      clear hbu3 hb3
      go_wp2_with fail
      go_roundw
      case rel => exact ⟨i + 1, by first | rw [WK.out] | simp, Lib.hid HIL.out, Lib.hid (.inr BU3.out), HB3⟩
      case measure => first | exact sc_meas' s.size i HIL.out | (rw [WK.out]; exact sc_meas s.size i HIL.out)
    · have h9 : i = s.size := by have := HI.out; omega
      subst h9
      have hii : ¬ (s.size : Int) < (s.size : Int) := by omega
      have SR := c_b_String W.heap.size W.heap.size (hexT s s.size) x1 BU.out HB.out.size
      rw [hexT_all] at SR
      have SR := Lib.hid SR
      go_wp2_with fail
      refine SR.out.mono ?_
      rintro e x2 ⟨rfl, hb2⟩
      have HF := Lib.hid (HB.out.trans hb2)
      clear hb2
      go_wp2_with fail
      go_ret
      exact ⟨rfl, HF.out⟩
end Go.Proofs.YtoejflnlkapkiaaDoor
