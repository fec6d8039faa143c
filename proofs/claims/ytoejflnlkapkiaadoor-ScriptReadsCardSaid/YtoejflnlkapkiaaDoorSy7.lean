/- Put together by program (merge2.py): Lexd Lexe Shel Samei Scr Lexf. -/
import Derived.Lib.Split
import Derived.Shelf.Strings.Cut
import Derived.Shelf.Strings.Split
import Derived.Test.YtoejflnlkapkiaaDoorSy2
import Derived.Test.YtoejflnlkapkiaaDoorSy4
import Derived.Test.YtoejflnlkapkiaaDoorSy6
/- Reference 22's Tokens: one run behind the other. -/
namespace Go.Proofs.YtoejflnlkapkiaaDoor
open Go.ChangeShapes Go.WideShapes Go.ChangeAt Go.RowKit
set_option linter.unusedVariables false
set_option linter.unusedSimpArgs false

theorem idx_at (s : ByteArray) (i : Nat) (h : i < s.size) (wx : World) : (Instr.index 9 (.string s) (.int .i64 (i : Int))).run Tryd.prog wx = .ok (.int .u8 (bt s i)) wx := by
  rw [run_index_string wx _ s .i64 i Tryd.underlying9, dif_pos ⟨by omega, by omega⟩]
  simp [bt_eq]
theorem sub_at (s : ByteArray) (a b : Nat) (h1 : a ≤ b) (h2 : b ≤ s.size) (wx : World) : (Instr.slice 9 (.string s) (some (.int .i64 (a : Int))) (some (.int .i64 (b : Int))) none).run Tryd.prog wx = .ok (.string (s.extract a b)) wx := by
  have := run_slice_string (P := Tryd.prog) wx 9 s .i64 .i64 (a : Int) (b : Int) Tryd.underlying9 (by omega) (by omega) (by omega)
  simpa using this

theorem tk_push {s : ByteArray} {i : Nat} {l : List (Int × Nat × Nat)} (h : tk s i = some l) (h0 : kd (bt s i) ≠ 0) (hb : ∀ k a b, l.getLast? = some (k, a, b) → kd (bt s i) = 3 ∨ k ≠ kd (bt s i)) : tk s (i + 1) = some (l ++ [(kd (bt s i), i, i + 1)]) := by
  simp only [tk, h, h0, if_false]
  rcases hl : l.getLast? with _ | ⟨k, a, b⟩
  · rfl
  · simp only
    rw [if_neg (by have := hb k a b hl; intro e; rcases this with h | h
                   · exact e.1 h
                   · exact h e.2)]
theorem tk_more {s : ByteArray} {i a : Nat} {k : Int} {l : List (Int × Nat × Nat)} (h : tk s i = some (l ++ [(k, a, i)])) (h0 : k ≠ 0) (h3 : k < 3) (hk : kd (bt s i) = k) : tk s (i + 1) = some (l ++ [(k, a, i + 1)]) := by
  simp only [tk, h, hk, h0, if_false, List.getLast?_concat]
  rw [if_pos (by constructor <;> first | omega | trivial)]
  simp

end Go.Proofs.YtoejflnlkapkiaaDoor
/- Words of a line, in numbers: cut at blanks. -/
namespace Go.Proofs.YtoejflnlkapkiaaDoor
open Go.ChangeShapes Go.WideShapes Go.ChangeAt Go.RowKit
set_option linter.unusedVariables false
set_option linter.unusedSimpArgs false

/-- Cut at blanks; cur: what stands of the first piece already. -/
def splA (cur : List UInt8) : List UInt8 → List (List UInt8)
  | [] => [cur]
  | b :: l => if b = 32 then cur :: splA [] l else splA (cur ++ [b]) l
def hcons (p : List UInt8) : List (List UInt8) → List (List UInt8)
  | [] => []
  | x :: r => (p ++ x) :: r
theorem splA_head (l : List UInt8) : ∀ p cur, splA (p ++ cur) l = hcons p (splA cur l) := by
  induction l with
  | nil => intro p cur; rfl
  | cons b l ih =>
    intro p cur
    unfold splA
    split
    · rfl
    · rw [List.append_assoc]; exact ih _ _
theorem index_one (b : UInt8) (l : List UInt8) : Lib.index (b :: l) [32] = if b = 32 then 0 else if Lib.index l [32] = -1 then -1 else Lib.index l [32] + 1 := by
  rw [Lib.index]
  by_cases h : b = 32
  · subst h; simp [List.isPrefixOf]
  · have : ¬ (32 : UInt8) = b := fun e => h e.symm
    simp [List.isPrefixOf, h, this]
theorem splitK_head (b : UInt8) (hb : b ≠ 32) (l : List UInt8) (k : Nat) : Lib.splitK [32] 0 k (b :: l) = hcons [b] (Lib.splitK [32] 0 k l) := by
  cases k with
  | zero => rfl
  | succ k =>
    unfold Lib.splitK
    rw [index_one, if_neg hb]
    by_cases h : Lib.index l [32] = -1
    · simp [h, hcons]
    · have hge := Lib.index_ge l [32]
      obtain ⟨i, hi⟩ : ∃ i : Nat, Lib.index l [32] = i := ⟨(Lib.index l [32]).toNat, by omega⟩
      rw [if_neg h, hi]
      have e1 : ¬ (((i : Int) + 1 == -1) = true) := by rw [beq_iff_eq]; omega
      have e2 : ¬ (((i : Int) == -1) = true) := by rw [beq_iff_eq]; omega
      rw [if_neg e1, if_neg e2]
      have e3 : ((i : Int) + 1).toNat = i + 1 := by omega
      simp [e3, hcons]
theorem count_one (l : List UInt8) : Lib.count l [32] = l.count 32 := by
  induction l with
  | nil => rfl
  | cons b l ih =>
    by_cases hb : b = 32
    · subst hb
      rw [List.count_cons_self, Lib.count_hit (i := 0) (by simp) (by rw [index_one, if_pos rfl]; rfl), ← ih, Nat.add_comm]
      rfl
    · rw [List.count_cons_of_ne (by simpa using hb), ← ih]
      have hge := Lib.index_ge l [32]
      by_cases h : Lib.index l [32] = -1
      · rw [Lib.count_miss h, Lib.count_miss (by rw [index_one, if_neg hb, if_pos h])]
      · obtain ⟨i, hi⟩ : ∃ i : Nat, Lib.index l [32] = i := ⟨(Lib.index l [32]).toNat, by omega⟩
        rw [Lib.count_hit (s := l) (i := i) (by simp) hi, Lib.count_hit (s := b :: l) (i := i + 1) (by simp) (by rw [index_one, if_neg hb, if_neg h, hi]; rfl)]
        rfl
theorem splitK_all (l : List UInt8) : Lib.splitK [32] 0 (l.count 32) l = splA [] l := by
  induction l with
  | nil => rfl
  | cons b l ih =>
    by_cases hb : b = 32
    · subst hb
      rw [List.count_cons_self, Lib.splitK, index_one, if_pos rfl]
      simp [splA, ih]
    · rw [List.count_cons_of_ne (by simpa using hb), splitK_head b hb, ih, splA, if_neg hb]
      exact (splA_head l [b] []).symm

theorem ba_ext {l : List UInt8} {x : ByteArray} (h : x.data.toList = l) : x = ⟨l.toArray⟩ := by
  subst h; cases x; simp
theorem splitB_all (s : ByteArray) : Lib.splitB ⟨#[32]⟩ 0 (Lib.countB s ⟨#[32]⟩) s = (splA [] s.data.toList).map (fun l => ⟨l.toArray⟩) := by
  have h := Lib.splitB_data ⟨#[32]⟩ 0 (Lib.countB s ⟨#[32]⟩) s
  have e : Lib.countB s ⟨#[32]⟩ = s.data.toList.count 32 := count_one s.data.toList
  rw [e] at h ⊢
  rw [← splitK_all]
  have h2 : (Lib.splitB ⟨#[32]⟩ 0 (s.data.toList.count 32) s).map (·.data.toList) = Lib.splitK [32] 0 (s.data.toList.count 32) s.data.toList := h
  rw [← h2, List.map_map]
  conv => lhs; rw [← List.map_id (Lib.splitB ⟨#[32]⟩ 0 (s.data.toList.count 32) s)]
  refine List.map_congr_left fun x _ => ?_
  exact ba_ext rfl
theorem splA_count (l : List UInt8) : ∀ cur, (splA cur l).length = l.count 32 + 1 := by
  induction l with
  | nil => intro cur; rfl
  | cons b l ih =>
    intro cur
    unfold splA
    split
    · rename_i h; subst h; rw [List.length_cons, ih, List.count_cons_self]
    · rename_i h; rw [ih, List.count_cons_of_ne (by simpa using h)]

/-- A line's words: none where a byte is none of a line's, or a word is empty. -/
def okB (b : UInt8) : Bool := decide (32 ≤ b.toNat ∧ b.toNat ≤ 126)
def wds (l : List UInt8) : Option (List (List UInt8)) := if l = [] then some [] else if l.all okB && (splA [] l).all (fun p => decide (p ≠ [])) then some (splA [] l) else none

end Go.Proofs.YtoejflnlkapkiaaDoor
/- The library's contracts at this program (this seat alone: its numbers; written by gensheld.py). -/
namespace Go.Proofs.YtoejflnlkapkiaaDoor
open Go.Shelf Go.ChangeShapes Go.WideShapes Go.ChangeAt Go.RowKit
def lays145_ren : Go.Shelf.Ren := ⟨fun | 145 => 56 | 220 => 71 | 219 => 84 | 217 => 93 | 225 => 97 | 224 => 98 | 267 => 99 | 266 => 105 | 314 => 108 | n => n, fun | 9 => 9 | 4 => 4 | 59 => 99 | 3 => 3 | 5 => 5 | 46 => 98 | 146 => 150 | 51 => 128 | n => n, fun | 1 => 1 | n => n⟩
theorem lays145 : Go.Proofs.Lays.n145 Tryd.prog lays145_ren := {
  mixed := by kernel_rfl
  f145 := Tryd.func56.trans (congrArg some (by kernel_rfl))
  f217 := Tryd.func93.trans (congrArg some (by kernel_rfl))
  f219 := Tryd.func84.trans (congrArg some (by kernel_rfl))
  f220 := Tryd.func71.trans (congrArg some (by kernel_rfl))
  f224 := Tryd.func98.trans (congrArg some (by kernel_rfl))
  f225 := Tryd.func97.trans (congrArg some (by kernel_rfl))
  f266 := Tryd.func105.trans (congrArg some (by kernel_rfl))
  f267 := Tryd.func99.trans (congrArg some (by kernel_rfl))
  f314 := Tryd.func108.trans (congrArg some (by kernel_rfl))
  t3 := Tryd.underlying3
  a3 := Tryd.isAgg3
  z3 := Tryd.sizeOf3
  v3 := Tryd.zeroValue3
  t4 := Tryd.underlying4
  a4 := Tryd.isAgg4
  z4 := Tryd.sizeOf4
  v4 := Tryd.zeroValue4
  t5 := Tryd.underlying5
  a5 := Tryd.isAgg5
  z5 := Tryd.sizeOf5
  v5 := Tryd.zeroValue5
  t9 := Tryd.underlying9
  a9 := Tryd.isAgg9
  z9 := Tryd.sizeOf9
  v9 := Tryd.zeroValue9
  t46 := Tryd.underlying98
  a46 := Tryd.isAgg98
  z46 := Tryd.sizeOf98
  v46 := Tryd.zeroValue98
  t51 := Tryd.underlying128
  a51 := Tryd.isAgg128
  z51 := Tryd.sizeOf128
  v51 := Tryd.zeroValue128
  t59 := Tryd.underlying99
  a59 := Tryd.isAgg99
  z59 := Tryd.sizeOf99
  v59 := Tryd.zeroValue99
  t146 := Tryd.underlying150
  a146 := Tryd.isAgg150
  z146 := Tryd.sizeOf150
  v146 := Tryd.zeroValue150
  g1 := by kernel_rfl }
open Go.RowKit Go.Lib in
theorem c_strings_Cut (s sep : ByteArray) (m : Int) (w : World) (hs : s.size < 4294967281) (hm : w.cell? ⟨1, 0, none⟩ = some (.int .i64 m)) :
    Calls Tryd.prog 56 #[.string s, .string sep] w fun e w' => e = .returned (.tuple #[.string ⟨(Lib.cut s.data.toList sep.data.toList).1.toArray⟩, .string ⟨(Lib.cut s.data.toList sep.data.toList).2.1.toArray⟩, .bool (Lib.cut s.data.toList sep.data.toList).2.2]) ∧ ∃ n, w' = w.drewN n := Any.strings_Cut lays145 s sep m w hs hm
def lays146_ren : Go.Shelf.Ren := ⟨fun | 146 => 57 | 221 => 72 | 268 => 85 | 138 => 86 | 143 => 87 | 195 => 100 | 197 => 101 | 218 => 102 | 219 => 84 | 260 => 109 | 217 => 93 | 225 => 97 | 224 => 98 | 267 => 99 | 266 => 105 | 314 => 108 | n => n, fun | 9 => 9 | 31 => 31 | 3 => 3 | 4 => 4 | 0 => 0 | 105 => 142 | 21 => 21 | 5 => 5 | 46 => 98 | 119 => 155 | 139 => 158 | 138 => 157 | 146 => 150 | 51 => 128 | n => n, fun | 1 => 1 | 3 => 6 | 4 => 7 | n => n⟩
theorem lays146 : Go.Proofs.Lays.n146 Tryd.prog lays146_ren := {
  mixed := by kernel_rfl
  f138 := Tryd.func86.trans (congrArg some (by kernel_rfl))
  f143 := Tryd.func87.trans (congrArg some (by kernel_rfl))
  f146 := Tryd.func57.trans (congrArg some (by kernel_rfl))
  f195 := Tryd.func100.trans (congrArg some (by kernel_rfl))
  f197 := Tryd.func101.trans (congrArg some (by kernel_rfl))
  f217 := Tryd.func93.trans (congrArg some (by kernel_rfl))
  f218 := Tryd.func102.trans (congrArg some (by kernel_rfl))
  f219 := Tryd.func84.trans (congrArg some (by kernel_rfl))
  f221 := Tryd.func72.trans (congrArg some (by kernel_rfl))
  f224 := Tryd.func98.trans (congrArg some (by kernel_rfl))
  f225 := Tryd.func97.trans (congrArg some (by kernel_rfl))
  f260 := Tryd.func109.trans (congrArg some (by kernel_rfl))
  f266 := Tryd.func105.trans (congrArg some (by kernel_rfl))
  f267 := Tryd.func99.trans (congrArg some (by kernel_rfl))
  f268 := Tryd.func85.trans (congrArg some (by kernel_rfl))
  f314 := Tryd.func108.trans (congrArg some (by kernel_rfl))
  t0 := Tryd.underlying0
  a0 := Tryd.isAgg0
  z0 := Tryd.sizeOf0
  v0 := Tryd.zeroValue0
  t3 := Tryd.underlying3
  a3 := Tryd.isAgg3
  z3 := Tryd.sizeOf3
  v3 := Tryd.zeroValue3
  t4 := Tryd.underlying4
  a4 := Tryd.isAgg4
  z4 := Tryd.sizeOf4
  v4 := Tryd.zeroValue4
  t5 := Tryd.underlying5
  a5 := Tryd.isAgg5
  z5 := Tryd.sizeOf5
  v5 := Tryd.zeroValue5
  t9 := Tryd.underlying9
  a9 := Tryd.isAgg9
  z9 := Tryd.sizeOf9
  v9 := Tryd.zeroValue9
  t21 := Tryd.underlying21
  a21 := Tryd.isAgg21
  z21 := Tryd.sizeOf21
  v21 := Tryd.zeroValue21
  t31 := Tryd.underlying31
  a31 := Tryd.isAgg31
  z31 := Tryd.sizeOf31
  v31 := Tryd.zeroValue31
  t46 := Tryd.underlying98
  a46 := Tryd.isAgg98
  z46 := Tryd.sizeOf98
  v46 := Tryd.zeroValue98
  t51 := Tryd.underlying128
  a51 := Tryd.isAgg128
  z51 := Tryd.sizeOf128
  v51 := Tryd.zeroValue128
  t105 := Tryd.underlying142
  a105 := Tryd.isAgg142
  z105 := Tryd.sizeOf142
  v105 := Tryd.zeroValue142
  t119 := Tryd.underlying155
  a119 := Tryd.isAgg155
  z119 := Tryd.sizeOf155
  t138 := Tryd.underlying157
  a138 := Tryd.isAgg157
  z138 := Tryd.sizeOf157
  v138 := Tryd.zeroValue157
  t139 := Tryd.underlying158
  a139 := Tryd.isAgg158
  z139 := Tryd.sizeOf158
  v139 := Tryd.zeroValue158
  t146 := Tryd.underlying150
  a146 := Tryd.isAgg150
  z146 := Tryd.sizeOf150
  v146 := Tryd.zeroValue150
  g1 := by kernel_rfl
  g3 := by kernel_rfl
  g4 := by kernel_rfl }
open Go.RowKit Go.Lib in
theorem c_strings_Split (s sep : ByteArray) (m : Int) (w : World) (hs : s.size < 4294967281) (hm : w.cell? ⟨1, 0, none⟩ = some (.int .i64 m)) (h1 : 1 ≤ sep.size) :
    Calls Tryd.prog 57 #[.string s, .string sep] w fun e w' =>
      e = .returned (.slice (some ⟨w.heap.size, 0, none⟩) (Lib.countB s sep + 1) (Lib.countB s sep + 1)) ∧ w' = w.alloc (.cells ((Lib.splitB sep 0 (Lib.countB s sep) s).map Value.string).toArray 9) := Any.strings_Split lays146 (by kernel_rfl) s sep m w hs hm h1
end Go.Proofs.YtoejflnlkapkiaaDoor
/- The reference's Same of ints: are two rows one? -/
namespace Go.Proofs.YtoejflnlkapkiaaDoor
open Go.ChangeShapes Go.WideShapes Go.ChangeAt Go.RowKit
set_option linter.unusedVariables false
theorem r3_samei (p q : Option Addr) (c d : Nat) (xs ys : List Int) (w : World) (hr : Reads .i64 w p xs) (hr2 : Reads .i64 w q ys) (hl : xs.length ≤ 9223372036854775807) :
    Calls Tryd.prog 29 #[.slice p xs.length c, .slice q ys.length d] w fun e w' => e = .returned (.bool (decide (xs = ys))) ∧ Below w.heap.size w w' := by
  by_cases hne : xs.length = ys.length
  · obtain ⟨n, hn⟩ : ∃ n, xs.length = n := ⟨_, rfl⟩
    have hny : ys.length = n := by rw [← hne, hn]
    rw [hn] at hl ⊢
    rw [hny]
    have HN := Lib.hid hn
    have HNY := Lib.hid hny
    have HR := Lib.hid hr
    have HR2 := Lib.hid hr2
    have hq : ((n : Int) != (n : Int)) = false := by simp
    clear hn hny hr hr2 hne
    go_enter Tryd.func29, Tryd.ntmps29
    go_wp2_with fail
    go_loopw [5] (fun i wr => ∃ k : Nat, k ≤ n ∧ i = .int .i64 k ∧ Hid (xs.take k = ys.take k) ∧ Below w.heap.size w wr) (fun i _ => n - (intOf i).toNat)
    case atStart => exact ⟨0, Nat.zero_le _, rfl, Lib.hid rfl, Below.refl _ _⟩
    case round =>
      obtain ⟨k, hk, rfl, HT, hB⟩ := hrel
      by_cases hlt : k < n
      · rcases HR.out with hnil | ⟨b, off, rfl, hb, hcell⟩
        · have := HN.out; rw [hnil] at this; simp at this; omega
        rcases HR2.out with hnil | ⟨b', off', rfl, hb', hcell'⟩
        · have := HNY.out; rw [hnil] at this; simp at this; omega
        have hc0 := hcell k (by rw [HN.out]; exact hlt)
        have hc0' := hcell' k (by rw [HNY.out]; exact hlt)
        have HS := Lib.hid (fun e => take_eq_step HT.out (by rw [HN.out]; exact hlt) (by rw [HNY.out]; exact hlt) e)
        have HD := Lib.hid (ne_of_at (xs := xs) (ys := ys) (k := k))
        clear hcell hcell'
        generalize xs.getD k 0 = x at *
        generalize ys.getD k 0 = y at *
        have hc : wr.cell? ⟨b, off + k, none⟩ = some (.int .i64 x) := (hB.cell (p := ⟨b, off + k, none⟩) hb).trans hc0
        have hc' : wr.cell? ⟨b', off' + k, none⟩ = some (.int .i64 y) := (hB.cell (p := ⟨b', off' + k, none⟩) hb').trans hc0'
        clear hc0 hc0'
        by_cases hxy : x = y
        · have HG := Lib.hid (HS.out hxy)
          have hq2 : (x != y) = false := by simpa using hxy
          clear hxy
          go_wp2_with fail
          go_quiet (fail)
          go_wp2_with fail
          go_roundw
          case rel => exact ⟨k + 1, by omega, by go_num, HG, below_drewN hB _⟩
          case measure => (first | (simp [intOf]; done) | (simp [intOf]; omega) | (simp only [intOf]; omega))
        · have HG := Lib.hid (HD.out hxy)
          have hq2 : (x != y) = true := by simpa using hxy
          clear hxy
          go_wp2_with fail
          go_quiet (fail)
          go_wp2_with fail
          go_ret
          exact ⟨ret_bool (by simp [HG.out]), below_drewN hB _⟩
      · obtain rfl : k = n := by omega
        have hfin : xs = ys := by
          have := HT.out
          rwa [List.take_of_length_le (by rw [HN.out]; exact Nat.le_refl _), List.take_of_length_le (by rw [HNY.out]; exact Nat.le_refl _)] at this
        have HG := Lib.hid hfin
        clear hfin
        go_wp2_with fail
        go_ret
        exact ⟨ret_bool (by simp [HG.out]), hB⟩
  · have hq : ((xs.length : Int) != (ys.length : Int)) = true := by simp; omega
    have HG := Lib.hid (show xs ≠ ys from fun e => hne (by rw [e]))
    clear hne
    go_enter Tryd.func29, Tryd.ntmps29
    go_wp2_with fail
    go_ret
    exact ⟨ret_bool (by simp [HG.out]), Below.refl _ _⟩

/-- Two rows of ints. -/
theorem c_samei {w : World} {p q : Option Addr} {n c d : Nat} {xs : List Int} (h : RowI w p n xs) (k : RowI w q n xs) : Calls Tryd.prog 29 #[.slice p n c, .slice q n d] w fun e w' => e = .returned (.bool true) ∧ Below w.heap.size w w' := by
  obtain ⟨rfl, hr, hw, hs⟩ := h
  obtain ⟨_, kr, kw, _⟩ := k
  have := r3_samei p q c d xs xs w hr kr (by omega)
  rwa [decide_eq_true rfl] at this
end Go.Proofs.YtoejflnlkapkiaaDoor
/- Package script's Parse, of a text without a line feed, and of one that is too big; zero scripts are alike. -/
namespace Go.Proofs.YtoejflnlkapkiaaDoor
open Go.ChangeShapes Go.WideShapes Go.ChangeAt Go.RowKit
set_option linter.unusedVariables false
set_option linter.unusedSimpArgs false
def MaxAt (w : World) : Prop := ∃ m, w.cell? ⟨1, 0, none⟩ = some (.int .i64 m)
theorem MaxAt.below {w w' : World} {B : Nat} (h : MaxAt w) (hb : Below B w w') (h1 : 1 < B) : MaxAt w' := by
  obtain ⟨m, h⟩ := h
  exact ⟨m, (hb.cell (p := ⟨1, 0, none⟩) h1).trans h⟩
set_option maxRecDepth 100000 in
theorem sc_line_none (s : ByteArray) (hs : s.size < 4294967281) (hn : Lib.index s.data.toList [10] = -1) (W : World) (hm : MaxAt W) :
    Calls Tryd.prog 45 #[.string s, .int .i64 0] W fun e w' => e = .returned (.tuple #[.string ⟨#[]⟩, .int .i64 0, .bool false]) ∧ Below W.heap.size W w' := by
  obtain ⟨m, hm⟩ := hm
  have hsl : ∀ wx, (Instr.slice 9 (.string s) (some (.int .i64 0)) none none).run Tryd.prog wx = .ok (.string s) wx := fun wx => by
    have h := run_slice_string_from_if (P := Tryd.prog) wx 9 s .i64 0 Tryd.underlying9
    rw [h]
    simp
  have d2 : decide ((0 : Int) > (s.size : Int)) = false := decide_eq_false (by omega)
  have d2' : decide ((s.size : Int) < 0) = false := decide_eq_false (by omega)
  have d3 : decide (s.size < 0) = false := decide_eq_false (by omega)
  have C := c_strings_Cut s ⟨#[10]⟩ m W hs hm
  have hcut : Lib.cut s.data.toList ((⟨#[10]⟩ : ByteArray).data.toList) = (s.data.toList, [], false) := by
    show Lib.cut s.data.toList [10] = _
    unfold Lib.cut
    rw [hn]; rfl
  rw [hcut] at C
  have C := Lib.hid C
  clear hcut hn hm
  go_enter Tryd.func45, Tryd.ntmps45
  go_wp2_with fail
  refine C.out.mono ?_
  rintro e w1 ⟨rfl, q, hq⟩
  have HB := Lib.hid (show Below W.heap.size W w1 by rw [hq]; exact below_drewN (Below.refl _ _) q)
  clear hq
  go_wp2_with fail
  go_ret3
  exact ⟨rfl, HB.out⟩
set_option maxRecDepth 100000 in
theorem sc_words_none (s : ByteArray) (hs : s.size < 4294967281) (hn : Lib.index s.data.toList [10] = -1) (W : World) (hm : MaxAt W) :
    Calls Tryd.prog 27 #[.string s, .int .i64 0] W fun e w' => e = .returned (.tuple #[.slice none 0 0, .int .i64 0, .bool false]) ∧ Below W.heap.size W w' := by
  have C := Lib.hid (sc_line_none s hs hn W hm)
  clear hs hn hm
  go_enter Tryd.func27, Tryd.ntmps27
  go_wp2_with fail
  refine C.out.mono ?_
  rintro e w1 ⟨rfl, hb⟩
  have HB := Lib.hid hb
  clear hb
  go_wp2_with fail
  go_ret3
  exact ⟨rfl, HB.out⟩
theorem sc_res3 {P : Program} {fn : Func} {p a b : Tmp} {ty : TypeId} (h : fn.results = #[.cell p ty, .tmp a, .tmp b]) (tmps : Array Value) (w : World) (g : Nat) (t : TypeId) (cs : Array Value) (fr : Nat × Nat) (d : TypeDesc) (x y : Value)
    (hp : tmps.getD p undef = .pointer (some ⟨g, 0, none⟩)) (ha : tmps.getD a undef = x) (hb : tmps.getD b undef = y) (hg : w.heap[g]? = some (.cells cs t fr))
    (hu : P.underlying ty = some d) (hd : (match d with | .struct _ | .array _ _ => true | _ => false) = true) (hi : (P.info? ty).map (·.size) = some cs.size) :
    (results fn tmps).run P w = .ok (.tuple #[.agg cs, x, y]) w := by
  have e : tmps[p]?.getD undef = .pointer (some ⟨g, 0, none⟩) := by simpa using hp
  have ea : tmps[a]?.getD undef = x := by simpa using ha
  have eb : tmps[b]?.getD undef = y := by simpa using hb
  simp [results, h, e, ea, eb, asAddr, run_loadVar_row w g t ty cs fr d hg hu hd hi]
theorem s5_row {w : World} {b : Nat} {T : TypeId} {c0 c1 c2 c3 c4 a0 a1 a2 a3 a4 : Value} (h : w.heap[b]? = some (.cells #[c0, c1, c2, c3, c4] T (0, 0))) : (((((w.setCell ⟨b, 0, none⟩ a0).setCell ⟨b, 1, none⟩ a1).setCell ⟨b, 2, none⟩ a2).setCell ⟨b, 3, none⟩ a3).setCell ⟨b, 4, none⟩ a4).heap[b]? = some (.cells #[a0, a1, a2, a3, a4] T (0, 0)) := by
  have h0 := row_setC (o := 0) h a0
  have h1 := row_setC (o := 1) h0 a1
  have h2 := row_setC (o := 2) h1 a2
  have h3 := row_setC (o := 3) h2 a3
  have h4 := row_setC (o := 4) h3 a4
  rw [h4]
  simp only [List.setIfInBounds_toArray, List.set_cons_zero, List.set_cons_succ]
theorem s5_below {W w : World} {b B : Nat} {a0 a1 a2 a3 a4 : Value} (h : Below B W w) (hb : B ≤ b) : Below B W (((((w.setCell ⟨b, 0, none⟩ a0).setCell ⟨b, 1, none⟩ a1).setCell ⟨b, 2, none⟩ a2).setCell ⟨b, 3, none⟩ a3).setCell ⟨b, 4, none⟩ a4) :=
  ((((h.setCell (p := ⟨b, 0, none⟩) hb a0).setCell (p := ⟨b, 1, none⟩) hb a1).setCell (p := ⟨b, 2, none⟩) hb a2).setCell (p := ⟨b, 3, none⟩) hb a3).setCell (p := ⟨b, 4, none⟩) hb a4
def zeroSc : Value := .agg #[.int .i64 0, .int .i64 0, .slice none 0 0, .slice none 0 0, .slice none 0 0]
set_option maxRecDepth 100000 in
theorem sc_parse_big (s : ByteArray) (hs : 1048576 < s.size) (W : World) :
    Calls Tryd.prog 12 #[.string s] W fun e w' => e = .returned (.tuple #[zeroSc, .int .i64 0, .int .i64 12]) ∧ Below W.heap.size W w' := by
  have d1 : decide ((1048576 : Int) < (s.size : Int)) = true := decide_eq_true (by omega)
  have d1' : decide (1048576 < s.size) = true := decide_eq_true (by omega)
  have HB := Lib.hid ((Below.refl W.heap.size W).alloc (Nat.le_refl _) (.cells #[.int .i64 0, .int .i64 0, .slice none 0 0, .slice none 0 0, .slice none 0 0] 25))
  go_enter Tryd.func12, Tryd.ntmps12
  go_wp2_with fail
  refine bodyPost_ret (sc_res3 (p := 2) (a := 3) (b := 4) (ty := 25) rfl _ _ W.heap.size 25 #[.int .i64 0, .int .i64 0, .slice none 0 0, .slice none 0 0, .slice none 0 0] (0, 0) _ (.int .i64 0) (.int .i64 12) rfl rfl rfl (heap_alloc_new _ _) Tryd.underlying25 rfl (by kernel_rfl)) rfl ?_
  exact ⟨rfl, HB.out⟩
set_option maxRecDepth 100000 in
theorem sc_parse_none (s : ByteArray) (h0 : 0 < s.size) (hs : s.size ≤ 1048576) (hn : Lib.index s.data.toList [10] = -1) (W : World) (hm : MaxAt W) (h1 : 1 < W.heap.size) :
    Calls Tryd.prog 12 #[.string s] W fun e w' => e = .returned (.tuple #[zeroSc, .int .i64 1, .int .i64 10]) ∧ Below W.heap.size W w' := by
  have d1 : decide ((1048576 : Int) < (s.size : Int)) = false := decide_eq_false (by omega)
  have d1' : decide (1048576 < s.size) = false := decide_eq_false (by omega)
  have d2 : decide ((0 : Int) < (s.size : Int)) = true := decide_eq_true (by omega)
  have d2' : decide (0 < s.size) = true := decide_eq_true (by omega)
  obtain ⟨w0, hw0, r0, hB0, hs0⟩ := boxG W #[.int .i64 0, .int .i64 0, .slice none 0 0, .slice none 0 0, .slice none 0 0] 25
  have C := Lib.hid (sc_words_none s (by omega) hn w0 (hm.below hB0 h1))
  have HR0 := Lib.hid r0
  have HB0 := Lib.hid hB0
  have HS0 := Lib.hid hs0
  clear h0 hs hn hm r0 hB0 hs0 h1
  go_enter Tryd.func12, Tryd.ntmps12
  go_wp2_with fail
  refine wp_loop_rounds 1 ?_
  rw [rounds_succ]
  go_wp2_with fail
  refine C.out.mono ?_
  rintro e w1 ⟨rfl, hb1⟩
  have HR1 := Lib.hid ((hb1.block _ (by have := HS0.out; omega)).trans HR0.out)
  have HB1 := Lib.hid (HB0.out.trans (hb1.mono HB0.out.size))
  have c0 := frozen_of_row w1 W.heap.size 0 _ _ HR1.out
  have c1 := frozen_of_row w1 W.heap.size 1 _ _ HR1.out
  have c2 := frozen_of_row w1 W.heap.size 2 _ _ HR1.out
  have c3 := frozen_of_row w1 W.heap.size 3 _ _ HR1.out
  have c4 := frozen_of_row w1 W.heap.size 4 _ _ HR1.out
  have e0 : w1.cell? ⟨W.heap.size, 0, none⟩ = some (.int .i64 0) := by rw [cell_of_row _ _ _ _ _ _ HR1.out]; rfl
  have e1 : w1.cell? ⟨W.heap.size, 1, none⟩ = some (.int .i64 0) := by rw [cell_of_row _ _ _ _ _ _ HR1.out]; rfl
  have e2 : w1.cell? ⟨W.heap.size, 2, none⟩ = some (.slice none 0 0) := by rw [cell_of_row _ _ _ _ _ _ HR1.out]; rfl
  have e3 : w1.cell? ⟨W.heap.size, 3, none⟩ = some (.slice none 0 0) := by rw [cell_of_row _ _ _ _ _ _ HR1.out]; rfl
  have e4 : w1.cell? ⟨W.heap.size, 4, none⟩ = some (.slice none 0 0) := by rw [cell_of_row _ _ _ _ _ _ HR1.out]; rfl
  clear hb1
  go_wp2_with fail
  refine bodyPost_ret (sc_res3 (p := 2) (a := 3) (b := 4) (ty := 25) rfl _ _ W.heap.size 25 #[.int .i64 0, .int .i64 0, .slice none 0 0, .slice none 0 0, .slice none 0 0] (0, 0) _ (.int .i64 1) (.int .i64 10) rfl rfl rfl (s5_row HR1.out) Tryd.underlying25 rfl (by kernel_rfl)) rfl ?_
  exact ⟨rfl, s5_below HB1.out (Nat.le_refl _)⟩
theorem sc_cells5 {w : World} {b : Nat} {T : TypeId} {x0 x1 x2 x3 x4 : Value} (h : w.heap[b]? = some (.cells #[x0, x1, x2, x3, x4] T (0, 0))) :
    w.cell? ⟨b, 0, none⟩ = some x0 ∧ w.cell? ⟨b, 1, none⟩ = some x1 ∧ w.cell? ⟨b, 2, none⟩ = some x2 ∧ w.cell? ⟨b, 3, none⟩ = some x3 ∧ w.cell? ⟨b, 4, none⟩ = some x4 := by
  refine ⟨?_, ?_, ?_, ?_, ?_⟩ <;> (rw [cell_of_row _ _ _ _ _ _ h]; rfl)
set_option maxRecDepth 100000 in
theorem l42_alike0 (W : World) : Calls Tryd.prog 14 #[zeroSc, zeroSc] W fun e w' => e = .returned (.bool true) ∧ Below W.heap.size W w' := by
  have SM := Lib.hid (fun (w : World) => c_samei (w := w) (c := 0) (d := 0) (rowI_nil w) (rowI_nil w))
  obtain ⟨w0, hw0, r0, hB0, hs0⟩ := boxG W #[.int .i64 0, .int .i64 0, .slice none 0 0, .slice none 0 0, .slice none 0 0] 25
  obtain ⟨w1, hw1, r1, hB1, hs1⟩ := boxG w0 #[.int .i64 0, .int .i64 0, .slice none 0 0, .slice none 0 0, .slice none 0 0] 34
  have HF := Lib.hid (fun (u : World) (hu : Below w1.heap.size w1 u) => And.intro (sc_cells5 ((hu.block _ (by omega)).trans ((hB1.block _ (by omega)).trans r0))) (sc_cells5 ((hu.block _ (by omega)).trans r1)))
  obtain ⟨⟨x0, x1, x2, x3, x4⟩, ⟨y0, y1, y2, y3, y4⟩⟩ := HF.out w1 (Below.refl _ _)
  have HB := Lib.hid (hB0.trans (hB1.mono (by omega)))
  clear r0 r1 hB0 hB1 hs0 hs1
  unfold zeroSc
  go_enter Tryd.func14, Tryd.ntmps14
  go_wp2_with fail
  refine (SM.out _).mono ?_
  rintro e w2 ⟨rfl, hb2⟩
  obtain ⟨⟨x0, x1, x2, x3, x4⟩, ⟨y0, y1, y2, y3, y4⟩⟩ := HF.out w2 hb2
  have HB2 := Lib.hid hb2
  clear hb2
  go_wp2_with fail
  refine (SM.out _).mono ?_
  rintro e w3 ⟨rfl, hb3⟩
  have HB3 := Lib.hid (HB2.out.trans (hb3.mono HB2.out.size))
  obtain ⟨⟨x0, x1, x2, x3, x4⟩, ⟨y0, y1, y2, y3, y4⟩⟩ := HF.out w3 HB3.out
  have HF3 := Lib.hid (HB.out.trans (HB3.out.mono HB.out.size))
  clear hb3
  go_wp2_with fail
  refine wp_loop_rounds 1 ?_
  rw [rounds_succ]
  go_wp2_with fail
  go_ret
  exact ⟨rfl, HF3.out⟩
end Go.Proofs.YtoejflnlkapkiaaDoor
/- lex.Words and the reference's. -/
namespace Go.Proofs.YtoejflnlkapkiaaDoor
open Go.ChangeShapes Go.WideShapes Go.ChangeAt Go.RowKit
set_option linter.unusedVariables false
set_option linter.unusedSimpArgs false

/-- A row of texts. -/
def encS (l : List (List UInt8)) : List Value := l.map (fun p => .string ⟨p.toArray⟩)
theorem encS_at (l : List (List UInt8)) (i : Nat) : (encS l)[i]? = (l[i]?).map (fun p => .string ⟨p.toArray⟩) := by unfold encS; rw [List.getElem?_map]
theorem bt_list (s : ByteArray) (i : Nat) (h : i < s.size) : s.data.toList[i]? = some (s[i]'h) ∧ bt s i = (s[i]'h).toNat := ⟨by simp [ByteArray.getElem_eq_getElem_data, h], (bt_eq s i h).symm⟩
theorem ext_drop (s : ByteArray) (i : Nat) (h : i < s.size) : s.data.toList.drop i = (s[i]'h) :: s.data.toList.drop (i + 1) := by
  rw [List.drop_eq_getElem_cons (by simpa using h)]
  simp [ByteArray.getElem_eq_getElem_data]
theorem str_nil (s : ByteArray) : s.toList.isEmpty = decide (s.data.toList = []) := by
  rw [Lib.toList_data]
  cases h : s.data.toList with
  | nil => rfl
  | cons a l => rfl
theorem all_ok (s : ByteArray) : s.data.toList.all okB = true ↔ ∀ j, j < s.size → 32 ≤ bt s j ∧ bt s j ≤ 126 := by
  rw [List.all_eq_true]
  constructor
  · intro h j hj
    have := h (s[j]'hj) (List.mem_of_getElem? (bt_list s j hj).1)
    simpa [okB, (bt_list s j hj).2] using this
  · intro h x hx
    obtain ⟨j, hj, rfl⟩ := List.getElem_of_mem hx
    have hj' : j < s.size := by rw [Lib.size_eq]; exact hj
    have := h j hj'
    rw [(bt_list s j hj').2] at this
    simp [okB]
    simpa [ByteArray.getElem_eq_getElem_data] using this

theorem c_split (s : ByteArray) (hs : s.size ≤ 1000000) (w : World) (hm : ∃ m, w.cell? ⟨1, 0, none⟩ = some (.int .i64 m)) : Calls Tryd.prog 57 #[.string s, .string ⟨#[32]⟩] w fun e w' => ∃ n, n = (splA [] s.data.toList).length ∧ n ≤ 1000001 ∧ e = .returned (.slice (some ⟨w.heap.size, 0, none⟩) n n) ∧ w'.ownsRow w.heap.size 9 1 (.slice (some ⟨w.heap.size, 0, none⟩) n n) n (encS (splA [] s.data.toList)) ∧ Below w.heap.size w w' := by
  obtain ⟨m, hm⟩ := hm
  refine (c_strings_Split s ⟨#[32]⟩ m w (by omega) hm (by decide)).mono ?_
  rintro e w' ⟨rfl, rfl⟩
  have hc : Lib.countB s ⟨#[32]⟩ = s.data.toList.count 32 := count_one s.data.toList
  have hl := splA_count s.data.toList []
  have hle : s.data.toList.count 32 ≤ s.size := by rw [Lib.size_eq]; exact List.count_le_length
  rw [splitB_all, hc, ← hl]
  refine ⟨_, rfl, by omega, rfl, ⟨by simp [encS], .inr ⟨_, _, _, rfl, Nat.le_refl _, heap_alloc_new _ _, Nat.le_refl _, ?_, by simp, ?_⟩⟩, (Below.refl _ _).alloc (Nat.le_refl _) _⟩
  · unfold maxLen; omega
  · simp [encS, List.map_map]
    rw [List.take_of_length_le (by simp)]
    rfl

set_option maxRecDepth 100000 in
set_option maxHeartbeats 4000000 in
theorem lex_words (s : ByteArray) (hs : s.size ≤ 1000000) (w : World) (hm : ∃ m, w.cell? ⟨1, 0, none⟩ = some (.int .i64 m)) :
    Calls Tryd.prog 46 #[.string s] w fun e w' => Below w.heap.size w w' ∧ ((wds s.data.toList = none ∧ e = .returned (.tuple #[.slice none 0 0, .int .i64 10])) ∨
      ∃ l v, wds s.data.toList = some l ∧ e = .returned (.tuple #[v, .int .i64 0]) ∧ w'.ownsRow w.heap.size 9 1 v l.length (encS l)) := by
  by_cases h0 : s.data.toList = []
  · have e0 : s.toList.isEmpty = true := by rw [str_nil]; exact decide_eq_true h0
    go_enter Tryd.func46, Tryd.ntmps46
    go_wp2
    go_ret2
    exact ⟨Below.refl _ _, .inr ⟨[], _, by rw [h0]; rfl, rfl, World.ownsRow_nil _ _ _ _⟩⟩
  · have e0 : s.toList.isEmpty = false := by rw [str_nil]; exact decide_eq_false h0
    have C := Lib.hid (c_split s hs w hm)
    go_enter Tryd.func46, Tryd.ntmps46
    go_wp2
    go_loopw [12] (fun x wi => ∃ i : Nat, x = .int .i64 i ∧ i ≤ s.size ∧ Hid (∀ j, j < i → 32 ≤ bt s j ∧ bt s j ≤ 126) ∧ w = wi) (fun x _ => s.size - (intOf x).toNat)
    case atStart => exact ⟨0, rfl, by omega, Lib.hid (fun j hj => absurd hj (Nat.not_lt_zero _)), rfl⟩
    case round =>
      obtain ⟨i, rfl, hi, HO, rfl⟩ := hrel
      by_cases hlt : i < s.size
      · have d1 : decide ((i : Int) < (s.size : Int)) = true := decide_eq_true (by omega)
        have d1' : decide (i < s.size) = true := decide_eq_true hlt
        have hix := idx_at s i hlt
        by_cases hok : 32 ≤ bt s i ∧ bt s i ≤ 126
        · have d2 : decide ((bt s i : Int) < 32) = false := decide_eq_false (by omega)
          have d3 : decide ((bt s i : Int) > 126) = false := decide_eq_false (by omega)
          have d2' : decide ((bt s i) < 32) = false := decide_eq_false (by omega)
          have d3' : decide (126 < bt s i) = false := decide_eq_false (by omega)
          go_wp2
          go_roundw
          case rel => exact ⟨i + 1, rfl, by omega, Lib.hid (fun j hj => by
            by_cases e : j = i
            · rw [e]; exact hok
            · exact HO.out j (by omega)), by first | rfl | trivial⟩
          case measure => (first | (simp [intOf]; done) | (simp [intOf]; omega) | (simp only [intOf]; omega))
        · have hn : wds s.data.toList = none := by
            unfold wds
            rw [if_neg h0, if_neg]
            intro h
            rw [Bool.and_eq_true] at h
            exact hok ((all_ok s).1 h.1 i hlt)
          by_cases h32 : bt s i < 32
          · have d2 : decide ((bt s i : Int) < 32) = true := decide_eq_true (by omega)
            have d2' : decide ((bt s i) < 32) = true := decide_eq_true (by omega)
            go_wp2
            go_ret2
            exact ⟨Below.refl _ _, .inl ⟨hn, rfl⟩⟩
          · have d2 : decide ((bt s i : Int) < 32) = false := decide_eq_false (by omega)
            have d2' : decide ((bt s i) < 32) = false := decide_eq_false (by omega)
            have d3 : decide ((bt s i : Int) > 126) = true := decide_eq_true (by omega)
            have d3' : decide (126 < bt s i) = true := decide_eq_true (by omega)
            go_wp2
            go_ret2
            exact ⟨Below.refl _ _, .inl ⟨hn, rfl⟩⟩
      · obtain rfl : i = s.size := by omega
        have hall := (all_ok s).2 HO.out
        have d1 : decide ((s.size : Int) < (s.size : Int)) = false := decide_eq_false (by omega)
        clear HO
        go_wp2_with fail
        refine C.out.mono ?_
        rintro e w1 ⟨n, hn, hn9, rfl, ho, hB⟩
        obtain ⟨P, hP⟩ : ∃ P, splA [] s.data.toList = P := ⟨_, rfl⟩
        rw [hP] at hn ho
        have hw : wds s.data.toList = if P.all (fun p => decide (p ≠ [])) then some P else none := by
          unfold wds; rw [if_neg h0, hall, hP]; simp
        have HN : Hid (n = P.length) := Lib.hid hn
        have HW := Lib.hid hw
        clear C hall hP h0 e0 hn hw
        go_wp2_with fail
        go_loopw [30] (fun x wi => ∃ i : Nat, x = .int .i64 i ∧ i ≤ n ∧ Hid (∀ j p, j < i → P[j]? = some p → p ≠ []) ∧ w1 = wi) (fun x _ => n - (intOf x).toNat)
        case atStart => exact ⟨0, rfl, by omega, Lib.hid (fun j p hj => absurd hj (Nat.not_lt_zero _)), rfl⟩
        case round =>
          obtain ⟨i, rfl, hi, HO, rfl⟩ := hrel
          by_cases hlt : i < n
          · have d1 : decide ((i : Int) < (n : Int)) = true := decide_eq_true (by omega)
            have d1' : decide (i < n) = true := decide_eq_true hlt
            obtain ⟨p, hp⟩ : ∃ p, P[i]? = some p := ⟨P[i]'(by rw [← HN.out]; exact hlt), by simp⟩
            obtain ⟨sp, hsp⟩ : ∃ sp : ByteArray, sp = ⟨p.toArray⟩ := ⟨_, rfl⟩
            have c0 : w1.cell? ⟨w.heap.size, i, none⟩ = some (.string sp) := by
              rcases own_form ho with ⟨h, -, -⟩ | ⟨g, c, hv, hg1, hg2, hg3, hg4, hcell⟩
              · cases h
              · injection hv with v1 v2 v3
                injection v1 with v1
                injection v1 with v1
                subst v1
                obtain ⟨u, h1, h2, _⟩ := hcell i (by omega)
                rw [encS_at, hp] at h1
                rw [h2, ← h1, hsp]; rfl
            have hsn := str_nil sp
            have hsd : sp.data.toList = p := by rw [hsp]
            rw [hsd] at hsn
            clear hsd hsp
            by_cases hpn : p = []
            · have e1 : sp.toList.isEmpty = true := by rw [hsn]; simp [hpn]
              have hno : wds s.data.toList = none := by
                rw [HW.out, if_neg]
                intro h
                rw [List.all_eq_true] at h
                have := h p (List.mem_of_getElem? hp)
                simp [hpn] at this
              clear hpn hsn
              go_wp2
              go_ret2
              exact ⟨hB, .inl ⟨hno, rfl⟩⟩
            · have e1 : sp.toList.isEmpty = false := by rw [hsn]; simp [hpn]
              go_wp2
              go_roundw
              case rel => exact ⟨i + 1, rfl, by omega, Lib.hid (fun j q hj hq => by
                by_cases e : j = i
                · rw [e, hp] at hq; injection hq with hq; rw [← hq]; exact hpn
                · exact HO.out j q (by omega) hq), by first | rfl | trivial⟩
              case measure => (first | (simp [intOf]; done) | (simp [intOf]; omega) | (simp only [intOf]; omega))
          · obtain rfl : i = n := by omega
            have d1 : decide ((i : Int) < (i : Int)) = false := decide_eq_false (by omega)
            have hyes : wds s.data.toList = some P := by
              rw [HW.out, if_pos]
              rw [List.all_eq_true]
              intro q hq
              obtain ⟨j, hj, rfl⟩ := List.getElem_of_mem hq
              exact decide_eq_true (HO.out j _ (by rw [HN.out]; exact hj) (by simp))
            clear HO HW
            go_wp2
            go_ret2
            exact ⟨hB, .inr ⟨P, _, hyes, rfl, by rw [← HN.out]; exact ho⟩⟩
end Go.Proofs.YtoejflnlkapkiaaDoor
