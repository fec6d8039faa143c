/- Put together by program (merge2.py): Shele Lexfd Lexgd Gram. -/
import Derived.Shelf.Strings.Split
import Derived.Shelf.Strings.OnBuilder
import Derived.Shelf.LaysM
import Derived.Laws.Concat
import Derived.Test.YtafmiilkdhdngaaGreatDoorD11
import Derived.Test.YtafmiilkdhdngaaGreatDoorR11
/- The library's contracts at this program (this seat alone: its numbers; written by gensheld.py). -/
namespace Go.Proofs.YtafmiilkdhdngaaGreatDoor
open Go.Shelf Go.ChangeShapes Go.WideShapes Go.ChangeAt Go.RowKit
def lays146_ren : Go.Shelf.Ren := ⟨fun | 146 => 71 | 221 => 90 | 268 => 106 | 138 => 107 | 143 => 108 | 195 => 121 | 197 => 122 | 218 => 123 | 219 => 105 | 260 => 137 | 217 => 117 | 225 => 118 | 224 => 119 | 267 => 120 | 266 => 135 | 314 => 136 | n => n, fun | 9 => 9 | 31 => 83 | 3 => 3 | 4 => 4 | 0 => 0 | 105 => 164 | 21 => 21 | 5 => 5 | 46 => 156 | 119 => 180 | 139 => 183 | 138 => 182 | 146 => 172 | 51 => 169 | n => n, fun | 1 => 0 | 3 => 2 | 4 => 3 | n => n⟩
theorem lays146 : Go.Proofs.Lays.n146 Tryz.prog lays146_ren := {
  mixed := by kernel_rfl
  f138 := Tryz.func107.trans (congrArg some (by kernel_rfl))
  f143 := Tryz.func108.trans (congrArg some (by kernel_rfl))
  f146 := Tryz.func71.trans (congrArg some (by kernel_rfl))
  f195 := Tryz.func121.trans (congrArg some (by kernel_rfl))
  f197 := Tryz.func122.trans (congrArg some (by kernel_rfl))
  f217 := Tryz.func117.trans (congrArg some (by kernel_rfl))
  f218 := Tryz.func123.trans (congrArg some (by kernel_rfl))
  f219 := Tryz.func105.trans (congrArg some (by kernel_rfl))
  f221 := Tryz.func90.trans (congrArg some (by kernel_rfl))
  f224 := Tryz.func119.trans (congrArg some (by kernel_rfl))
  f225 := Tryz.func118.trans (congrArg some (by kernel_rfl))
  f260 := Tryz.func137.trans (congrArg some (by kernel_rfl))
  f266 := Tryz.func135.trans (congrArg some (by kernel_rfl))
  f267 := Tryz.func120.trans (congrArg some (by kernel_rfl))
  f268 := Tryz.func106.trans (congrArg some (by kernel_rfl))
  f314 := Tryz.func136.trans (congrArg some (by kernel_rfl))
  t0 := Tryz.underlying0
  a0 := Tryz.isAgg0
  z0 := Tryz.sizeOf0
  v0 := Tryz.zeroValue0
  t3 := Tryz.underlying3
  a3 := Tryz.isAgg3
  z3 := Tryz.sizeOf3
  v3 := Tryz.zeroValue3
  t4 := Tryz.underlying4
  a4 := Tryz.isAgg4
  z4 := Tryz.sizeOf4
  v4 := Tryz.zeroValue4
  t5 := Tryz.underlying5
  a5 := Tryz.isAgg5
  z5 := Tryz.sizeOf5
  v5 := Tryz.zeroValue5
  t9 := Tryz.underlying9
  a9 := Tryz.isAgg9
  z9 := Tryz.sizeOf9
  v9 := Tryz.zeroValue9
  t21 := Tryz.underlying21
  a21 := Tryz.isAgg21
  z21 := Tryz.sizeOf21
  v21 := Tryz.zeroValue21
  t31 := Tryz.underlying83
  a31 := Tryz.isAgg83
  z31 := Tryz.sizeOf83
  v31 := Tryz.zeroValue83
  t46 := Tryz.underlying156
  a46 := Tryz.isAgg156
  z46 := Tryz.sizeOf156
  v46 := Tryz.zeroValue156
  t51 := Tryz.underlying169
  a51 := Tryz.isAgg169
  z51 := Tryz.sizeOf169
  v51 := Tryz.zeroValue169
  t105 := Tryz.underlying164
  a105 := Tryz.isAgg164
  z105 := Tryz.sizeOf164
  v105 := Tryz.zeroValue164
  t119 := Tryz.underlying180
  a119 := Tryz.isAgg180
  z119 := Tryz.sizeOf180
  t138 := Tryz.underlying182
  a138 := Tryz.isAgg182
  z138 := Tryz.sizeOf182
  v138 := Tryz.zeroValue182
  t139 := Tryz.underlying183
  a139 := Tryz.isAgg183
  z139 := Tryz.sizeOf183
  v139 := Tryz.zeroValue183
  t146 := Tryz.underlying172
  a146 := Tryz.isAgg172
  z146 := Tryz.sizeOf172
  v146 := Tryz.zeroValue172
  g1 := by kernel_rfl
  g3 := by kernel_rfl
  g4 := by kernel_rfl }
open Go.RowKit Go.Lib in
theorem c_strings_Split (s sep : ByteArray) (m : Int) (w : World) (hs : s.size < 4294967281) (hm : w.cell? ⟨0, 0, none⟩ = some (.int .i64 m)) (h1 : 1 ≤ sep.size) :
    Calls Tryz.prog 71 #[.string s, .string sep] w fun e w' =>
      e = .returned (.slice (some ⟨w.heap.size, 0, none⟩) (Lib.countB s sep + 1) (Lib.countB s sep + 1)) ∧ w' = w.alloc (.cells ((Lib.splitB sep 0 (Lib.countB s sep) s).map Value.string).toArray 9) := Any.strings_Split lays146 (by kernel_rfl) s sep m w hs hm h1
def lays156_ren : Go.Shelf.Ren := ⟨fun | 156 => 41 | 165 => 66 | 166 => 18 | 169 => 22 | 240 => 35 | 241 => 86 | 276 => 57 | 277 => 101 | n => n, fun | 31 => 83 | 9 => 9 | 3 => 3 | 4 => 4 | 0 => 0 | 20 => 20 | 72 => 51 | 76 => 54 | 70 => 48 | 37 => 49 | 75 => 53 | 127 => 84 | 164 => 103 | 5 => 5 | 80 => 45 | n => n, fun | n => n⟩
theorem lays156 : Go.Proofs.Lays.n156 Tryz.prog lays156_ren := {
  mixed := by kernel_rfl
  f156 := Tryz.func41.trans (congrArg some (by kernel_rfl))
  f165 := Tryz.func66.trans (congrArg some (by kernel_rfl))
  f166 := Tryz.func18.trans (congrArg some (by kernel_rfl))
  f169 := Tryz.func22.trans (congrArg some (by kernel_rfl))
  f240 := Tryz.func35.trans (congrArg some (by kernel_rfl))
  f241 := Tryz.func86.trans (congrArg some (by kernel_rfl))
  f276 := Tryz.func57.trans (congrArg some (by kernel_rfl))
  f277 := Tryz.func101.trans (congrArg some (by kernel_rfl))
  t0 := Tryz.underlying0
  a0 := Tryz.isAgg0
  z0 := Tryz.sizeOf0
  v0 := Tryz.zeroValue0
  t3 := Tryz.underlying3
  a3 := Tryz.isAgg3
  z3 := Tryz.sizeOf3
  v3 := Tryz.zeroValue3
  t4 := Tryz.underlying4
  a4 := Tryz.isAgg4
  z4 := Tryz.sizeOf4
  v4 := Tryz.zeroValue4
  t9 := Tryz.underlying9
  a9 := Tryz.isAgg9
  z9 := Tryz.sizeOf9
  v9 := Tryz.zeroValue9
  t20 := Tryz.underlying20
  a20 := Tryz.isAgg20
  z20 := Tryz.sizeOf20
  v20 := Tryz.zeroValue20
  t31 := Tryz.underlying83
  a31 := Tryz.isAgg83
  z31 := Tryz.sizeOf83
  v31 := Tryz.zeroValue83
  t37 := Tryz.underlying49
  a37 := Tryz.isAgg49
  z37 := Tryz.sizeOf49
  v37 := Tryz.zeroValue49
  t70 := Tryz.underlying48
  a70 := Tryz.isAgg48
  z70 := Tryz.sizeOf48
  v70 := Tryz.zeroValue48
  t72 := Tryz.underlying51
  a72 := Tryz.isAgg51
  z72 := Tryz.sizeOf51
  v72 := Tryz.zeroValue51
  t75 := Tryz.underlying53
  a75 := Tryz.isAgg53
  z75 := Tryz.sizeOf53
  v75 := Tryz.zeroValue53
  t76 := Tryz.underlying54
  a76 := Tryz.isAgg54
  z76 := Tryz.sizeOf54
  v76 := Tryz.zeroValue54
  t127 := Tryz.underlying84
  a127 := Tryz.isAgg84
  z127 := Tryz.sizeOf84
  v127 := Tryz.zeroValue84
  t164 := Tryz.underlying103
  a164 := Tryz.isAgg103
  z164 := Tryz.sizeOf103
  v164 := Tryz.zeroValue103 }
theorem Builder_Extra_156 : Builder.Extra Tryz.prog lays156_ren := {
  sizeBuilder := by kernel_rfl
  liesBuilder := by kernel_rfl
  t5 := Tryz.underlying5
  a5 := Tryz.isAgg5
  z5 := Tryz.sizeOf5
  v5 := Tryz.zeroValue5
  infoByte := by kernel_rfl
  cellsByte := by kernel_rfl
  sizeByte := by kernel_rfl
  neB5 := by decide }
open Go.RowKit in
theorem c_strings_Join (bk o c : Nat) (xs : List ByteArray) (sep : ByteArray) (w : World) (hcells : ∀ (j : Nat) x, xs[j]? = some x → w.cell? ⟨bk, o + j, none⟩ = some (.string x)) (hbk : bk < w.heap.size) (hN : xs.length ≤ 140737488355328) (hcap : xs.length ≤ c) (hlen : (Lib.join (xs.map (·.data.toList)) sep.data.toList).length ≤ 140737488355328) :
    Calls Tryz.prog 41 #[.slice (some ⟨bk, o, none⟩) xs.length c, .string sep] w fun e w' => e = .returned (.string ⟨(Lib.join (xs.map (·.data.toList)) sep.data.toList).toArray⟩) ∧ Below w.heap.size w w' := Any.strings_Join lays156 Builder_Extra_156 bk o c xs sep w hcells hbk hN hcap hlen
end Go.Proofs.YtafmiilkdhdngaaGreatDoor
/- lex.Words and the reference's. -/
namespace Go.Proofs.YtafmiilkdhdngaaGreatDoor
open Go.ChangeShapes Go.WideShapes Go.ChangeAt Go.RowKit
set_option linter.unusedVariables false
set_option linter.unusedSimpArgs false

/-- A row of texts. -/
def encS (l : List (List UInt8)) : List Value := l.map (fun p => .string ⟨p.toArray⟩)
theorem encS_at (l : List (List UInt8)) (i : Nat) : (encS l)[i]? = (l[i]?).map (fun p => .string ⟨p.toArray⟩) := by unfold encS; rw [List.getElem?_map]
theorem ext_drop (s : ByteArray) (i : Nat) (h : i < s.size) : s.data.toList.drop i = (s[i]'h) :: s.data.toList.drop (i + 1) := by
  rw [List.drop_eq_getElem_cons (by simpa using h)]
  simp [ByteArray.getElem_eq_getElem_data]
theorem str_nil (s : ByteArray) : s.toList.isEmpty = decide (s.data.toList = []) := by
  rw [Lib.toList_data]
  cases h : s.data.toList with
  | nil => rfl
  | cons a l => rfl
theorem all_ok (s : ByteArray) : s.data.toList.all okB = true ↔ ∀ j, j < s.size → 32 ≤ bt s j ∧ bt s j ≤ 126 := by
  rw [List.all_eq_true]
  constructor
  · intro h j hj
    have := h (s[j]'hj) (List.mem_of_getElem? (bt_list s j hj).1)
    simpa [okB, (bt_list s j hj).2] using this
  · intro h x hx
    obtain ⟨j, hj, rfl⟩ := List.getElem_of_mem hx
    have hj' : j < s.size := by rw [Lib.size_eq]; exact hj
    have := h j hj'
    rw [(bt_list s j hj').2] at this
    simp [okB]
    simpa [ByteArray.getElem_eq_getElem_data] using this

theorem c_split (s : ByteArray) (hs : s.size ≤ 70000) (w : World) (hm : ∃ m, w.cell? ⟨0, 0, none⟩ = some (.int .i64 m)) : Calls Tryz.prog 71 #[.string s, .string ⟨#[32]⟩] w fun e w' => ∃ n, n = (splA [] s.data.toList).length ∧ n ≤ 70001 ∧ e = .returned (.slice (some ⟨w.heap.size, 0, none⟩) n n) ∧ w'.ownsRow w.heap.size 9 1 (.slice (some ⟨w.heap.size, 0, none⟩) n n) n (encS (splA [] s.data.toList)) ∧ Below w.heap.size w w' := by
  obtain ⟨m, hm⟩ := hm
  refine (c_strings_Split s ⟨#[32]⟩ m w (by omega) hm (by decide)).mono ?_
  rintro e w' ⟨rfl, rfl⟩
  have hc : Lib.countB s ⟨#[32]⟩ = s.data.toList.count 32 := count_one s.data.toList
  have hl := splA_count s.data.toList []
  have hle : s.data.toList.count 32 ≤ s.size := by rw [Lib.size_eq]; exact List.count_le_length
  rw [splitB_all, hc, ← hl]
  refine ⟨_, rfl, by omega, rfl, ⟨by simp [encS], .inr ⟨_, _, _, rfl, Nat.le_refl _, heap_alloc_new _ _, Nat.le_refl _, ?_, by simp, ?_⟩⟩, (Below.refl _ _).alloc (Nat.le_refl _) _⟩
  · unfold maxLen; omega
  · simp [encS, List.map_map]
    rw [List.take_of_length_le (by simp)]
    rfl

set_option maxRecDepth 100000 in
set_option maxHeartbeats 4000000 in
theorem lex_words (s : ByteArray) (hs : s.size ≤ 70000) (w : World) (hm : ∃ m, w.cell? ⟨0, 0, none⟩ = some (.int .i64 m)) :
    Calls Tryz.prog 46 #[.string s] w fun e w' => Below w.heap.size w w' ∧ ((wds s.data.toList = none ∧ e = .returned (.tuple #[.slice none 0 0, .int .i64 10])) ∨
      ∃ l v, wds s.data.toList = some l ∧ e = .returned (.tuple #[v, .int .i64 0]) ∧ w'.ownsRow w.heap.size 9 1 v l.length (encS l)) := by
  by_cases h0 : s.data.toList = []
  · have e0 : s.toList.isEmpty = true := by rw [str_nil]; exact decide_eq_true h0
    go_enter Tryz.func46, Tryz.ntmps46
    go_wp2
    go_ret2
    exact ⟨Below.refl _ _, .inr ⟨[], _, by rw [h0]; rfl, rfl, World.ownsRow_nil _ _ _ _⟩⟩
  · have e0 : s.toList.isEmpty = false := by rw [str_nil]; exact decide_eq_false h0
    have C := Lib.hid (c_split s hs w hm)
    go_enter Tryz.func46, Tryz.ntmps46
    go_wp2
    go_loopw [12] (fun x wi => ∃ i : Nat, x = .int .i64 i ∧ i ≤ s.size ∧ Hid (∀ j, j < i → 32 ≤ bt s j ∧ bt s j ≤ 126) ∧ w = wi) (fun x _ => s.size - (intOf x).toNat)
    case atStart => exact ⟨0, rfl, by omega, Lib.hid (fun j hj => absurd hj (Nat.not_lt_zero _)), rfl⟩
    case round =>
      obtain ⟨i, rfl, hi, HO, rfl⟩ := hrel
      by_cases hlt : i < s.size
      · have d1 : decide ((i : Int) < (s.size : Int)) = true := decide_eq_true (by omega)
        have d1' : decide (i < s.size) = true := decide_eq_true hlt
        have hix := idx_at s i hlt
        by_cases hok : 32 ≤ bt s i ∧ bt s i ≤ 126
        · have d2 : decide ((bt s i : Int) < 32) = false := decide_eq_false (by omega)
          have d3 : decide ((bt s i : Int) > 126) = false := decide_eq_false (by omega)
          have d2' : decide ((bt s i) < 32) = false := decide_eq_false (by omega)
          have d3' : decide (126 < bt s i) = false := decide_eq_false (by omega)
          go_wp2
          go_roundw
          case rel => exact ⟨i + 1, rfl, by omega, Lib.hid (fun j hj => by
            by_cases e : j = i
            · rw [e]; exact hok
            · exact HO.out j (by omega)), by first | rfl | trivial⟩
          case measure => (first | (simp [intOf]; done) | (simp [intOf]; omega) | (simp only [intOf]; omega))
        · have hn : wds s.data.toList = none := by
            unfold wds
            rw [if_neg h0, if_neg]
            intro h
            rw [Bool.and_eq_true] at h
            exact hok ((all_ok s).1 h.1 i hlt)
          by_cases h32 : bt s i < 32
          · have d2 : decide ((bt s i : Int) < 32) = true := decide_eq_true (by omega)
            have d2' : decide ((bt s i) < 32) = true := decide_eq_true (by omega)
            go_wp2
            go_ret2
            exact ⟨Below.refl _ _, .inl ⟨hn, rfl⟩⟩
          · have d2 : decide ((bt s i : Int) < 32) = false := decide_eq_false (by omega)
            have d2' : decide ((bt s i) < 32) = false := decide_eq_false (by omega)
            have d3 : decide ((bt s i : Int) > 126) = true := decide_eq_true (by omega)
            have d3' : decide (126 < bt s i) = true := decide_eq_true (by omega)
            go_wp2
            go_ret2
            exact ⟨Below.refl _ _, .inl ⟨hn, rfl⟩⟩
      · obtain rfl : i = s.size := by omega
        have hall := (all_ok s).2 HO.out
        have d1 : decide ((s.size : Int) < (s.size : Int)) = false := decide_eq_false (by omega)
        clear HO
        go_wp2_with fail
        refine C.out.mono ?_
        rintro e w1 ⟨n, hn, hn9, rfl, ho, hB⟩
        obtain ⟨P, hP⟩ : ∃ P, splA [] s.data.toList = P := ⟨_, rfl⟩
        rw [hP] at hn ho
        have hw : wds s.data.toList = if P.all (fun p => decide (p ≠ [])) then some P else none := by
          unfold wds; rw [if_neg h0, hall, hP]; simp
        have HN : Hid (n = P.length) := Lib.hid hn
        have HW := Lib.hid hw
        clear C hall hP h0 e0 hn hw
        go_wp2_with fail
        go_loopw [30] (fun x wi => ∃ i : Nat, x = .int .i64 i ∧ i ≤ n ∧ Hid (∀ j p, j < i → P[j]? = some p → p ≠ []) ∧ w1 = wi) (fun x _ => n - (intOf x).toNat)
        case atStart => exact ⟨0, rfl, by omega, Lib.hid (fun j p hj => absurd hj (Nat.not_lt_zero _)), rfl⟩
        case round =>
          obtain ⟨i, rfl, hi, HO, rfl⟩ := hrel
          by_cases hlt : i < n
          · have d1 : decide ((i : Int) < (n : Int)) = true := decide_eq_true (by omega)
            have d1' : decide (i < n) = true := decide_eq_true hlt
            obtain ⟨p, hp⟩ : ∃ p, P[i]? = some p := ⟨P[i]'(by rw [← HN.out]; exact hlt), by simp⟩
            obtain ⟨sp, hsp⟩ : ∃ sp : ByteArray, sp = ⟨p.toArray⟩ := ⟨_, rfl⟩
            have c0 : w1.cell? ⟨w.heap.size, i, none⟩ = some (.string sp) := by
              rcases own_form ho with ⟨h, -, -⟩ | ⟨g, c, hv, hg1, hg2, hg3, hg4, hcell⟩
              · cases h
              · injection hv with v1 v2 v3
                injection v1 with v1
                injection v1 with v1
                subst v1
                obtain ⟨u, h1, h2, _⟩ := hcell i (by omega)
                rw [encS_at, hp] at h1
                rw [h2, ← h1, hsp]; rfl
            have hsn := str_nil sp
            have hsd : sp.data.toList = p := by rw [hsp]
            rw [hsd] at hsn
            clear hsd hsp
            by_cases hpn : p = []
            · have e1 : sp.toList.isEmpty = true := by rw [hsn]; simp [hpn]
              have hno : wds s.data.toList = none := by
                rw [HW.out, if_neg]
                intro h
                rw [List.all_eq_true] at h
                have := h p (List.mem_of_getElem? hp)
                simp [hpn] at this
              clear hpn hsn
              go_wp2
              go_ret2
              exact ⟨hB, .inl ⟨hno, rfl⟩⟩
            · have e1 : sp.toList.isEmpty = false := by rw [hsn]; simp [hpn]
              go_wp2
              go_roundw
              case rel => exact ⟨i + 1, rfl, by omega, Lib.hid (fun j q hj hq => by
                by_cases e : j = i
                · rw [e, hp] at hq; injection hq with hq; rw [← hq]; exact hpn
                · exact HO.out j q (by omega) hq), by first | rfl | trivial⟩
              case measure => (first | (simp [intOf]; done) | (simp [intOf]; omega) | (simp only [intOf]; omega))
          · obtain rfl : i = n := by omega
            have d1 : decide ((i : Int) < (i : Int)) = false := decide_eq_false (by omega)
            have hyes : wds s.data.toList = some P := by
              rw [HW.out, if_pos]
              rw [List.all_eq_true]
              intro q hq
              obtain ⟨j, hj, rfl⟩ := List.getElem_of_mem hq
              exact decide_eq_true (HO.out j _ (by rw [HN.out]; exact hj) (by simp))
            clear HO HW
            go_wp2
            go_ret2
            exact ⟨hB, .inr ⟨P, _, hyes, rfl, by rw [← HN.out]; exact ho⟩⟩
end Go.Proofs.YtafmiilkdhdngaaGreatDoor
/- Reference 22's Words. -/
namespace Go.Proofs.YtafmiilkdhdngaaGreatDoor
open Go.ChangeShapes Go.WideShapes Go.ChangeAt Go.RowKit
set_option linter.unusedVariables false
set_option linter.unusedSimpArgs false

theorem wds_bad {s : ByteArray} {i : Nat} (hi : i < s.size) (h : ¬ (32 ≤ bt s i ∧ bt s i ≤ 126)) : wds s.data.toList = none := by
  unfold wds
  rw [if_neg (by intro e; have := Lib.size_eq s; rw [e, List.length_nil] at this; omega), if_neg]
  intro hh
  rw [Bool.and_eq_true] at hh
  exact h ((all_ok s).1 hh.1 i hi)
theorem wds_empty {l : List UInt8} {a r : List (List UInt8)} (h0 : l ≠ []) (h : splA [] l = a ++ [] :: r) : wds l = none := by
  unfold wds
  rw [if_neg h0, if_neg]
  intro hh
  rw [Bool.and_eq_true] at hh
  have h2 := hh.2
  rw [h, List.all_eq_true] at h2
  have := h2 [] (by simp)
  simp at this
theorem wds_good {l : List UInt8} {P : List (List UInt8)} (h0 : l ≠ []) (h : splA [] l = P) (hok : l.all okB = true) (hP : ∀ p ∈ P, p ≠ []) : wds l = some P := by
  unfold wds
  rw [if_neg h0, if_pos, h]
  rw [Bool.and_eq_true]
  refine ⟨hok, ?_⟩
  rw [h, List.all_eq_true]
  exact fun p hp => decide_eq_true (hP p hp)
theorem bt32 {s : ByteArray} {i : Nat} (h : i < s.size) : bt s i = 32 ↔ (s[i]'h) = 32 := by
  rw [(bt_list s i h).2]
  constructor
  · intro e; exact UInt8.toNat_inj.1 (by rw [e]; rfl)
  · intro e; rw [e]; rfl

/-- How far the reference has come. -/
structure Wd (s : ByteArray) (i : Nat) (acc : List (List UInt8)) (cb : ByteArray) : Prop where
  le : i ≤ s.size
  ok : ∀ j, j < i → 32 ≤ bt s j ∧ bt s j ≤ 126
  ne : ∀ p ∈ acc, p ≠ []
  sp : splA [] s.data.toList = acc ++ splA cb.data.toList (s.data.toList.drop i)
  len : acc.length ≤ i
  siz : cb.size ≤ i
theorem Wd.start (s : ByteArray) : Wd s 0 [] ⟨#[]⟩ := ⟨Nat.zero_le _, fun j h => absurd h (Nat.not_lt_zero _), by simp, by simp, Nat.le_refl _, Nat.le_refl _⟩
theorem Wd.more {s : ByteArray} {i : Nat} {acc : List (List UInt8)} {cb : ByteArray} (h : Wd s i acc cb) (hi : i < s.size) (hok : 32 ≤ bt s i ∧ bt s i ≤ 126) (hb : bt s i ≠ 32) : Wd s (i + 1) acc (cb ++ s.extract i (i + 1)) := by
  have hb' : ¬ (s[i]'hi) = 32 := fun e => hb ((bt32 hi).2 e)
  refine ⟨hi, fun j hj => ?_, h.ne, ?_, Nat.le_succ_of_le h.len, ?_⟩
  · by_cases e : j = i
    · rw [e]; exact hok
    · exact h.ok j (by omega)
  · rw [h.sp, ext_drop s i hi, splA, if_neg hb', ByteArray.data_append, Array.toList_append, Lib.extract_data, ext_drop s i hi]
    simp
  · rw [ByteArray.size_append, ByteArray.size_extract]
    have := h.siz; omega
theorem Wd.cut {s : ByteArray} {i : Nat} {acc : List (List UInt8)} {cb : ByteArray} (h : Wd s i acc cb) (hi : i < s.size) (hb : bt s i = 32) (hne : cb.data.toList ≠ []) : Wd s (i + 1) (acc ++ [cb.data.toList]) ⟨#[]⟩ := by
  refine ⟨hi, fun j hj => ?_, ?_, ?_, by simp; exact h.len, Nat.zero_le _⟩
  · by_cases e : j = i
    · rw [e]; omega
    · exact h.ok j (by omega)
  · intro p hp
    rw [List.mem_append, List.mem_singleton] at hp
    rcases hp with hp | rfl
    · exact h.ne p hp
    · exact hne
  · rw [h.sp, ext_drop s i hi, splA, if_pos ((bt32 hi).1 hb)]
    simp

theorem encS_snoc (l : List (List UInt8)) (cb : ByteArray) : encS (l ++ [cb.data.toList]) = encS l ++ [.string cb] := by
  unfold encS
  rw [List.map_append]
  simp [Lib.mk_data]

set_option maxRecDepth 100000 in
set_option maxHeartbeats 4000000 in
theorem ref_words (s : ByteArray) (hs : s.size ≤ 70000) (w : World) :
    Calls Tryz.prog 52 #[.string s] w fun e w' => Below w.heap.size w w' ∧ ((wds s.data.toList = none ∧ e = .returned (.tuple #[.slice none 0 0, .bool false])) ∨
      ∃ l v, wds s.data.toList = some l ∧ e = .returned (.tuple #[v, .bool true]) ∧ w'.ownsRow w.heap.size 9 1 v l.length (encS l)) := by
  go_enter Tryz.func52, Tryz.ntmps52
  go_wp2
  go_loopw [4, 5, 6] (fun v x y wr => ∃ (i : Nat) (acc : List (List UInt8)) (cb : ByteArray) (sv : Value) (wx : World), sv = v ∧ wx = wr ∧ x = .string cb ∧ y = .int .i64 i ∧ Hid (Wd s i acc cb) ∧ wr.ownsRow w.heap.size 9 1 v acc.length (encS acc) ∧ Below w.heap.size w wr) (fun _ _ y _ => s.size - (intOf y).toNat)
  case atStart => exact ⟨0, [], _, _, _, rfl, rfl, rfl, rfl, Lib.hid (Wd.start s), World.ownsRow_nil _ _ _ _, Below.refl _ _⟩
  case round =>
    obtain ⟨i, acc, cb, v, wr, rfl, rfl, rfl, rfl, HW, ho, hB⟩ := hrel
    have hsn := str_nil cb
    have hlen : acc.length < 100000 := by have := HW.out.len; have := HW.out.le; omega
    have hile := HW.out.le
    by_cases hlt : i < s.size
    · have d1 : decide ((i : Int) < (s.size : Int)) = true := decide_eq_true (by omega)
      have d1' : decide (i < s.size) = true := decide_eq_true hlt
      have hix := idx_at s i hlt
      have hne0 : s.data.toList ≠ [] := by intro e; have := Lib.size_eq s; rw [e, List.length_nil] at this; omega
      by_cases hok : 32 ≤ bt s i ∧ bt s i ≤ 126
      · have d2 : decide ((bt s i : Int) < 32) = false := decide_eq_false (by omega)
        have d3 : decide ((bt s i : Int) > 126) = false := decide_eq_false (by omega)
        have d2' : decide ((bt s i) < 32) = false := decide_eq_false (by omega)
        have d3' : decide (126 < bt s i) = false := decide_eq_false (by omega)
        by_cases hb : bt s i = 32
        · by_cases hcn : cb.data.toList = []
          · have e1 : cb.toList.isEmpty = true := by rw [hsn]; exact decide_eq_true hcn
            have hno : wds s.data.toList = none := wds_empty (a := acc) (r := splA [] (s.data.toList.drop (i + 1))) hne0 (by
              rw [HW.out.sp, ext_drop s i hlt, splA, if_pos ((bt32 hlt).1 hb), hcn])
            clear hcn hsn HW
            go_wp2
            go_ret2
            exact ⟨hB, .inl ⟨hno, rfl⟩⟩
          · have e1 : cb.toList.isEmpty = false := by rw [hsn]; exact decide_eq_false hcn
            have H2 := Lib.hid (HW.out.cut hlt hb hcn)
            clear hcn hsn HW
            go_wp2_with (at_builtin; refine append_g Tryz.underlying83 info_str (by decide) (by decide) rfl _ _ rfl rfl ho rfl hB.size hlen rfl (by simp [Value.oneCell']) ?_; intro v' w' hO hb')
            go_roundw
            case rel => exact ⟨i + 1, acc ++ [cb.data.toList], _, _, _, rfl, rfl, rfl, rfl, H2, by rw [encS_snoc]; simpa using hO, hB.trans hb'⟩
            case measure => (first | (simp [intOf]; done) | (simp [intOf]; omega) | (simp only [intOf]; omega))
        · have H2 := Lib.hid (HW.out.more hlt hok hb)
          have hsub := sub_at s i (i + 1) (by omega) (by omega)
          have hadd : ∀ wx : World, (Op.stringOp .add cb (s.extract i (i + 1))).run Tryz.prog wx = .ok (.string (cb ++ s.extract i (i + 1))) wx := fun wx => run_string_add_sum wx _ _ (by
            rw [ByteArray.size_extract]; have := HW.out.siz; omega)
          have e2 : ((bt s i : Int) != 32) = true := by simp; omega
          have e2' : ((bt s i) == 32) = false := by simp; omega
          clear HW hsn
          go_wp2
          go_roundw
          case rel => exact ⟨i + 1, acc, _, _, _, rfl, rfl, rfl, rfl, H2, ho, hB⟩
          case measure => (first | (simp [intOf]; done) | (simp [intOf]; omega) | (simp only [intOf]; omega))
      · have hno := wds_bad hlt hok
        clear HW hsn
        by_cases h32 : bt s i < 32
        · have d2 : decide ((bt s i : Int) < 32) = true := decide_eq_true (by omega)
          have d2' : decide ((bt s i) < 32) = true := decide_eq_true (by omega)
          go_wp2
          go_ret2
          exact ⟨hB, .inl ⟨hno, rfl⟩⟩
        · have d2 : decide ((bt s i : Int) < 32) = false := decide_eq_false (by omega)
          have d2' : decide ((bt s i) < 32) = false := decide_eq_false (by omega)
          have d3 : decide ((bt s i : Int) > 126) = true := decide_eq_true (by omega)
          have d3' : decide (126 < bt s i) = true := decide_eq_true (by omega)
          go_wp2
          go_ret2
          exact ⟨hB, .inl ⟨hno, rfl⟩⟩
    · obtain rfl : i = s.size := by omega
      have d1 : decide ((s.size : Int) < (s.size : Int)) = false := decide_eq_false (by omega)
      have hsp : splA [] s.data.toList = acc ++ [cb.data.toList] := by
        rw [HW.out.sp, List.drop_of_length_le (by rw [Lib.size_eq]; exact Nat.le_refl _)]; rfl
      have hall := (all_ok s).2 HW.out.ok
      have hnes := HW.out.ne
      clear HW
      by_cases h0 : s.data.toList = []
      · have e0 : s.toList.isEmpty = true := by rw [str_nil]; exact decide_eq_true h0
        have hw : wds s.data.toList = some [] := by rw [h0]; rfl
        clear hsp hall hnes h0 hsn
        go_wp2
        go_ret2
        exact ⟨hB, .inr ⟨[], _, hw, rfl, World.ownsRow_nil _ _ _ _⟩⟩
      · have e0 : s.toList.isEmpty = false := by rw [str_nil]; exact decide_eq_false h0
        by_cases hcn : cb.data.toList = []
        · have e1 : cb.toList.isEmpty = true := by rw [hsn]; exact decide_eq_true hcn
          have hno : wds s.data.toList = none := wds_empty (a := acc) (r := []) h0 (by rw [hsp, hcn])
          clear hsp hall hnes h0 hsn hcn
          go_wp2
          go_ret2
          exact ⟨hB, .inl ⟨hno, rfl⟩⟩
        · have e1 : cb.toList.isEmpty = false := by rw [hsn]; exact decide_eq_false hcn
          have hyes : wds s.data.toList = some (acc ++ [cb.data.toList]) := wds_good h0 hsp hall (by
            intro p hp
            rw [List.mem_append, List.mem_singleton] at hp
            rcases hp with hp | rfl
            · exact hnes p hp
            · exact hcn)
          clear hsp hall hnes h0 hsn hcn
          go_wp2_with (at_builtin; refine append_g Tryz.underlying83 info_str (by decide) (by decide) rfl _ _ rfl rfl ho rfl hB.size hlen rfl (by simp [Value.oneCell']) ?_; intro v' w' hO hb')
          go_ret2
          exact ⟨hB.trans hb', .inr ⟨_, _, hyes, rfl, by rw [encS_snoc]; simpa using hO⟩⟩
end Go.Proofs.YtafmiilkdhdngaaGreatDoor
/- A grammar of trees over whatever signs: a reader, the texts; the reader reads just the texts. -/
namespace Go.Proofs.YtafmiilkdhdngaaGreatDoor
open Go.ChangeShapes Go.WideShapes Go.ChangeAt Go.RowKit
set_option linter.unusedVariables false
set_option linter.unusedSimpArgs false
/-- A node that has a text. -/
def okT1 (k n : Int) : Prop := (1 ≤ k ∧ k ≤ 7) ∧ 0 ≤ n ∧ n ≤ 999999999
def Fo.okT : Fo → Prop
  | .nil => True
  | .cons k n ks r => okT1 k n ∧ ks.okT ∧ r.okT
theorem Fo.len_zero : ∀ {f : Fo}, f.len = 0 → f = .nil
  | .nil, _ => rfl
  | .cons _ _ _ _, h => by simp [Fo.len] at h

namespace Gr
/-- One node. -/
def one {σ : Type} [DecidableEq σ] (p : List σ → Option (Fo × List σ)) (H : List σ → Option (Int × Int × List σ)) (op cl : σ) (ts : List σ) : Option ((Int × Int × Fo) × List σ) :=
  match H ts with
  | none => none
  | some (k, n, []) => some ((k, n, .nil), [])
  | some (k, n, t :: z) => if t = op then (match p z with
      | some (ks, c :: y) => if c = cl then some ((k, n, ks), y) else none
      | _ => none) else some ((k, n, .nil), t :: z)
/-- One or more. -/
def many {σ : Type} [DecidableEq σ] (H : List σ → Option (Int × Int × List σ)) (op cl cm : σ) : Nat → List σ → Option (Fo × List σ)
  | 0, _ => none
  | f + 1, ts => match one (many H op cl cm f) H op cl ts with
    | none => none
    | some ((k, n, ks), []) => some (.cons k n ks .nil, [])
    | some ((k, n, ks), t :: z) => if t = cm then (match many H op cl cm f z with
        | some (r, y) => some (.cons k n ks r, y)
        | none => none) else some (.cons k n ks .nil, t :: z)

theorem one_less {σ : Type} [DecidableEq σ] {p : List σ → Option (Fo × List σ)} {H : List σ → Option (Int × Int × List σ)} {op cl : σ} (hp : ∀ ts x z, p ts = some (x, z) → z.length < ts.length) (hH : ∀ ts k n z, H ts = some (k, n, z) → z.length < ts.length)
    {ts : List σ} {x : Int × Int × Fo} {z : List σ} (h : one p H op cl ts = some (x, z)) : z.length < ts.length := by
  unfold one at h
  rcases hh : H ts with _ | ⟨k, n, _ | ⟨t, r⟩⟩
  · simp [hh] at h
  · simp [hh] at h
    have := hH _ _ _ _ hh
    rw [h.2]; exact this
  · have h1 := hH _ _ _ _ hh
    simp only [hh] at h
    by_cases ht : t = op
    · rw [if_pos ht] at h
      rcases hq : p r with _ | ⟨ks, _ | ⟨c, y⟩⟩
      · simp [hq] at h
      · simp [hq] at h
      · have h2 := hp _ _ _ hq
        simp only [hq] at h
        by_cases hc : c = cl
        · rw [if_pos hc] at h
          simp only [Option.some.injEq, Prod.mk.injEq] at h
          rw [← h.2]; simp at h1 h2; omega
        · rw [if_neg hc] at h; cases h
    · rw [if_neg ht] at h
      simp only [Option.some.injEq, Prod.mk.injEq] at h
      rw [← h.2]; exact h1
theorem many_less {σ : Type} [DecidableEq σ] {H : List σ → Option (Int × Int × List σ)} {op cl cm : σ} (hH : ∀ ts k n z, H ts = some (k, n, z) → z.length < ts.length) :
    ∀ (f : Nat) (ts : List σ) (x : Fo) (z : List σ), many H op cl cm f ts = some (x, z) → z.length < ts.length := by
  intro f
  induction f with
  | zero => intro ts x z h; simp [many] at h
  | succ f ih =>
    intro ts x z h
    unfold many at h
    rcases ho : one (many H op cl cm f) H op cl ts with _ | ⟨⟨k, n, ks⟩, _ | ⟨t, r⟩⟩
    · simp [ho] at h
    · have := one_less ih hH ho
      simp [ho] at h
      rw [h.2]; exact this
    · have h1 := one_less ih hH ho
      simp only [ho] at h
      by_cases ht : t = cm
      · rw [if_pos ht] at h
        rcases hq : many H op cl cm f r with _ | ⟨r2, y⟩
        · simp [hq] at h
        · have h2 := ih _ _ _ hq
          simp only [hq, Option.some.injEq, Prod.mk.injEq] at h
          rw [← h.2]; simp at h1; omega
      · rw [if_neg ht] at h
        simp only [Option.some.injEq, Prod.mk.injEq] at h
        rw [← h.2]; exact h1
theorem one_congr {σ : Type} [DecidableEq σ] {p q : List σ → Option (Fo × List σ)} {H : List σ → Option (Int × Int × List σ)} {op cl : σ} (hH : ∀ ts k n z, H ts = some (k, n, z) → z.length < ts.length)
    {ts : List σ} (h : ∀ z, z.length < ts.length → p z = q z) : one p H op cl ts = one q H op cl ts := by
  unfold one
  rcases hh : H ts with _ | ⟨k, n, _ | ⟨t, r⟩⟩
  · rfl
  · rfl
  · have h1 := hH _ _ _ _ hh
    simp only [List.length_cons] at h1
    simp only [h r (by omega)]
theorem many_fuel {σ : Type} [DecidableEq σ] {H : List σ → Option (Int × Int × List σ)} {op cl cm : σ} (hH : ∀ ts k n z, H ts = some (k, n, z) → z.length < ts.length) :
    ∀ (f g : Nat) (ts : List σ), ts.length < f → ts.length < g → many H op cl cm f ts = many H op cl cm g ts := by
  intro f
  induction f with
  | zero => intro g ts h; omega
  | succ f ih =>
    intro g ts h1 h2
    cases g with
    | zero => omega
    | succ g =>
      unfold many
      have ho : one (many H op cl cm f) H op cl ts = one (many H op cl cm g) H op cl ts := one_congr hH (fun z hz => ih g z (by omega) (by omega))
      rw [← ho]
      rcases hq : one (many H op cl cm f) H op cl ts with _ | ⟨⟨k, n, ks⟩, _ | ⟨t, r⟩⟩
      · rfl
      · rfl
      · have h3 := one_less (many_less hH f) hH hq
        simp only [List.length_cons] at h3
        simp only [ih g r (by omega) (by omega)]

/-- One or more, and one. -/
def S {σ : Type} [DecidableEq σ] (H : List σ → Option (Int × Int × List σ)) (op cl cm : σ) (ts : List σ) : Option (Fo × List σ) := many H op cl cm (ts.length + 1) ts
def N {σ : Type} [DecidableEq σ] (H : List σ → Option (Int × Int × List σ)) (op cl cm : σ) (ts : List σ) : Option ((Int × Int × Fo) × List σ) := one (S H op cl cm) H op cl ts
theorem S_less {σ : Type} [DecidableEq σ] {H : List σ → Option (Int × Int × List σ)} {op cl cm : σ} (hH : ∀ ts k n z, H ts = some (k, n, z) → z.length < ts.length) {ts : List σ} {x : Fo} {z : List σ} (h : S H op cl cm ts = some (x, z)) : z.length < ts.length := many_less hH _ _ _ _ h
theorem N_less {σ : Type} [DecidableEq σ] {H : List σ → Option (Int × Int × List σ)} {op cl cm : σ} (hH : ∀ ts k n z, H ts = some (k, n, z) → z.length < ts.length) {ts : List σ} {x : Int × Int × Fo} {z : List σ} (h : N H op cl cm ts = some (x, z)) : z.length < ts.length :=
  one_less (fun _ _ _ h => S_less hH h) hH h
theorem S_one {σ : Type} [DecidableEq σ] {H : List σ → Option (Int × Int × List σ)} {op cl cm : σ} (hH : ∀ ts k n z, H ts = some (k, n, z) → z.length < ts.length) (ts : List σ) :
    one (many H op cl cm ts.length) H op cl ts = N H op cl cm ts :=
  one_congr hH (fun z hz => many_fuel hH _ _ z hz (Nat.lt_succ_self _))
theorem S_none {σ : Type} [DecidableEq σ] {H : List σ → Option (Int × Int × List σ)} {op cl cm : σ} (hH : ∀ ts k n z, H ts = some (k, n, z) → z.length < ts.length) {ts : List σ} (h : N H op cl cm ts = none) : S H op cl cm ts = none := by
  unfold S many; rw [S_one hH, h]
theorem S_end {σ : Type} [DecidableEq σ] {H : List σ → Option (Int × Int × List σ)} {op cl cm : σ} (hH : ∀ ts k n z, H ts = some (k, n, z) → z.length < ts.length) {ts z : List σ} {k n : Int} {ks : Fo} (h : N H op cl cm ts = some ((k, n, ks), z)) (hz : ∀ y, z ≠ cm :: y) : S H op cl cm ts = some (.cons k n ks .nil, z) := by
  unfold S many; rw [S_one hH, h]
  cases z with
  | nil => rfl
  | cons t r => simp only []; rw [if_neg (fun e => hz r (by rw [e]))]
theorem S_more {σ : Type} [DecidableEq σ] {H : List σ → Option (Int × Int × List σ)} {op cl cm : σ} (hH : ∀ ts k n z, H ts = some (k, n, z) → z.length < ts.length) {ts z : List σ} {k n : Int} {ks : Fo} (h : N H op cl cm ts = some ((k, n, ks), cm :: z)) :
    S H op cl cm ts = (match S H op cl cm z with | some (r, y) => some (.cons k n ks r, y) | none => none) := by
  have h1 := N_less hH h
  simp only [List.length_cons] at h1
  unfold S; rw [many, S_one hH, h]
  simp only [if_true]
  rw [many_fuel hH ts.length (z.length + 1) z (by omega) (by omega)]
theorem N_none {σ : Type} [DecidableEq σ] {H : List σ → Option (Int × Int × List σ)} {op cl cm : σ} {ts : List σ} (h : H ts = none) : N H op cl cm ts = none := by unfold N one; rw [h]
theorem N_leaf {σ : Type} [DecidableEq σ] {H : List σ → Option (Int × Int × List σ)} {op cl cm : σ} {ts z : List σ} {k n : Int} (h : H ts = some (k, n, z)) (hz : ∀ y, z ≠ op :: y) : N H op cl cm ts = some ((k, n, .nil), z) := by
  unfold N one; rw [h]
  cases z with
  | nil => rfl
  | cons t r => simp only []; rw [if_neg (fun e => hz r (by rw [e]))]
theorem N_open {σ : Type} [DecidableEq σ] {H : List σ → Option (Int × Int × List σ)} {op cl cm : σ} {ts z : List σ} {k n : Int} (h : H ts = some (k, n, op :: z)) :
    N H op cl cm ts = (match S H op cl cm z with | some (ks, c :: y) => if c = cl then some ((k, n, ks), y) else none | _ => none) := by
  unfold N one; rw [h]
  simp only [if_true]

/-- The texts. -/
def tx {σ : Type} (hd : Int → Int → List σ) (op cl cm : σ) : Fo → List σ
  | .nil => []
  | .cons k n ks r => hd k n ++ ((if ks.len = 0 then [] else op :: (tx hd op cl cm ks ++ [cl])) ++ (if r.len = 0 then [] else cm :: tx hd op cl cm r))

theorem many_sound {σ : Type} [DecidableEq σ] {H : List σ → Option (Int × Int × List σ)} {hd : Int → Int → List σ} {op cl cm : σ} (hS : ∀ ts k n z, H ts = some (k, n, z) → ts = hd k n ++ z ∧ okT1 k n) :
    ∀ (f : Nat) (ts : List σ) (x : Fo) (z : List σ), many H op cl cm f ts = some (x, z) → ts = tx hd op cl cm x ++ z ∧ x.okT ∧ x.len ≠ 0 := by
  intro f
  induction f with
  | zero => intro ts x z h; simp [many] at h
  | succ f ih =>
    intro ts x z h
    have hone : ∀ k n ks y, one (many H op cl cm f) H op cl ts = some ((k, n, ks), y) → ts = hd k n ++ ((if ks.len = 0 then [] else op :: (tx hd op cl cm ks ++ [cl])) ++ y) ∧ okT1 k n ∧ ks.okT := fun k n ks y ho => by
      unfold one at ho
      rcases hh : H ts with _ | ⟨k', n', _ | ⟨t, r⟩⟩
      · simp [hh] at ho
      · have h1 := hS _ _ _ _ hh
        simp only [hh, Option.some.injEq, Prod.mk.injEq] at ho
        obtain ⟨⟨rfl, rfl, rfl⟩, rfl⟩ := ho
        exact ⟨by simpa [Fo.len] using h1.1, h1.2, trivial⟩
      · have h1 := hS _ _ _ _ hh
        simp only [hh] at ho
        by_cases ht : t = op
        · rw [if_pos ht] at ho
          rcases hq : many H op cl cm f r with _ | ⟨ks', _ | ⟨c, y'⟩⟩
          · simp [hq] at ho
          · simp [hq] at ho
          · have h2 := ih _ _ _ hq
            simp only [hq] at ho
            by_cases hc : c = cl
            · rw [if_pos hc] at ho
              simp only [Option.some.injEq, Prod.mk.injEq] at ho
              obtain ⟨⟨rfl, rfl, rfl⟩, rfl⟩ := ho
              refine ⟨?_, h1.2, h2.2.1⟩
              rw [if_neg h2.2.2, h1.1, h2.1, ht, hc]; simp
            · rw [if_neg hc] at ho; cases ho
        · rw [if_neg ht] at ho
          simp only [Option.some.injEq, Prod.mk.injEq] at ho
          obtain ⟨⟨rfl, rfl, rfl⟩, rfl⟩ := ho
          exact ⟨by simpa [Fo.len] using h1.1, h1.2, trivial⟩
    unfold many at h
    rcases ho : one (many H op cl cm f) H op cl ts with _ | ⟨⟨k, n, ks⟩, _ | ⟨t, r⟩⟩
    · simp [ho] at h
    · have h1 := hone _ _ _ _ ho
      simp only [ho, Option.some.injEq, Prod.mk.injEq] at h
      obtain ⟨rfl, rfl⟩ := h
      exact ⟨by simpa [tx, Fo.len] using h1.1, ⟨h1.2.1, h1.2.2, trivial⟩, by simp [Fo.len]⟩
    · have h1 := hone _ _ _ _ ho
      simp only [ho] at h
      by_cases ht : t = cm
      · rw [if_pos ht] at h
        rcases hq : many H op cl cm f r with _ | ⟨r2, y⟩
        · simp [hq] at h
        · have h2 := ih _ _ _ hq
          simp only [hq, Option.some.injEq, Prod.mk.injEq] at h
          obtain ⟨rfl, rfl⟩ := h
          refine ⟨?_, ⟨h1.2.1, h1.2.2, h2.2.1⟩, by simp [Fo.len]⟩
          rw [h1.1, h2.1, ht, tx, if_neg h2.2.2]; simp
      · rw [if_neg ht] at h
        simp only [Option.some.injEq, Prod.mk.injEq] at h
        obtain ⟨rfl, rfl⟩ := h
        refine ⟨?_, ⟨h1.2.1, h1.2.2, trivial⟩, by simp [Fo.len]⟩
        rw [h1.1, tx]; simp [Fo.len]

theorem many_all {σ : Type} [DecidableEq σ] {H : List σ → Option (Int × Int × List σ)} {hd : Int → Int → List σ} {op cl cm : σ} (hoc : cm ≠ op) (hlo : cl ≠ op) (hlc : cl ≠ cm)
    (hC : ∀ k n z, okT1 k n → (z = [] ∨ ∃ c y, z = c :: y ∧ (c = op ∨ c = cl ∨ c = cm)) → H (hd k n ++ z) = some (k, n, z)) (hL : ∀ k n, okT1 k n → 0 < (hd k n).length) :
    ∀ (x : Fo) (z : List σ) (f : Nat), x.okT → x.len ≠ 0 → (z = [] ∨ ∃ y, z = cl :: y) → (tx hd op cl cm x ++ z).length < f → many H op cl cm f (tx hd op cl cm x ++ z) = some (x, z) := by
  intro x
  induction x with
  | nil => intro z f _ h; simp [Fo.len] at h
  | cons k n ks r ihk ihr =>
    intro z f hok _ hz hf
    obtain ⟨ok1, okk, okr⟩ := hok
    cases f with
    | zero => omega
    | succ f =>
      have hl := hL k n ok1
      obtain ⟨B, hB⟩ : ∃ B, (if r.len = 0 then [] else cm :: tx hd op cl cm r) = B := ⟨_, rfl⟩
      obtain ⟨A, hA⟩ : ∃ A, (if ks.len = 0 then [] else op :: (tx hd op cl cm ks ++ [cl])) = A := ⟨_, rfl⟩
      have et : tx hd op cl cm (.cons k n ks r) ++ z = hd k n ++ (A ++ (B ++ z)) := by rw [tx, hA, hB]; simp
      rw [et] at hf ⊢
      simp only [List.length_append] at hf
      have hBz : (B ++ z = [] ∨ ∃ c y, B ++ z = c :: y ∧ (c = cl ∨ c = cm)) := by
        by_cases hr : r.len = 0
        · rw [if_pos hr] at hB
          rw [← hB, List.nil_append]
          rcases hz with hz | ⟨y, hz⟩
          · exact .inl hz
          · exact .inr ⟨cl, y, hz, .inl rfl⟩
        · rw [if_neg hr] at hB
          rw [← hB]
          exact .inr ⟨cm, _, rfl, .inr rfl⟩
      have hone : one (many H op cl cm f) H op cl (hd k n ++ (A ++ (B ++ z))) = some ((k, n, ks), B ++ z) := by
        unfold one
        by_cases hk : ks.len = 0
        · rw [if_pos hk] at hA
          rw [← hA, List.nil_append, hC k n _ ok1 (by
            rcases hBz with h | ⟨c, y, h1, h2⟩
            · exact .inl h
            · exact .inr ⟨c, y, h1, .inr h2⟩), Fo.len_zero hk]
          rcases hBz with h | ⟨c, y, h1, h2⟩
          · rw [h]
          · rw [h1]
            simp only []
            rw [if_neg (by rintro rfl; rcases h2 with h2 | h2
                           · exact hlo h2.symm
                           · exact hoc h2.symm)]
        · rw [if_neg hk] at hA
          have hz1 : A ++ (B ++ z) = op :: (tx hd op cl cm ks ++ (cl :: (B ++ z))) := by rw [← hA]; simp
          rw [hz1, hC k n _ ok1 (.inr ⟨op, _, rfl, .inl rfl⟩)]
          simp only [if_true]
          rw [ihk (cl :: (B ++ z)) f okk hk (.inr ⟨_, rfl⟩) (by
            have := congrArg List.length hz1
            simp only [List.length_append, List.length_cons] at this ⊢
            omega)]
          simp
      unfold many
      rw [hone]
      by_cases hr : r.len = 0
      · rw [if_pos hr] at hB
        rw [← hB, List.nil_append, Fo.len_zero hr]
        rcases hz with rfl | ⟨y, rfl⟩
        · rfl
        · simp only []
          rw [if_neg hlc]
      · rw [if_neg hr] at hB
        rw [← hB, List.cons_append]
        simp only [if_true]
        rw [ihr z f okr hr hz (by rw [← hB] at hf; simp only [List.length_append, List.length_cons] at hf ⊢; omega)]

theorem many_len {σ : Type} [DecidableEq σ] {H : List σ → Option (Int × Int × List σ)} {op cl cm : σ} {ts : List σ} {x : Fo} {z : List σ} (h : S H op cl cm ts = some (x, z)) : x.len ≠ 0 := by
  unfold S many at h
  rcases ho : one (many H op cl cm ts.length) H op cl ts with _ | ⟨⟨k, n, ks⟩, _ | ⟨t, r⟩⟩
  · simp [ho] at h
  · simp only [ho, Option.some.injEq, Prod.mk.injEq] at h
    rw [← h.1]; simp [Fo.len]
  · simp only [ho] at h
    by_cases ht : t = cm
    · rw [if_pos ht] at h
      rcases hq : many H op cl cm ts.length r with _ | ⟨r2, y⟩
      · simp [hq] at h
      · simp only [hq, Option.some.injEq, Prod.mk.injEq] at h
        rw [← h.1]; simp [Fo.len]
    · rw [if_neg ht] at h
      simp only [Option.some.injEq, Prod.mk.injEq] at h
      rw [← h.1]; simp [Fo.len]
theorem N_sound {σ : Type} [DecidableEq σ] {H : List σ → Option (Int × Int × List σ)} {hd : Int → Int → List σ} {op cl cm : σ} (hS : ∀ ts k n z, H ts = some (k, n, z) → ts = hd k n ++ z ∧ okT1 k n) (hH : ∀ ts k n z, H ts = some (k, n, z) → z.length < ts.length)
    {ts : List σ} {k n : Int} {ks : Fo} (h : N H op cl cm ts = some ((k, n, ks), [])) : ts = tx hd op cl cm (.cons k n ks .nil) ∧ (Fo.cons k n ks .nil).okT := by
  have h1 := S_end hH h (by simp)
  have h2 := many_sound hS _ _ _ _ h1
  exact ⟨by simpa using h2.1, h2.2.1⟩
theorem N_all {σ : Type} [DecidableEq σ] {H : List σ → Option (Int × Int × List σ)} {hd : Int → Int → List σ} {op cl cm : σ} (hoc : cm ≠ op) (hlo : cl ≠ op) (hlc : cl ≠ cm)
    (hC : ∀ k n z, okT1 k n → (z = [] ∨ ∃ c y, z = c :: y ∧ (c = op ∨ c = cl ∨ c = cm)) → H (hd k n ++ z) = some (k, n, z)) (hL : ∀ k n, okT1 k n → 0 < (hd k n).length) (hH : ∀ ts k n z, H ts = some (k, n, z) → z.length < ts.length)
    {k n : Int} {ks : Fo} (ho : (Fo.cons k n ks .nil).okT) : N H op cl cm (tx hd op cl cm (.cons k n ks .nil)) = some ((k, n, ks), []) := by
  have h1 := many_all hoc hlo hlc hC hL (.cons k n ks .nil) [] ((tx hd op cl cm (.cons k n ks .nil)).length + 1) ho (by simp [Fo.len]) (.inl rfl) (by simp)
  rw [List.append_nil] at h1
  have h2 : S H op cl cm (tx hd op cl cm (.cons k n ks .nil)) = some (.cons k n ks .nil, []) := h1
  generalize tx hd op cl cm (.cons k n ks .nil) = ts at h2 ⊢
  rcases hn : N H op cl cm ts with _ | ⟨⟨k', n', ks'⟩, z⟩
  · rw [S_none hH hn] at h2; cases h2
  · by_cases hz : ∃ y, z = cm :: y
    · obtain ⟨y, rfl⟩ := hz
      rw [S_more hH hn] at h2
      rcases hs : S H op cl cm y with _ | ⟨r, y'⟩
      · simp [hs] at h2
      · simp only [hs, Option.some.injEq, Prod.mk.injEq, Fo.cons.injEq] at h2
        have := many_len hs
        rw [h2.1.2.2.2] at this
        simp [Fo.len] at this
    · rw [S_end hH hn (fun y e => hz ⟨y, e⟩)] at h2
      simp only [Option.some.injEq, Prod.mk.injEq, Fo.cons.injEq] at h2
      obtain ⟨⟨rfl, rfl, rfl, -⟩, rfl⟩ := h2
      rfl
end Gr
end Go.Proofs.YtafmiilkdhdngaaGreatDoor
