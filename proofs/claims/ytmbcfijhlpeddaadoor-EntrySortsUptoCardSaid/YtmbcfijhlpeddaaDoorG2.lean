/- Put together by program (merge2.py): Lexfd Lexgd Gram Dtw Dtr Dtv Lexod. -/
import Derived.Laws.Concat
import Derived.Lib.AppendIntMem
import Derived.Test.YtmbcfijhlpeddaaDoorD11
import Derived.Test.YtmbcfijhlpeddaaDoorG1
/- lex.Words and the reference's. -/
namespace Go.Proofs.YtmbcfijhlpeddaaDoor
open Go.ChangeShapes Go.WideShapes Go.ChangeAt Go.RowKit
set_option linter.unusedVariables false
set_option linter.unusedSimpArgs false

/-- A row of texts. -/
def encS (l : List (List UInt8)) : List Value := l.map (fun p => .string ⟨p.toArray⟩)
theorem encS_at (l : List (List UInt8)) (i : Nat) : (encS l)[i]? = (l[i]?).map (fun p => .string ⟨p.toArray⟩) := by unfold encS; rw [List.getElem?_map]
theorem ext_drop (s : ByteArray) (i : Nat) (h : i < s.size) : s.data.toList.drop i = (s[i]'h) :: s.data.toList.drop (i + 1) := by
  rw [List.drop_eq_getElem_cons (by simpa using h)]
  simp [ByteArray.getElem_eq_getElem_data]
theorem str_nil (s : ByteArray) : s.toList.isEmpty = decide (s.data.toList = []) := by
  rw [Lib.toList_data]
  cases h : s.data.toList with
  | nil => rfl
  | cons a l => rfl
theorem all_ok (s : ByteArray) : s.data.toList.all okB = true ↔ ∀ j, j < s.size → 32 ≤ bt s j ∧ bt s j ≤ 126 := by
  rw [List.all_eq_true]
  constructor
  · intro h j hj
    have := h (s[j]'hj) (List.mem_of_getElem? (bt_list s j hj).1)
    simpa [okB, (bt_list s j hj).2] using this
  · intro h x hx
    obtain ⟨j, hj, rfl⟩ := List.getElem_of_mem hx
    have hj' : j < s.size := by rw [Lib.size_eq]; exact hj
    have := h j hj'
    rw [(bt_list s j hj').2] at this
    simp [okB]
    simpa [ByteArray.getElem_eq_getElem_data] using this

end Go.Proofs.YtmbcfijhlpeddaaDoor
/- Reference 22's Words. -/
namespace Go.Proofs.YtmbcfijhlpeddaaDoor
open Go.ChangeShapes Go.WideShapes Go.ChangeAt Go.RowKit
set_option linter.unusedVariables false
set_option linter.unusedSimpArgs false

theorem wds_bad {s : ByteArray} {i : Nat} (hi : i < s.size) (h : ¬ (32 ≤ bt s i ∧ bt s i ≤ 126)) : wds s.data.toList = none := by
  unfold wds
  rw [if_neg (by intro e; have := Lib.size_eq s; rw [e, List.length_nil] at this; omega), if_neg]
  intro hh
  rw [Bool.and_eq_true] at hh
  exact h ((all_ok s).1 hh.1 i hi)
theorem wds_empty {l : List UInt8} {a r : List (List UInt8)} (h0 : l ≠ []) (h : splA [] l = a ++ [] :: r) : wds l = none := by
  unfold wds
  rw [if_neg h0, if_neg]
  intro hh
  rw [Bool.and_eq_true] at hh
  have h2 := hh.2
  rw [h, List.all_eq_true] at h2
  have := h2 [] (by simp)
  simp at this
theorem wds_good {l : List UInt8} {P : List (List UInt8)} (h0 : l ≠ []) (h : splA [] l = P) (hok : l.all okB = true) (hP : ∀ p ∈ P, p ≠ []) : wds l = some P := by
  unfold wds
  rw [if_neg h0, if_pos, h]
  rw [Bool.and_eq_true]
  refine ⟨hok, ?_⟩
  rw [h, List.all_eq_true]
  exact fun p hp => decide_eq_true (hP p hp)
theorem bt32 {s : ByteArray} {i : Nat} (h : i < s.size) : bt s i = 32 ↔ (s[i]'h) = 32 := by
  rw [(bt_list s i h).2]
  constructor
  · intro e; exact UInt8.toNat_inj.1 (by rw [e]; rfl)
  · intro e; rw [e]; rfl

/-- How far the reference has come. -/
structure Wd (s : ByteArray) (i : Nat) (acc : List (List UInt8)) (cb : ByteArray) : Prop where
  le : i ≤ s.size
  ok : ∀ j, j < i → 32 ≤ bt s j ∧ bt s j ≤ 126
  ne : ∀ p ∈ acc, p ≠ []
  sp : splA [] s.data.toList = acc ++ splA cb.data.toList (s.data.toList.drop i)
  len : acc.length ≤ i
  siz : cb.size ≤ i
theorem Wd.start (s : ByteArray) : Wd s 0 [] ⟨#[]⟩ := ⟨Nat.zero_le _, fun j h => absurd h (Nat.not_lt_zero _), by simp, by simp, Nat.le_refl _, Nat.le_refl _⟩
theorem Wd.more {s : ByteArray} {i : Nat} {acc : List (List UInt8)} {cb : ByteArray} (h : Wd s i acc cb) (hi : i < s.size) (hok : 32 ≤ bt s i ∧ bt s i ≤ 126) (hb : bt s i ≠ 32) : Wd s (i + 1) acc (cb ++ s.extract i (i + 1)) := by
  have hb' : ¬ (s[i]'hi) = 32 := fun e => hb ((bt32 hi).2 e)
  refine ⟨hi, fun j hj => ?_, h.ne, ?_, Nat.le_succ_of_le h.len, ?_⟩
  · by_cases e : j = i
    · rw [e]; exact hok
    · exact h.ok j (by omega)
  · rw [h.sp, ext_drop s i hi, splA, if_neg hb', ByteArray.data_append, Array.toList_append, Lib.extract_data, ext_drop s i hi]
    simp
  · rw [ByteArray.size_append, ByteArray.size_extract]
    have := h.siz; omega
theorem Wd.cut {s : ByteArray} {i : Nat} {acc : List (List UInt8)} {cb : ByteArray} (h : Wd s i acc cb) (hi : i < s.size) (hb : bt s i = 32) (hne : cb.data.toList ≠ []) : Wd s (i + 1) (acc ++ [cb.data.toList]) ⟨#[]⟩ := by
  refine ⟨hi, fun j hj => ?_, ?_, ?_, by simp; exact h.len, Nat.zero_le _⟩
  · by_cases e : j = i
    · rw [e]; omega
    · exact h.ok j (by omega)
  · intro p hp
    rw [List.mem_append, List.mem_singleton] at hp
    rcases hp with hp | rfl
    · exact h.ne p hp
    · exact hne
  · rw [h.sp, ext_drop s i hi, splA, if_pos ((bt32 hi).1 hb)]
    simp

theorem encS_snoc (l : List (List UInt8)) (cb : ByteArray) : encS (l ++ [cb.data.toList]) = encS l ++ [.string cb] := by
  unfold encS
  rw [List.map_append]
  simp [Lib.mk_data]

end Go.Proofs.YtmbcfijhlpeddaaDoor
/- A grammar of trees over whatever signs: a reader, the texts; the reader reads just the texts. -/
namespace Go.Proofs.YtmbcfijhlpeddaaDoor
open Go.ChangeShapes Go.WideShapes Go.ChangeAt Go.RowKit
set_option linter.unusedVariables false
set_option linter.unusedSimpArgs false
/-- A node that has a text. -/
def okT1 (k n : Int) : Prop := (1 ≤ k ∧ k ≤ 7) ∧ 0 ≤ n ∧ n ≤ 999999999
def Fo.okT : Fo → Prop
  | .nil => True
  | .cons k n ks r => okT1 k n ∧ ks.okT ∧ r.okT
theorem Fo.len_zero : ∀ {f : Fo}, f.len = 0 → f = .nil
  | .nil, _ => rfl
  | .cons _ _ _ _, h => by simp [Fo.len] at h

namespace Gr
/-- One node. -/
def one {σ : Type} [DecidableEq σ] (p : List σ → Option (Fo × List σ)) (H : List σ → Option (Int × Int × List σ)) (op cl : σ) (ts : List σ) : Option ((Int × Int × Fo) × List σ) :=
  match H ts with
  | none => none
  | some (k, n, []) => some ((k, n, .nil), [])
  | some (k, n, t :: z) => if t = op then (match p z with
      | some (ks, c :: y) => if c = cl then some ((k, n, ks), y) else none
      | _ => none) else some ((k, n, .nil), t :: z)
/-- One or more. -/
def many {σ : Type} [DecidableEq σ] (H : List σ → Option (Int × Int × List σ)) (op cl cm : σ) : Nat → List σ → Option (Fo × List σ)
  | 0, _ => none
  | f + 1, ts => match one (many H op cl cm f) H op cl ts with
    | none => none
    | some ((k, n, ks), []) => some (.cons k n ks .nil, [])
    | some ((k, n, ks), t :: z) => if t = cm then (match many H op cl cm f z with
        | some (r, y) => some (.cons k n ks r, y)
        | none => none) else some (.cons k n ks .nil, t :: z)

theorem one_less {σ : Type} [DecidableEq σ] {p : List σ → Option (Fo × List σ)} {H : List σ → Option (Int × Int × List σ)} {op cl : σ} (hp : ∀ ts x z, p ts = some (x, z) → z.length < ts.length) (hH : ∀ ts k n z, H ts = some (k, n, z) → z.length < ts.length)
    {ts : List σ} {x : Int × Int × Fo} {z : List σ} (h : one p H op cl ts = some (x, z)) : z.length < ts.length := by
  unfold one at h
  rcases hh : H ts with _ | ⟨k, n, _ | ⟨t, r⟩⟩
  · simp [hh] at h
  · simp [hh] at h
    have := hH _ _ _ _ hh
    rw [h.2]; exact this
  · have h1 := hH _ _ _ _ hh
    simp only [hh] at h
    by_cases ht : t = op
    · rw [if_pos ht] at h
      rcases hq : p r with _ | ⟨ks, _ | ⟨c, y⟩⟩
      · simp [hq] at h
      · simp [hq] at h
      · have h2 := hp _ _ _ hq
        simp only [hq] at h
        by_cases hc : c = cl
        · rw [if_pos hc] at h
          simp only [Option.some.injEq, Prod.mk.injEq] at h
          rw [← h.2]; simp at h1 h2; omega
        · rw [if_neg hc] at h; cases h
    · rw [if_neg ht] at h
      simp only [Option.some.injEq, Prod.mk.injEq] at h
      rw [← h.2]; exact h1
theorem many_less {σ : Type} [DecidableEq σ] {H : List σ → Option (Int × Int × List σ)} {op cl cm : σ} (hH : ∀ ts k n z, H ts = some (k, n, z) → z.length < ts.length) :
    ∀ (f : Nat) (ts : List σ) (x : Fo) (z : List σ), many H op cl cm f ts = some (x, z) → z.length < ts.length := by
  intro f
  induction f with
  | zero => intro ts x z h; simp [many] at h
  | succ f ih =>
    intro ts x z h
    unfold many at h
    rcases ho : one (many H op cl cm f) H op cl ts with _ | ⟨⟨k, n, ks⟩, _ | ⟨t, r⟩⟩
    · simp [ho] at h
    · have := one_less ih hH ho
      simp [ho] at h
      rw [h.2]; exact this
    · have h1 := one_less ih hH ho
      simp only [ho] at h
      by_cases ht : t = cm
      · rw [if_pos ht] at h
        rcases hq : many H op cl cm f r with _ | ⟨r2, y⟩
        · simp [hq] at h
        · have h2 := ih _ _ _ hq
          simp only [hq, Option.some.injEq, Prod.mk.injEq] at h
          rw [← h.2]; simp at h1; omega
      · rw [if_neg ht] at h
        simp only [Option.some.injEq, Prod.mk.injEq] at h
        rw [← h.2]; exact h1
theorem one_congr {σ : Type} [DecidableEq σ] {p q : List σ → Option (Fo × List σ)} {H : List σ → Option (Int × Int × List σ)} {op cl : σ} (hH : ∀ ts k n z, H ts = some (k, n, z) → z.length < ts.length)
    {ts : List σ} (h : ∀ z, z.length < ts.length → p z = q z) : one p H op cl ts = one q H op cl ts := by
  unfold one
  rcases hh : H ts with _ | ⟨k, n, _ | ⟨t, r⟩⟩
  · rfl
  · rfl
  · have h1 := hH _ _ _ _ hh
    simp only [List.length_cons] at h1
    simp only [h r (by omega)]
theorem many_fuel {σ : Type} [DecidableEq σ] {H : List σ → Option (Int × Int × List σ)} {op cl cm : σ} (hH : ∀ ts k n z, H ts = some (k, n, z) → z.length < ts.length) :
    ∀ (f g : Nat) (ts : List σ), ts.length < f → ts.length < g → many H op cl cm f ts = many H op cl cm g ts := by
  intro f
  induction f with
  | zero => intro g ts h; omega
  | succ f ih =>
    intro g ts h1 h2
    cases g with
    | zero => omega
    | succ g =>
      unfold many
      have ho : one (many H op cl cm f) H op cl ts = one (many H op cl cm g) H op cl ts := one_congr hH (fun z hz => ih g z (by omega) (by omega))
      rw [← ho]
      rcases hq : one (many H op cl cm f) H op cl ts with _ | ⟨⟨k, n, ks⟩, _ | ⟨t, r⟩⟩
      · rfl
      · rfl
      · have h3 := one_less (many_less hH f) hH hq
        simp only [List.length_cons] at h3
        simp only [ih g r (by omega) (by omega)]

/-- One or more, and one. -/
def S {σ : Type} [DecidableEq σ] (H : List σ → Option (Int × Int × List σ)) (op cl cm : σ) (ts : List σ) : Option (Fo × List σ) := many H op cl cm (ts.length + 1) ts
def N {σ : Type} [DecidableEq σ] (H : List σ → Option (Int × Int × List σ)) (op cl cm : σ) (ts : List σ) : Option ((Int × Int × Fo) × List σ) := one (S H op cl cm) H op cl ts
theorem S_less {σ : Type} [DecidableEq σ] {H : List σ → Option (Int × Int × List σ)} {op cl cm : σ} (hH : ∀ ts k n z, H ts = some (k, n, z) → z.length < ts.length) {ts : List σ} {x : Fo} {z : List σ} (h : S H op cl cm ts = some (x, z)) : z.length < ts.length := many_less hH _ _ _ _ h
theorem N_less {σ : Type} [DecidableEq σ] {H : List σ → Option (Int × Int × List σ)} {op cl cm : σ} (hH : ∀ ts k n z, H ts = some (k, n, z) → z.length < ts.length) {ts : List σ} {x : Int × Int × Fo} {z : List σ} (h : N H op cl cm ts = some (x, z)) : z.length < ts.length :=
  one_less (fun _ _ _ h => S_less hH h) hH h
theorem S_one {σ : Type} [DecidableEq σ] {H : List σ → Option (Int × Int × List σ)} {op cl cm : σ} (hH : ∀ ts k n z, H ts = some (k, n, z) → z.length < ts.length) (ts : List σ) :
    one (many H op cl cm ts.length) H op cl ts = N H op cl cm ts :=
  one_congr hH (fun z hz => many_fuel hH _ _ z hz (Nat.lt_succ_self _))
theorem S_none {σ : Type} [DecidableEq σ] {H : List σ → Option (Int × Int × List σ)} {op cl cm : σ} (hH : ∀ ts k n z, H ts = some (k, n, z) → z.length < ts.length) {ts : List σ} (h : N H op cl cm ts = none) : S H op cl cm ts = none := by
  unfold S many; rw [S_one hH, h]
theorem S_end {σ : Type} [DecidableEq σ] {H : List σ → Option (Int × Int × List σ)} {op cl cm : σ} (hH : ∀ ts k n z, H ts = some (k, n, z) → z.length < ts.length) {ts z : List σ} {k n : Int} {ks : Fo} (h : N H op cl cm ts = some ((k, n, ks), z)) (hz : ∀ y, z ≠ cm :: y) : S H op cl cm ts = some (.cons k n ks .nil, z) := by
  unfold S many; rw [S_one hH, h]
  cases z with
  | nil => rfl
  | cons t r => simp only []; rw [if_neg (fun e => hz r (by rw [e]))]
theorem S_more {σ : Type} [DecidableEq σ] {H : List σ → Option (Int × Int × List σ)} {op cl cm : σ} (hH : ∀ ts k n z, H ts = some (k, n, z) → z.length < ts.length) {ts z : List σ} {k n : Int} {ks : Fo} (h : N H op cl cm ts = some ((k, n, ks), cm :: z)) :
    S H op cl cm ts = (match S H op cl cm z with | some (r, y) => some (.cons k n ks r, y) | none => none) := by
  have h1 := N_less hH h
  simp only [List.length_cons] at h1
  unfold S; rw [many, S_one hH, h]
  simp only [if_true]
  rw [many_fuel hH ts.length (z.length + 1) z (by omega) (by omega)]
theorem N_none {σ : Type} [DecidableEq σ] {H : List σ → Option (Int × Int × List σ)} {op cl cm : σ} {ts : List σ} (h : H ts = none) : N H op cl cm ts = none := by unfold N one; rw [h]
theorem N_leaf {σ : Type} [DecidableEq σ] {H : List σ → Option (Int × Int × List σ)} {op cl cm : σ} {ts z : List σ} {k n : Int} (h : H ts = some (k, n, z)) (hz : ∀ y, z ≠ op :: y) : N H op cl cm ts = some ((k, n, .nil), z) := by
  unfold N one; rw [h]
  cases z with
  | nil => rfl
  | cons t r => simp only []; rw [if_neg (fun e => hz r (by rw [e]))]
theorem N_open {σ : Type} [DecidableEq σ] {H : List σ → Option (Int × Int × List σ)} {op cl cm : σ} {ts z : List σ} {k n : Int} (h : H ts = some (k, n, op :: z)) :
    N H op cl cm ts = (match S H op cl cm z with | some (ks, c :: y) => if c = cl then some ((k, n, ks), y) else none | _ => none) := by
  unfold N one; rw [h]
  simp only [if_true]

/-- The texts. -/
def tx {σ : Type} (hd : Int → Int → List σ) (op cl cm : σ) : Fo → List σ
  | .nil => []
  | .cons k n ks r => hd k n ++ ((if ks.len = 0 then [] else op :: (tx hd op cl cm ks ++ [cl])) ++ (if r.len = 0 then [] else cm :: tx hd op cl cm r))

theorem many_sound {σ : Type} [DecidableEq σ] {H : List σ → Option (Int × Int × List σ)} {hd : Int → Int → List σ} {op cl cm : σ} (hS : ∀ ts k n z, H ts = some (k, n, z) → ts = hd k n ++ z ∧ okT1 k n) :
    ∀ (f : Nat) (ts : List σ) (x : Fo) (z : List σ), many H op cl cm f ts = some (x, z) → ts = tx hd op cl cm x ++ z ∧ x.okT ∧ x.len ≠ 0 := by
  intro f
  induction f with
  | zero => intro ts x z h; simp [many] at h
  | succ f ih =>
    intro ts x z h
    have hone : ∀ k n ks y, one (many H op cl cm f) H op cl ts = some ((k, n, ks), y) → ts = hd k n ++ ((if ks.len = 0 then [] else op :: (tx hd op cl cm ks ++ [cl])) ++ y) ∧ okT1 k n ∧ ks.okT := fun k n ks y ho => by
      unfold one at ho
      rcases hh : H ts with _ | ⟨k', n', _ | ⟨t, r⟩⟩
      · simp [hh] at ho
      · have h1 := hS _ _ _ _ hh
        simp only [hh, Option.some.injEq, Prod.mk.injEq] at ho
        obtain ⟨⟨rfl, rfl, rfl⟩, rfl⟩ := ho
        exact ⟨by simpa [Fo.len] using h1.1, h1.2, trivial⟩
      · have h1 := hS _ _ _ _ hh
        simp only [hh] at ho
        by_cases ht : t = op
        · rw [if_pos ht] at ho
          rcases hq : many H op cl cm f r with _ | ⟨ks', _ | ⟨c, y'⟩⟩
          · simp [hq] at ho
          · simp [hq] at ho
          · have h2 := ih _ _ _ hq
            simp only [hq] at ho
            by_cases hc : c = cl
            · rw [if_pos hc] at ho
              simp only [Option.some.injEq, Prod.mk.injEq] at ho
              obtain ⟨⟨rfl, rfl, rfl⟩, rfl⟩ := ho
              refine ⟨?_, h1.2, h2.2.1⟩
              rw [if_neg h2.2.2, h1.1, h2.1, ht, hc]; simp
            · rw [if_neg hc] at ho; cases ho
        · rw [if_neg ht] at ho
          simp only [Option.some.injEq, Prod.mk.injEq] at ho
          obtain ⟨⟨rfl, rfl, rfl⟩, rfl⟩ := ho
          exact ⟨by simpa [Fo.len] using h1.1, h1.2, trivial⟩
    unfold many at h
    rcases ho : one (many H op cl cm f) H op cl ts with _ | ⟨⟨k, n, ks⟩, _ | ⟨t, r⟩⟩
    · simp [ho] at h
    · have h1 := hone _ _ _ _ ho
      simp only [ho, Option.some.injEq, Prod.mk.injEq] at h
      obtain ⟨rfl, rfl⟩ := h
      exact ⟨by simpa [tx, Fo.len] using h1.1, ⟨h1.2.1, h1.2.2, trivial⟩, by simp [Fo.len]⟩
    · have h1 := hone _ _ _ _ ho
      simp only [ho] at h
      by_cases ht : t = cm
      · rw [if_pos ht] at h
        rcases hq : many H op cl cm f r with _ | ⟨r2, y⟩
        · simp [hq] at h
        · have h2 := ih _ _ _ hq
          simp only [hq, Option.some.injEq, Prod.mk.injEq] at h
          obtain ⟨rfl, rfl⟩ := h
          refine ⟨?_, ⟨h1.2.1, h1.2.2, h2.2.1⟩, by simp [Fo.len]⟩
          rw [h1.1, h2.1, ht, tx, if_neg h2.2.2]; simp
      · rw [if_neg ht] at h
        simp only [Option.some.injEq, Prod.mk.injEq] at h
        obtain ⟨rfl, rfl⟩ := h
        refine ⟨?_, ⟨h1.2.1, h1.2.2, trivial⟩, by simp [Fo.len]⟩
        rw [h1.1, tx]; simp [Fo.len]

theorem many_all {σ : Type} [DecidableEq σ] {H : List σ → Option (Int × Int × List σ)} {hd : Int → Int → List σ} {op cl cm : σ} (hoc : cm ≠ op) (hlo : cl ≠ op) (hlc : cl ≠ cm)
    (hC : ∀ k n z, okT1 k n → (z = [] ∨ ∃ c y, z = c :: y ∧ (c = op ∨ c = cl ∨ c = cm)) → H (hd k n ++ z) = some (k, n, z)) (hL : ∀ k n, okT1 k n → 0 < (hd k n).length) :
    ∀ (x : Fo) (z : List σ) (f : Nat), x.okT → x.len ≠ 0 → (z = [] ∨ ∃ y, z = cl :: y) → (tx hd op cl cm x ++ z).length < f → many H op cl cm f (tx hd op cl cm x ++ z) = some (x, z) := by
  intro x
  induction x with
  | nil => intro z f _ h; simp [Fo.len] at h
  | cons k n ks r ihk ihr =>
    intro z f hok _ hz hf
    obtain ⟨ok1, okk, okr⟩ := hok
    cases f with
    | zero => omega
    | succ f =>
      have hl := hL k n ok1
      obtain ⟨B, hB⟩ : ∃ B, (if r.len = 0 then [] else cm :: tx hd op cl cm r) = B := ⟨_, rfl⟩
      obtain ⟨A, hA⟩ : ∃ A, (if ks.len = 0 then [] else op :: (tx hd op cl cm ks ++ [cl])) = A := ⟨_, rfl⟩
      have et : tx hd op cl cm (.cons k n ks r) ++ z = hd k n ++ (A ++ (B ++ z)) := by rw [tx, hA, hB]; simp
      rw [et] at hf ⊢
      simp only [List.length_append] at hf
      have hBz : (B ++ z = [] ∨ ∃ c y, B ++ z = c :: y ∧ (c = cl ∨ c = cm)) := by
        by_cases hr : r.len = 0
        · rw [if_pos hr] at hB
          rw [← hB, List.nil_append]
          rcases hz with hz | ⟨y, hz⟩
          · exact .inl hz
          · exact .inr ⟨cl, y, hz, .inl rfl⟩
        · rw [if_neg hr] at hB
          rw [← hB]
          exact .inr ⟨cm, _, rfl, .inr rfl⟩
      have hone : one (many H op cl cm f) H op cl (hd k n ++ (A ++ (B ++ z))) = some ((k, n, ks), B ++ z) := by
        unfold one
        by_cases hk : ks.len = 0
        · rw [if_pos hk] at hA
          rw [← hA, List.nil_append, hC k n _ ok1 (by
            rcases hBz with h | ⟨c, y, h1, h2⟩
            · exact .inl h
            · exact .inr ⟨c, y, h1, .inr h2⟩), Fo.len_zero hk]
          rcases hBz with h | ⟨c, y, h1, h2⟩
          · rw [h]
          · rw [h1]
            simp only []
            rw [if_neg (by rintro rfl; rcases h2 with h2 | h2
                           · exact hlo h2.symm
                           · exact hoc h2.symm)]
        · rw [if_neg hk] at hA
          have hz1 : A ++ (B ++ z) = op :: (tx hd op cl cm ks ++ (cl :: (B ++ z))) := by rw [← hA]; simp
          rw [hz1, hC k n _ ok1 (.inr ⟨op, _, rfl, .inl rfl⟩)]
          simp only [if_true]
          rw [ihk (cl :: (B ++ z)) f okk hk (.inr ⟨_, rfl⟩) (by
            have := congrArg List.length hz1
            simp only [List.length_append, List.length_cons] at this ⊢
            omega)]
          simp
      unfold many
      rw [hone]
      by_cases hr : r.len = 0
      · rw [if_pos hr] at hB
        rw [← hB, List.nil_append, Fo.len_zero hr]
        rcases hz with rfl | ⟨y, rfl⟩
        · rfl
        · simp only []
          rw [if_neg hlc]
      · rw [if_neg hr] at hB
        rw [← hB, List.cons_append]
        simp only [if_true]
        rw [ihr z f okr hr hz (by rw [← hB] at hf; simp only [List.length_append, List.length_cons] at hf ⊢; omega)]

theorem many_len {σ : Type} [DecidableEq σ] {H : List σ → Option (Int × Int × List σ)} {op cl cm : σ} {ts : List σ} {x : Fo} {z : List σ} (h : S H op cl cm ts = some (x, z)) : x.len ≠ 0 := by
  unfold S many at h
  rcases ho : one (many H op cl cm ts.length) H op cl ts with _ | ⟨⟨k, n, ks⟩, _ | ⟨t, r⟩⟩
  · simp [ho] at h
  · simp only [ho, Option.some.injEq, Prod.mk.injEq] at h
    rw [← h.1]; simp [Fo.len]
  · simp only [ho] at h
    by_cases ht : t = cm
    · rw [if_pos ht] at h
      rcases hq : many H op cl cm ts.length r with _ | ⟨r2, y⟩
      · simp [hq] at h
      · simp only [hq, Option.some.injEq, Prod.mk.injEq] at h
        rw [← h.1]; simp [Fo.len]
    · rw [if_neg ht] at h
      simp only [Option.some.injEq, Prod.mk.injEq] at h
      rw [← h.1]; simp [Fo.len]
theorem N_sound {σ : Type} [DecidableEq σ] {H : List σ → Option (Int × Int × List σ)} {hd : Int → Int → List σ} {op cl cm : σ} (hS : ∀ ts k n z, H ts = some (k, n, z) → ts = hd k n ++ z ∧ okT1 k n) (hH : ∀ ts k n z, H ts = some (k, n, z) → z.length < ts.length)
    {ts : List σ} {k n : Int} {ks : Fo} (h : N H op cl cm ts = some ((k, n, ks), [])) : ts = tx hd op cl cm (.cons k n ks .nil) ∧ (Fo.cons k n ks .nil).okT := by
  have h1 := S_end hH h (by simp)
  have h2 := many_sound hS _ _ _ _ h1
  exact ⟨by simpa using h2.1, h2.2.1⟩
theorem N_all {σ : Type} [DecidableEq σ] {H : List σ → Option (Int × Int × List σ)} {hd : Int → Int → List σ} {op cl cm : σ} (hoc : cm ≠ op) (hlo : cl ≠ op) (hlc : cl ≠ cm)
    (hC : ∀ k n z, okT1 k n → (z = [] ∨ ∃ c y, z = c :: y ∧ (c = op ∨ c = cl ∨ c = cm)) → H (hd k n ++ z) = some (k, n, z)) (hL : ∀ k n, okT1 k n → 0 < (hd k n).length) (hH : ∀ ts k n z, H ts = some (k, n, z) → z.length < ts.length)
    {k n : Int} {ks : Fo} (ho : (Fo.cons k n ks .nil).okT) : N H op cl cm (tx hd op cl cm (.cons k n ks .nil)) = some ((k, n, ks), []) := by
  have h1 := many_all hoc hlo hlc hC hL (.cons k n ks .nil) [] ((tx hd op cl cm (.cons k n ks .nil)).length + 1) ho (by simp [Fo.len]) (.inl rfl) (by simp)
  rw [List.append_nil] at h1
  have h2 : S H op cl cm (tx hd op cl cm (.cons k n ks .nil)) = some (.cons k n ks .nil, []) := h1
  generalize tx hd op cl cm (.cons k n ks .nil) = ts at h2 ⊢
  rcases hn : N H op cl cm ts with _ | ⟨⟨k', n', ks'⟩, z⟩
  · rw [S_none hH hn] at h2; cases h2
  · by_cases hz : ∃ y, z = cm :: y
    · obtain ⟨y, rfl⟩ := hz
      rw [S_more hH hn] at h2
      rcases hs : S H op cl cm y with _ | ⟨r, y'⟩
      · simp [hs] at h2
      · simp only [hs, Option.some.injEq, Prod.mk.injEq, Fo.cons.injEq] at h2
        have := many_len hs
        rw [h2.1.2.2.2] at this
        simp [Fo.len] at this
    · rw [S_end hH hn (fun y e => hz ⟨y, e⟩)] at h2
      simp only [Option.some.injEq, Prod.mk.injEq, Fo.cons.injEq] at h2
      obtain ⟨⟨rfl, rfl, rfl, -⟩, rfl⟩ := h2
      rfl
end Gr
end Go.Proofs.YtmbcfijhlpeddaaDoor
/- dtext.word, kindOf; the reference's word. (Seat d: on D11 and Lexdd.) -/
namespace Go.Proofs.YtmbcfijhlpeddaaDoor
open Go.ChangeShapes Go.WideShapes Go.ChangeAt Go.RowKit
set_option linter.unusedVariables false
set_option linter.unusedSimpArgs false

/-- A kind's word. -/
def wrd (k : Int) : ByteArray := if k = 1 then ⟨#[110, 97, 105, 118, 101]⟩ else if k = 2 then ⟨#[115, 109, 97, 108, 108]⟩ else if k = 3 then ⟨#[115, 116, 111, 99, 107]⟩ else if k = 4 then ⟨#[115, 112, 108, 105, 116]⟩ else if k = 5 then ⟨#[103, 111, 111, 100]⟩ else if k = 6 then ⟨#[114, 97, 100, 101, 114]⟩ else if k = 7 then ⟨#[98, 108, 117, 101]⟩ else ⟨#[]⟩
theorem wrd_apart : ∀ i j : Fin 8, (wrd i.val).data = (wrd j.val).data → i = j := by decide +kernel
theorem wrd_inj {i j : Int} (hi : 1 ≤ i ∧ i ≤ 7) (hj : 1 ≤ j ∧ j ≤ 7) (h : wrd i = wrd j) : i = j := by
  have := wrd_apart ⟨i.toNat, by omega⟩ ⟨j.toNat, by omega⟩ (by
    show (wrd ((i.toNat : Nat) : Int)).data = (wrd ((j.toNat : Nat) : Int)).data
    rw [Int.toNat_of_nonneg (by omega), Int.toNat_of_nonneg (by omega), h])
  have h2 : i.toNat = j.toNat := congrArg Fin.val this
  omega

set_option maxRecDepth 100000 in
theorem d_word (k : Int) (w : World) : Calls Tryd.prog 43 #[.int .i64 k] w fun e w' => e = .returned (.string (wrd k)) ∧ w = w' := by
  go_enter Tryd.func43, Tryd.ntmps43
  go_wp2
  all_goals go_ret
  all_goals (refine ⟨?_, rfl⟩; simp_all [wrd])

theorem bl_eq {x y : ByteArray} : (x.toList == y.toList) = decide (x = y) := by
  rw [Lib.toList_data, Lib.toList_data]
  by_cases h : x = y
  · subst h; simp
  · rw [decide_eq_false h, beq_eq_false_iff_ne]
    intro e
    exact h (ByteArray.ext (Array.toList_inj.1 e))

end Go.Proofs.YtmbcfijhlpeddaaDoor
/- The reader's next and is. (Seat d.) -/
namespace Go.Proofs.YtmbcfijhlpeddaaDoor
open Go.ChangeShapes Go.WideShapes Go.ChangeAt Go.RowKit
set_option linter.unusedVariables false
set_option linter.unusedSimpArgs false

end Go.Proofs.YtmbcfijhlpeddaaDoor
/- The reference's word; lex.Digits and Num over D11 come by Lexnd. (Seat d.) -/
namespace Go.Proofs.YtmbcfijhlpeddaaDoor
open Go.ChangeShapes Go.WideShapes Go.ChangeAt Go.RowKit
set_option linter.unusedVariables false
set_option linter.unusedSimpArgs false

end Go.Proofs.YtmbcfijhlpeddaaDoor
/- lex.Digits and the reference's; the digits' number. -/
namespace Go.Proofs.YtmbcfijhlpeddaaDoor
open Go.ChangeShapes Go.WideShapes Go.ChangeAt Go.RowKit
set_option linter.unusedVariables false
set_option linter.unusedSimpArgs false

theorem pow10_below {w w' : World} {zs : List Int} (h : Lib.TabIs Tryd.prog w "internal/strconv.uint64pow10" .u64 zs) (hb : Below w.heap.size w w') : Lib.TabIs Tryd.prog w' "internal/strconv.uint64pow10" .u64 zs := by
  unfold Lib.TabIs World.var? at h ⊢
  cases hg : Tryd.prog.globalNamed "internal/strconv.uint64pow10" with
  | none => rw [hg] at h; exact h
  | some g =>
    rw [hg] at h
    simp only [Option.bind_some] at h ⊢
    by_cases hlt : g < w.heap.size
    · rw [hb.block g hlt]; exact h
    · rw [Array.getElem?_eq_none (by omega)] at h; cases h

theorem itoa_nat (n : Nat) : Lib.itoa (n : Int) = Lib.decDigits n := by
  unfold Lib.itoa
  rw [if_neg (by omega)]
  rfl
theorem dec_small {n : Nat} (h : n < 10) : Lib.decDigits n = [UInt8.ofNat (48 + n)] := by rw [Lib.decDigits, dif_pos h]
theorem dec_big {n : Nat} (h : ¬ n < 10) : Lib.decDigits n = Lib.decDigits (n / 10) ++ [UInt8.ofNat (48 + n % 10)] := by rw [Lib.decDigits, dif_neg h]
theorem u8_dig {k : Nat} (h : k < 10) : (UInt8.ofNat (48 + k)).toNat = 48 + k := by
  rw [UInt8.toNat_ofNat']; omega
theorem dec_val (n : Nat) : vlL (Lib.decDigits n) = n := by
  induction n using Nat.strongRecOn with
  | _ n ih =>
    by_cases h : n < 10
    · rw [dec_small h]
      show 0 * 10 + ((UInt8.ofNat (48 + n)).toNat - 48) = n
      rw [u8_dig h]; omega
    · rw [dec_big h, vlL_snoc, ih (n / 10) (by omega), u8_dig (by omega)]
      omega
theorem dec_dig (n : Nat) : ∀ b ∈ Lib.decDigits n, 48 ≤ b.toNat ∧ b.toNat ≤ 57 := by
  induction n using Nat.strongRecOn with
  | _ n ih =>
    intro b hb
    by_cases h : n < 10
    · rw [dec_small h, List.mem_singleton] at hb
      rw [hb, u8_dig h]; omega
    · rw [dec_big h, List.mem_append, List.mem_singleton] at hb
      rcases hb with hb | hb
      · exact ih (n / 10) (by omega) b hb
      · rw [hb, u8_dig (by omega)]; omega
theorem dec_head (n : Nat) : ∃ b r, Lib.decDigits n = b :: r ∧ (10 ≤ n → b.toNat ≠ 48) ∧ (n < 10 → r = []) ∧ (1 ≤ n → b.toNat ≠ 48) := by
  induction n using Nat.strongRecOn with
  | _ n ih =>
    by_cases h : n < 10
    · refine ⟨_, _, dec_small h, fun h2 => by omega, fun _ => rfl, fun h1 => by rw [u8_dig h]; omega⟩
    · obtain ⟨b, r, h1, h2, h3, h4⟩ := ih (n / 10) (by omega)
      refine ⟨b, r ++ [UInt8.ofNat (48 + n % 10)], by rw [dec_big h, h1]; rfl, fun _ => h4 (by omega), fun h2 => absurd h2 h, fun _ => h4 (by omega)⟩
theorem dec_len {n : Nat} (h : n ≤ 999999999) : 1 ≤ (Lib.decDigits n).length ∧ (Lib.decDigits n).length ≤ 9 := by
  have aux : ∀ k n : Nat, n < 10 ^ (k + 1) → (Lib.decDigits n).length ≤ k + 1 := by
    intro k
    induction k with
    | zero => intro n hn; rw [dec_small (by simpa using hn)]; simp
    | succ k ih =>
      intro n hn
      by_cases h : n < 10
      · rw [dec_small h]; simp
      · rw [dec_big h, List.length_append]
        have := ih (n / 10) (by rw [Nat.pow_succ] at hn; omega)
        simp; omega
  refine ⟨?_, aux 8 n (by omega)⟩
  obtain ⟨b, r, h1, -⟩ := dec_head n
  rw [h1]; simp

/-- A number's digits are a number's text, and that number. -/
theorem dec_isN {n : Nat} (h : n ≤ 999999999) (s : ByteArray) (hs : s.data.toList = Lib.decDigits n) : IsN s ∧ vl s s.size = n := by
  have hl := dec_len h
  have hsz := Lib.size_eq s
  rw [hs] at hsz
  have hb : ∀ j, j < s.size → 48 ≤ bt s j ∧ bt s j ≤ 57 := fun j hj => by
    have h1 := bt_list s j hj
    rw [h1.2]
    have hm := List.mem_of_getElem? h1.1
    rw [hs] at hm
    exact dec_dig n _ hm
  refine ⟨⟨⟨by omega, by omega, fun ⟨h1, h2⟩ => ?_⟩, hb⟩, ?_⟩
  · obtain ⟨b, r, e1, e2, e3, e4⟩ := dec_head n
    have h10 : 10 ≤ n := by
      by_cases h10 : n < 10
      · rw [e1, e3 h10] at hsz; simp at hsz; omega
      · omega
    have h3 := bt_list s 0 (by omega)
    rw [h3.2] at h1
    have h4 := h3.1
    rw [hs, e1] at h4
    simp at h4
    rw [← h4] at h1
    exact e2 h10 h1
  · unfold vl
    rw [hsz, hs, List.take_length]
    exact dec_val n

def tenS : ByteArray := ⟨#[48, 49, 50, 51, 52, 53, 54, 55, 56, 57]⟩
theorem ten_at : ∀ k : Fin 10, (tenS.extract k.val (k.val + 1)).data.toList = [UInt8.ofNat (48 + k.val)] := by decide +kernel

set_option maxRecDepth 100000 in
theorem lex_digits (a : Int) (wa : -9223372036854775808 ≤ a ∧ a ≤ 9223372036854775807) (w : World) (ht : Lib.TabIs Tryd.prog w "internal/strconv.uint64pow10" .u64 Lib.pow10Tab) :
    Calls Tryd.prog 19 #[.int .i64 a] w fun e w' => Below w.heap.size w w' ∧ (((a < 0 ∨ 999999999 < a) ∧ e = .returned (.tuple #[.string ⟨#[]⟩, .int .i64 3])) ∨
      ∃ n : Nat, a = n ∧ n ≤ 999999999 ∧ ∃ s : ByteArray, s.data.toList = Lib.decDigits n ∧ e = .returned (.tuple #[.string s, .int .i64 0])) := by
  have C := Lib.hid (c_strconv_Itoa a wa.1 wa.2 w ht)
  by_cases h0 : a < 0
  · have d1 : decide (a < 0) = true := decide_eq_true h0
    go_enter Tryd.func19, Tryd.ntmps19
    go_wp2
    go_ret2
    first | exact ⟨Below.refl _ _, .inl ⟨.inl h0, rfl⟩⟩ | exact ⟨Below.refl _ _, .inl rfl⟩
  · have d1 : decide (a < 0) = false := decide_eq_false h0
    by_cases h9 : 999999999 < a
    · have d2 : decide (a > 999999999) = true := decide_eq_true h9
      have d2' : decide (999999999 < a) = true := decide_eq_true h9
      go_enter Tryd.func19, Tryd.ntmps19
      go_wp2
      go_ret2
      first | exact ⟨Below.refl _ _, .inl ⟨.inr h9, rfl⟩⟩ | exact ⟨Below.refl _ _, .inl rfl⟩
    · have d2 : decide (a > 999999999) = false := decide_eq_false h9
      have d2' : decide (999999999 < a) = false := decide_eq_false h9
      obtain ⟨n, hn⟩ : ∃ n : Nat, a = n := ⟨a.toNat, by omega⟩
      obtain ⟨s, hs⟩ : ∃ s : ByteArray, (⟨(Lib.itoa a).toArray⟩ : ByteArray) = s := ⟨_, rfl⟩
      have C := Lib.hid (by have := C.out; rw [hs] at this; exact this)
      have HS : Hid (s.data.toList = Lib.decDigits n) := Lib.hid (by rw [← hs, ← itoa_nat, hn])
      have HN : Hid (a = n ∧ n ≤ 999999999) := Lib.hid ⟨hn, by omega⟩
      clear hs hn
      go_enter Tryd.func19, Tryd.ntmps19
      go_wp2_with fail
      refine C.out.mono ?_
      rintro e w1 ⟨rfl, k, os, rfl⟩
      have hb := Lib.below_grow w.heap.size w (Nat.le_refl _) k os
      obtain ⟨w1, hw1⟩ : ∃ w1, Go.Sort.grow (w.drewN k) os = w1 := ⟨_, rfl⟩
      rw [hw1] at hb ⊢
      clear hw1
      go_wp2_with fail
      go_ret2
      exact ⟨hb, .inr ⟨n, HN.out.1, HN.out.2, s, HS.out, rfl⟩⟩
end Go.Proofs.YtmbcfijhlpeddaaDoor
