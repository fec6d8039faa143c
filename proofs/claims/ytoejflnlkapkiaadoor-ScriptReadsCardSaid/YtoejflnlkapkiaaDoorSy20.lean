/- Put together by program (merge2.py): Sql Sqn Sqo Sqp Sqq. -/
import Derived.StillTailTactics
import Derived.Test.YtoejflnlkapkiaaDoorSy13
import Derived.Test.YtoejflnlkapkiaaDoorSy19
/- script.Parse of any text. -/
namespace Go.Proofs.YtoejflnlkapkiaaDoor
open Go.ChangeShapes Go.WideShapes Go.ChangeAt Go.RowKit
set_option linter.unusedVariables false
set_option linter.unusedSimpArgs false
theorem splA_le : ∀ (l cur : List UInt8), ∀ p ∈ splA cur l, p.length ≤ cur.length + l.length
  | [], cur, p, h => by
    simp only [splA, List.mem_cons, List.not_mem_nil, or_false] at h
    subst h; simp
  | b :: l, cur, p, h => by
    unfold splA at h
    split at h
    · rcases List.mem_cons.1 h with rfl | h
      · simp
      · have := splA_le l [] p h
        simp only [List.length_nil, List.length_cons] at this ⊢; omega
    · have := splA_le l _ p h
      simp only [List.length_append, List.length_cons, List.length_nil] at this ⊢; omega
theorem wds_len {l : List UInt8} {ws : List (List UInt8)} (h : wds l = some ws) : ws.length ≤ l.length + 1 ∧ ∀ p ∈ ws, p.length ≤ l.length := by
  unfold wds at h
  split at h
  · obtain rfl := Option.some.inj h
    exact ⟨Nat.zero_le _, fun p hp => (by cases hp)⟩
  · split at h
    · obtain rfl := Option.some.inj h
      refine ⟨?_, fun p hp => by simpa using splA_le l [] p hp⟩
      rw [splA_count]
      have := List.count_le_length (a := (32 : UInt8)) (l := l)
      omega
    · cases h
theorem ext_len (t : ByteArray) (a b : Nat) : (t.extract a b).data.toList.length ≤ t.size := by
  have h : (t.extract a b).data.toList.length = (t.extract a b).size := rfl
  rw [h, ByteArray.size_extract]; omega
theorem rowS_own {w : World} {B : Nat} {v : Value} {l : List (List UInt8)} (h : w.ownsRow B 9 1 v l.length (encS l)) : RowS w v l := by
  rcases own_form h with ⟨rfl, h0, -⟩ | ⟨g, c, rfl, -, hg, hc, -, hx⟩
  · have : l = [] := List.length_eq_zero_iff.1 h0
    subst this
    exact ⟨none, 0, rfl, Nat.le_refl _, .inl rfl⟩
  · refine ⟨_, _, rfl, hc, .inr ⟨g, 0, rfl, hg, fun j x hj => ?_⟩⟩
    obtain ⟨hjl, -⟩ := List.getElem?_eq_some_iff.1 hj
    obtain ⟨u, h1, h2, -⟩ := hx j (by omega)
    rw [encS_at, hj] at h1
    obtain rfl := Option.some.inj h1
    rw [Nat.zero_add]; exact h2
def SzN (n : Nat) (s : Sc) : Prop := s.cs.length ≤ n ∧ ∀ l ∈ s.cs, l.length ≤ n
theorem SzN.step {n ln : Nat} {s s' : Sc} {ws : List (List UInt8)} (h : SzN n s) (ha : addN s ln ws = some s') : SzN (n + 1) s' := by
  have up : SzN (n + 1) s := ⟨Nat.le_succ_of_le h.1, fun l hl => Nat.le_succ_of_le (h.2 l hl)⟩
  unfold addN at ha
  split at ha
  · cases ha
  · split at ha
    · split at ha
      · split at ha
        · obtain rfl := Option.some.inj ha; exact up
        · cases ha
      · cases ha
    · split at ha
      · split at ha
        · split at ha
          · obtain rfl := Option.some.inj ha; exact up
          · cases ha
        · cases ha
      · split at ha
        · split at ha
          · split at ha
            · obtain rfl := Option.some.inj ha; exact up
            · cases ha
          · cases ha
        · split at ha
          · split at ha
            · obtain rfl := Option.some.inj ha
              refine ⟨by show (s.cs ++ [[]]).length ≤ _; simp; exact h.1, fun l hl => ?_⟩
              rcases List.mem_append.1 hl with hl | hl
              · exact up.2 l hl
              · simp at hl; subst hl; exact Nat.zero_le _
            · cases ha
          · split at ha
            · split at ha
              · cases ha
              · obtain rfl := Option.some.inj ha
                refine ⟨by show (addC s.cs _).length ≤ _; unfold addC; simp; exact Nat.le_succ_of_le h.1, fun l hl => ?_⟩
                have hl' : l ∈ s.cs.set (s.cs.length - 1) (s.cs.getD (s.cs.length - 1) [] ++ [_]) := hl
                rcases List.mem_or_eq_of_mem_set hl' with hl2 | rfl
                · exact up.2 l hl2
                · rw [List.length_append, List.length_singleton]
                  have hg : (s.cs.getD (s.cs.length - 1) []).length ≤ n := by
                    rw [List.getD_eq_getElem?_getD]
                    cases he : s.cs[s.cs.length - 1]? with
                    | none => exact Nat.zero_le _
                    | some l2 => exact h.2 l2 (List.mem_of_getElem? he)
                  omega
            · cases ha
theorem sc_add (B b : Nat) (s : Sc) (ln : Nat) (hln : 1 ≤ ln) (v : Value) (ws : List (List UInt8)) (hws : ws ≠ []) (W : World) (hS : ScS B b W s) (h : RowS W v ws) (hn : ws.length ≤ 900000) (hl : ∀ x ∈ ws, x.length ≤ 1000000) (hz : SzN 1000000 s)
    (hE : Evs W) (hT : Lib.TabIs Tryd.prog W "internal/strconv.uint64pow10" .u64 Lib.pow10Tab) :
    Calls Tryd.prog 28 #[.pointer (some ⟨b, 0, none⟩), .int .i64 (ln : Int), v] W (AddOk B b (addN s ln ws) W) := by
  match ws, hws with
  | f :: r, _ =>
    have hn2 : r.length ≤ 900000 := by simp only [List.length_cons] at hn; omega
    have hl2 : ∀ x ∈ r, x.length ≤ 1000000 := fun x hx => hl x (List.mem_cons_of_mem _ hx)
    by_cases h1 : ln = 1
    · subst h1; exact sc_add1 B b s v f r W hS h hn2 hl2 hE hT
    by_cases h2 : ln = 2
    · subst h2; exact sc_add2 B b s v f r W hS h hn2 hl2 hE hT
    by_cases h3 : ln = 3
    · subst h3; exact sc_add3 B b s v f r W hS h hn2 hl2 hE hT
    by_cases hf : f = cliB.data.toList
    · exact sc_addc B b s ln (by omega) v f r W hS h hz.1 hf
    · exact sc_adda B b s ln (by omega) v f r W hS h hn2 hl2 hz.1 hz.2 hf hE hT
def ParseOk (t : ByteArray) (W : World) (e : Ending) (w' : World) : Prop :=
  Below W.heap.size W w' ∧ match prsN t (t.size + 1) 0 0 Sc.zero with
    | .ok s => ∃ cv pp pk tp tk, e = .returned (.tuple #[.agg #[.int .i64 s.st, .int .i64 s.rm, cv, .slice pp s.ps.length pk, .slice tp s.ts.length tk], .int .i64 0, .int .i64 0]) ∧ RowCC w' cv s.cs ∧ RowI w' pp s.ps.length s.ps ∧ RowI w' tp s.ts.length s.ts ∧ i64r s.st ∧ i64r s.rm
    | .error n => e = .returned (.tuple #[zeroSc, .int .i64 (n : Int), .int .i64 10])
def lnR (i : Nat) : List (List UInt8) → Option (List (List UInt8) × Nat)
  | [] => none
  | w :: ws => some (w :: ws, i + 1)
theorem lineN_wds {t : ByteArray} {a i : Nat} (hf : Fst t (a : Int) i) {l : List (List UInt8)} (hw : wds (t.extract a i).data.toList = some l) : lineN t a = lnR i l := by
  rw [lineN_of hf, hw]; cases l <;> rfl
theorem lineN_bad {t : ByteArray} {a i : Nat} (hf : Fst t (a : Int) i) (hw : wds (t.extract a i).data.toList = none) : lineN t a = none := by
  rw [lineN_of hf, hw]
end Go.Proofs.YtoejflnlkapkiaaDoor
/- Scripts: what was written is read again. -/
namespace Go.Proofs.YtoejflnlkapkiaaDoor
open Go.ChangeShapes Go.WideShapes Go.ChangeAt Go.RowKit
set_option linter.unusedVariables false
set_option linter.unusedSimpArgs false
def gw (w : List UInt8) : Prop := w ≠ [] ∧ ∀ c ∈ w, 33 ≤ c.toNat ∧ c.toNat ≤ 126
theorem splA_word : ∀ (w cur l : List UInt8), (∀ c ∈ w, 33 ≤ c.toNat ∧ c.toNat ≤ 126) → splA cur (w ++ l) = splA (cur ++ w) l
  | [], cur, l, _ => by simp
  | c :: w, cur, l, h => by
    have hc : ¬ c = 32 := by
      intro e; subst e
      have := (h 32 (List.mem_cons_self ..)).1
      simp at this
    rw [List.cons_append, splA, if_neg hc, splA_word w _ l (fun x hx => h x (List.mem_cons_of_mem _ hx))]
    simp
theorem splA_tail : ∀ (r : List (List UInt8)) (cur : List UInt8), (∀ w ∈ r, gw w) → splA cur (Lib.joinTail [32] r) = cur :: r
  | [], cur, _ => rfl
  | x :: r, cur, h => by
    have e : Lib.joinTail [32] (x :: r) = 32 :: (x ++ Lib.joinTail [32] r) := by simp [Lib.joinTail]
    rw [e, splA, if_pos rfl, splA_word x [] _ (h x (List.mem_cons_self ..)).2, List.nil_append, splA_tail r x (fun w hw => h w (List.mem_cons_of_mem _ hw))]
theorem splA_join {w : List UInt8} {r : List (List UInt8)} (h : ∀ x ∈ w :: r, gw x) : splA [] (Lib.join (w :: r) [32]) = w :: r := by
  rw [Lib.join_cons, splA_word w [] _ (h w (List.mem_cons_self ..)).2, List.nil_append, splA_tail r w (fun x hx => h x (List.mem_cons_of_mem _ hx))]
theorem tail_ok : ∀ (r : List (List UInt8)), (∀ w ∈ r, gw w) → ∀ c ∈ Lib.joinTail [32] r, 32 ≤ c.toNat ∧ c.toNat ≤ 126
  | [], _, c, hc => by simp [Lib.joinTail] at hc
  | x :: r, h, c, hc => by
    have e : Lib.joinTail [32] (x :: r) = 32 :: (x ++ Lib.joinTail [32] r) := by simp [Lib.joinTail]
    rw [e] at hc
    rcases List.mem_cons.1 hc with rfl | hc
    · exact ⟨by decide, by decide⟩
    · rcases List.mem_append.1 hc with hc | hc
      · have := (h x (List.mem_cons_self ..)).2 c hc
        exact ⟨by omega, this.2⟩
      · exact tail_ok r (fun w hw => h w (List.mem_cons_of_mem _ hw)) c hc
theorem join_ok {w : List UInt8} {r : List (List UInt8)} (h : ∀ x ∈ w :: r, gw x) : ∀ c ∈ Lib.join (w :: r) [32], 32 ≤ c.toNat ∧ c.toNat ≤ 126 := fun c hc => by
  rw [Lib.join_cons] at hc
  rcases List.mem_append.1 hc with hc | hc
  · have := (h w (List.mem_cons_self ..)).2 c hc
    exact ⟨by omega, this.2⟩
  · exact tail_ok r (fun x hx => h x (List.mem_cons_of_mem _ hx)) c hc
theorem wds_join {w : List UInt8} {r : List (List UInt8)} (h : ∀ x ∈ w :: r, gw x) : wds (Lib.join (w :: r) [32]) = some (w :: r) := by
  have hne : Lib.join (w :: r) [32] ≠ [] := by
    rw [Lib.join_cons]
    intro e
    exact (h w (List.mem_cons_self ..)).1 (List.append_eq_nil_iff.1 e).1
  have h1 : (Lib.join (w :: r) [32]).all okB = true := by
    rw [List.all_eq_true]
    intro c hc
    unfold okB
    exact decide_eq_true (join_ok h c hc)
  have h2 : (w :: r).all (fun p => decide (p ≠ [])) = true := by
    rw [List.all_eq_true]
    intro p hp
    exact decide_eq_true (h p hp).1
  unfold wds
  rw [if_neg hne, splA_join h, h1, h2]
  rfl
def lineW (ws : List (List UInt8)) : List UInt8 := Lib.join ws [32] ++ [10]
/-- The line at a place. -/
theorem lineN_at {t : ByteArray} {a : Nat} {ws : List (List UInt8)} {post : List UInt8} (ha : a ≤ t.size) (hd : t.data.toList.drop a = lineW ws ++ post) (hne : ws ≠ []) (hg : ∀ w ∈ ws, gw w) :
    lineN t a = some (ws, a + (lineW ws).length) ∧ t.data.toList.drop (a + (lineW ws).length) = post ∧ a + (lineW ws).length ≤ t.size := by
  obtain ⟨w, r, rfl⟩ : ∃ w r, ws = w :: r := by
    cases ws with
    | nil => exact absurd rfl hne
    | cons w r => exact ⟨w, r, rfl⟩
  obtain ⟨J, hJ⟩ : ∃ J, Lib.join (w :: r) [32] = J := ⟨_, rfl⟩
  have hok := join_ok hg
  have hwj := wds_join hg
  have hlw : lineW (w :: r) = J ++ [10] := by unfold lineW; rw [hJ]
  rw [hJ] at hok hwj
  rw [hlw] at hd ⊢
  have hsz : t.data.toList.length = t.size := rfl
  have hlen : t.size - a = (J ++ [10] ++ post).length := by rw [← hd, List.length_drop, hsz]
  have hget : ∀ k, k < t.size - a → t.data.toList[a + k]? = (J ++ [10] ++ post)[k]? := fun k _ => by rw [← hd, List.getElem?_drop]
  have hJl : a + J.length < t.size := by rw [List.length_append, List.length_append] at hlen; simp only [List.length_cons, List.length_nil] at hlen; omega
  have hbt : ∀ (k : Nat) (c : UInt8), a + k < t.size → (J ++ [10] ++ post)[k]? = some c → bt t (a + k) = c.toNat := fun k c hk hc => by
    obtain ⟨h1, h2⟩ := bt_list t (a + k) hk
    rw [hget k (by omega), hc] at h1
    rw [h2, ← Option.some.inj h1]
  have hF : Fst t (a : Int) (a + J.length) := by
    refine ⟨by omega, by omega, hJl, ?_, fun j hj1 hj2 => ?_⟩
    · rw [hbt J.length 10 hJl (by rw [List.append_assoc, List.getElem?_append_right (Nat.le_refl _)]; simp)]
      rfl
    · obtain ⟨k, rfl⟩ : ∃ k, j = a + k := ⟨j - a, by omega⟩
      have hk : k < J.length := by omega
      have hc : (J ++ [10] ++ post)[k]? = some J[k] := by
        rw [List.append_assoc, List.getElem?_append_left hk, List.getElem?_eq_getElem hk]
      rw [hbt k _ (by omega) hc]
      have := hok J[k] (List.getElem_mem hk)
      omega
  have hx : (t.extract a (a + J.length)).data.toList = J := by
    have h1 : (t.extract a (a + J.length)).data.toList = (t.data.toList.drop a).take J.length := by
      rw [ByteArray.data_extract, Array.toList_extract]
      simp [List.extract_eq_take_drop]
    rw [h1, hd, List.append_assoc, List.take_left']
    rfl
  refine ⟨?_, ?_, ?_⟩
  · rw [lineN_wds hF (by rw [hx]; exact hwj)]
    unfold lnR
    simp [Nat.add_assoc]
  · rw [← List.drop_drop, hd]
    simp
  · rw [List.length_append]; simp only [List.length_cons, List.length_nil]; omega
/-- All lines, one after another. -/
def foldN : Nat → Sc → List (List (List UInt8)) → Option Sc
  | _, s, [] => some s
  | n, s, ws :: r => match addN s (n + 1) ws with | none => none | some s' => foldN (n + 1) s' r
theorem prs_fold {t : ByteArray} : ∀ (Ls : List (List (List UInt8))) (n a : Nat) (s s' : Sc) (k : Nat), t.data.toList.drop a = (Ls.map lineW).flatten → a ≤ t.size → (∀ ws ∈ Ls, ws ≠ [] ∧ ∀ w ∈ ws, gw w) → foldN n s Ls = some s' → 3 ≤ n + Ls.length → Ls.length < k →
    prsN t k n a s = .ok s'
  | [], n, a, s, s', k, hd, ha, _, hf, h3, hk => by
    obtain ⟨k, rfl⟩ : ∃ j, k = j + 1 := ⟨k - 1, by simp at hk; omega⟩
    have h0 : t.data.toList.drop a = [] := by rw [hd]; rfl
    have hl := congrArg List.length h0
    rw [List.length_drop] at hl
    have hsz : t.data.toList.length = t.size := rfl
    simp only [List.length_nil] at hl h3
    rw [prsN_end (by omega) (by omega)]
    rw [foldN] at hf
    rw [Option.some.inj hf]
  | ws :: r, n, a, s, s', k, hd, ha, hg, hf, h3, hk => by
    obtain ⟨k, rfl⟩ : ∃ j, k = j + 1 := ⟨k - 1, by simp at hk; omega⟩
    obtain ⟨hne, hgw⟩ := hg ws (List.mem_cons_self ..)
    rw [List.map_cons, List.flatten_cons] at hd
    obtain ⟨h1, h2, h4⟩ := lineN_at ha hd hne hgw
    rw [foldN] at hf
    have hlw : 1 ≤ (lineW ws).length := by unfold lineW; simp
    cases hadd : addN s (n + 1) ws with
    | none => rw [hadd] at hf; cases hf
    | some s1 =>
      rw [hadd] at hf
      rw [prsN_step (by omega) h1 hadd]
      exact prs_fold r (n + 1) _ s1 s' k h2 h4 (fun x hx => hg x (List.mem_cons_of_mem _ hx)) hf (by simp only [List.length_cons] at h3; omega) (by simp only [List.length_cons] at hk; omega)
end Go.Proofs.YtoejflnlkapkiaaDoor
/- Scripts: a written script is read as its own calls. -/
namespace Go.Proofs.YtoejflnlkapkiaaDoor
open Go.ChangeShapes Go.WideShapes Go.ChangeAt Go.RowKit
set_option linter.unusedVariables false
set_option linter.unusedSimpArgs false
def wsB (ws : List ByteArray) : List (List UInt8) := ws.map (·.data.toList)
theorem gw_dec (n : Nat) : gw (Lib.decDigits n) := ⟨dec_ne n, fun c hc => by have h := dec_digs n c hc; unfold digB at h; omega⟩
theorem gw_itoa (z : Int) : gw (Lib.itoa z) := by
  unfold Lib.itoa
  split
  · refine ⟨by simp, fun c hc => ?_⟩
    rcases List.mem_cons.1 hc with rfl | hc
    · exact ⟨by decide, by decide⟩
    · exact (gw_dec _).2 c hc
  · exact gw_dec _
theorem hexD_ok : ∀ k : Fin 16, 33 ≤ (hexD k.1).toNat ∧ (hexD k.1).toNat ≤ 126 := by decide +kernel
theorem gw_hex {s : ByteArray} (h : s.data.toList ≠ []) : gw (hexB s) := by
  constructor
  · unfold hexB
    cases hs : s.data.toList with
    | nil => exact absurd hs h
    | cons b r => simp
  · intro c hc
    unfold hexB at hc
    obtain ⟨l, hl, h2⟩ := List.mem_flatten.1 hc
    obtain ⟨b, -, rfl⟩ := List.mem_map.1 hl
    have hb : b.toNat < 256 := UInt8.toNat_lt _
    simp only [List.mem_cons, List.not_mem_nil, or_false] at h2
    rcases h2 with rfl | rfl
    · exact hexD_ok ⟨b.toNat / 16, by omega⟩
    · exact hexD_ok ⟨b.toNat % 16, by omega⟩
theorem wdK_good : ∀ k : Fin 8, k.1 ≠ 0 → (wdK (k.1 : Int)).data.toList ≠ [] ∧ (wdK (k.1 : Int)).data.toList.all (fun c => decide (33 ≤ c.toNat ∧ c.toNat ≤ 126)) = true ∧ (wdK (k.1 : Int)).data.toList ≠ cliB.data.toList := by decide +kernel
theorem gw_of_all {l : List UInt8} (h : l ≠ []) (h2 : l.all (fun c => decide (33 ≤ c.toNat ∧ c.toNat ≤ 126)) = true) : gw l := by
  refine ⟨h, fun c hc => ?_⟩
  rw [List.all_eq_true] at h2
  exact of_decide_eq_true (h2 c hc)
theorem gw_word {k : Int} (h1 : 1 ≤ k) (h7 : k ≤ 7) : gw (wdK k).data.toList ∧ (wdK k).data.toList ≠ cliB.data.toList := by
  obtain ⟨j, rfl⟩ : ∃ j : Nat, k = (j : Int) := ⟨k.toNat, by omega⟩
  have h := wdK_good ⟨j, by omega⟩ (by simp; omega)
  exact ⟨gw_of_all h.1 h.2.1, h.2.2⟩
theorem numsW_itoa : ∀ {xs : List Int}, (∀ x ∈ xs, i64r x) → numsW (xs.map Lib.itoa) = some xs
  | [], _ => rfl
  | x :: r, h => by
    rw [List.map_cons, numsW, numW_of (h x (List.mem_cons_self ..)), numsW_itoa (fun y hy => h y (List.mem_cons_of_mem _ hy))]
    rfl
theorem udsW_dec : ∀ {xs : List Int}, (∀ x ∈ xs, 0 ≤ x ∧ x < 18446744073709551616) → udsW (xs.map fun x => Lib.decDigits x.toNat) = some xs
  | [], _ => rfl
  | x :: r, h => by
    have hx := h x (List.mem_cons_self ..)
    rw [List.map_cons, udsW, udW_dec (by omega), udsW_dec (fun y hy => h y (List.mem_cons_of_mem _ hy))]
    have e : ((x.toNat : Nat) : Int) = x := Int.toNat_of_nonneg hx.1
    simp only [e]
theorem two_i64 {a b : Int} (ha : i64r a) (hb : i64r b) : ∀ x ∈ [a, b], i64r x := fun x hx => by
  simp only [List.mem_cons, List.not_mem_nil, or_false] at hx
  rcases hx with h | h
  · rw [h]; exact ha
  · rw [h]; exact hb
theorem wsB_L (f : ByteArray) (xs : List Int) : wsB (wsL f xs) = f.data.toList :: xs.map Lib.itoa := by
  unfold wsB wsL
  rw [List.map_cons, List.map_map]
  rfl
theorem callN_of {c : Cl} (hc : c.ok) (h1 : 1 ≤ c.kd) (h7 : c.kd ≤ 7) (hx : ∀ x ∈ c.xs, 0 ≤ x ∧ x < 18446744073709551616) :
    ∃ r, wsB (wsC c) = (wdK c.kd).data.toList :: r ∧ callN ((wdK c.kd).data.toList :: r) = some (ownC c) ∧ ∀ w ∈ r, gw w := by
  obtain ⟨kd, n, dir, s, who, ar, xs⟩ := c
  simp only at h1 h7 hx ⊢
  have hn := hc.n
  have hd := hc.dir
  have hw := hc.who
  have ha := hc.at'
  simp only at hn hd hw ha
  have hhit : ∀ r, callN ((wdK kd).data.toList :: r) = kindN kd r := fun r => by
    obtain ⟨k, rfl⟩ : ∃ k : Nat, kd = (k : Int) := ⟨kd.toNat, by omega⟩
    show kindN (kdW _) r = _
    rw [kdW_hit (by omega) (by omega) rfl]
  by_cases h3 : kd = 1 ∨ kd = 2 ∨ kd = 3
  · refine ⟨[n, dir].map Lib.itoa, ?_, ?_, fun w hw => ?_⟩
    · unfold wsC; rw [if_pos h3, wsB_L]
    · rw [hhit]
      unfold kindN keyN ownC
      rw [if_pos h3, if_pos h3, numsW_itoa (two_i64 hn hd)]
    · obtain ⟨x, -, rfl⟩ := List.mem_map.1 hw
      exact gw_itoa x
  · by_cases h4 : kd = 4
    · subst h4
      by_cases hs : s.data.toList = []
      · refine ⟨[], ?_, ?_, fun w hw => (by cases hw)⟩
        · unfold wsC; simp only [h3, if_false, if_true, hs]; rfl
        · rw [hhit]
          have e : s = ⟨#[]⟩ := ba_ext2 hs
          subst e
          rfl
      · refine ⟨[hexB s], ?_, ?_, fun w hw => ?_⟩
        · unfold wsC; simp only [h3, if_false, if_true, hs]; rfl
        · rw [hhit]
          show (unB (hexB s)).map _ = _
          have e : unB (hexB s) = some s.data.toList := unB_hex s.data.toList
          rw [e]
          rfl
        · simp only [List.mem_cons, List.not_mem_nil, or_false] at hw
          subst hw
          exact gw_hex hs
    · by_cases h6 : kd = 6
      · subst h6
        refine ⟨[who, ar].map Lib.itoa ++ xs.map (fun x => Lib.decDigits x.toNat), ?_, ?_, fun w hw => ?_⟩
        · unfold wsC
          simp only [h3, h4, if_false, if_true]
          have e : wsB (wsL (wdK 6) [who, ar] ++ xs.map udS) = wsB (wsL (wdK 6) [who, ar]) ++ xs.map (fun x => Lib.decDigits x.toNat) := by
            unfold wsB
            rw [List.map_append, List.map_map]
            rfl
          rw [e, wsB_L]; rfl
        · rw [hhit]
          show ofN 6 (Lib.itoa who :: Lib.itoa ar :: xs.map (fun x => Lib.decDigits x.toNat)) = _
          have e : numsW [Lib.itoa who, Lib.itoa ar] = some [who, ar] := numsW_itoa (xs := [who, ar]) (two_i64 hw ha)
          unfold ofN
          simp only
          rw [if_neg (by rintro ⟨h, -⟩; exact absurd h (by decide)), e, udsW_dec hx]
          rfl
        · rcases List.mem_append.1 hw with hw | hw
          · obtain ⟨x, -, rfl⟩ := List.mem_map.1 hw
            exact gw_itoa x
          · obtain ⟨x, -, rfl⟩ := List.mem_map.1 hw
            exact gw_dec _
      · by_cases h7' : kd = 7
        · subst h7'
          refine ⟨[who, ar].map Lib.itoa, ?_, ?_, fun w hw => ?_⟩
          · unfold wsC
            simp only [h3, h4, h6, if_false, if_true]
            rw [wsB_L]
          · rw [hhit]
            show ofN 7 (Lib.itoa who :: Lib.itoa ar :: []) = _
            have e : numsW [Lib.itoa who, Lib.itoa ar] = some [who, ar] := numsW_itoa (xs := [who, ar]) (two_i64 hw ha)
            unfold ofN
            simp only
            rw [if_neg (by rintro ⟨-, h⟩; exact h rfl), e]
            rfl
          · obtain ⟨x, -, rfl⟩ := List.mem_map.1 hw
            exact gw_itoa x
        · have h5 : kd = 5 := by omega
          subst h5
          refine ⟨[], ?_, ?_, fun w hw => (by cases hw)⟩
          · unfold wsC
            simp only [h3, h4, h6, h7', if_false]
            rfl
          · rw [hhit]; rfl
/-- The lines of a script. -/
def callLs (l : List Cl) : List (List (List UInt8)) := l.map fun c => wsB (wsC c)
def cliLs (cs : List (List Cl)) : List (List (List UInt8)) := (cs.map fun l => [cliB.data.toList] :: callLs l).flatten
def linesS (st rm : Int) (ps ts : List Int) (cs : List (List Cl)) : List (List (List UInt8)) := wsB (wsL plW [st, rm]) :: wsB (wsL piW ps) :: wsB (wsL tiW ts) :: cliLs cs
theorem lineB_W (ws : List ByteArray) : lineB ws = lineW (wsB ws) := rfl
theorem callsT_W (l : List Cl) : callsT l = ((callLs l).map lineW).flatten := by
  unfold callsT callLs
  rw [List.map_map]; rfl
theorem cliT_W : ∀ cs : List (List Cl), (cs.map cliT).flatten = ((cliLs cs).map lineW).flatten
  | [] => rfl
  | l :: cs => by
    have e : cliLs (l :: cs) = ([cliB.data.toList] :: callLs l) ++ cliLs cs := by unfold cliLs; simp
    rw [List.map_cons, List.flatten_cons, cliT_W cs, e, List.map_append, List.flatten_append]
    unfold cliT
    rw [callsT_W, List.map_cons, List.flatten_cons]
    rfl
theorem scT_W (st rm : Int) (ps ts : List Int) (cs : List (List Cl)) : scT st rm ps ts cs = ((linesS st rm ps ts cs).map lineW).flatten := by
  unfold scT headT linesS
  rw [cliT_W]
  simp only [List.map_cons, List.flatten_cons, List.append_assoc]
  rfl
structure GoodL (c : Cl) : Prop where
  ok : c.ok
  lo : 1 ≤ c.kd
  hi : c.kd ≤ 7
  xs : ∀ x ∈ c.xs, 0 ≤ x ∧ x < 18446744073709551616
theorem addC_last {C : List (List Cl)} {l : List Cl} {c : Cl} : addC (C ++ [l]) c = C ++ [l ++ [c]] := by
  unfold addC
  have e : (C ++ [l]).length - 1 = C.length := by simp
  rw [e, List.getD_eq_getElem?_getD, List.getElem?_append_right (Nat.le_refl _)]
  simp
theorem add_call {s : Sc} {n : Nat} {c : Cl} {C : List (List Cl)} {l : List Cl} (hn : 3 ≤ n) (hg : GoodL c) (hs : s.cs = C ++ [l]) : addN s (n + 1) (wsB (wsC c)) = some { s with cs := C ++ [l ++ [ownC c]] } := by
  obtain ⟨r, h1, h2, -⟩ := callN_of hg.ok hg.lo hg.hi hg.xs
  rw [h1]
  have n1 : ¬ n + 1 = 1 := by omega
  have n2 : ¬ n + 1 = 2 := by omega
  have n3 : ¬ n + 1 = 3 := by omega
  have hne : s.cs ≠ [] := by rw [hs]; simp
  have e : addN s (n + 1) ((wdK c.kd).data.toList :: r) = match callN ((wdK c.kd).data.toList :: r) with | some c => if s.cs = [] then none else some { s with cs := addC s.cs c } | none => none := by
    simp only [addN, n1, n2, n3, if_false, (gw_word hg.lo hg.hi).2]
    generalize callN ((wdK c.kd).data.toList :: r) = o
    cases o <;> rfl
  rw [e, h2]
  simp only
  rw [if_neg hne, hs, addC_last]
theorem fold_calls : ∀ (l : List Cl) (n : Nat) (s : Sc) (C : List (List Cl)) (l0 : List Cl) (Ls : List (List (List UInt8))), 3 ≤ n → (∀ c ∈ l, GoodL c) → s.cs = C ++ [l0] →
    foldN n s (callLs l ++ Ls) = foldN (n + l.length) { s with cs := C ++ [l0 ++ l.map ownC] } Ls
  | [], n, s, C, l0, Ls, _, _, hs => by
    obtain ⟨st, rm, cs, ps, ts⟩ := s
    simp only at hs
    subst hs
    simp [callLs]
  | c :: l, n, s, C, l0, Ls, hn, hg, hs => by
    have e : callLs (c :: l) ++ Ls = wsB (wsC c) :: (callLs l ++ Ls) := rfl
    rw [e, foldN, add_call hn (hg c (List.mem_cons_self ..)) hs]
    simp only
    rw [fold_calls l (n + 1) _ C (l0 ++ [ownC c]) Ls (by omega) (fun x hx => hg x (List.mem_cons_of_mem _ hx)) rfl]
    simp [Nat.add_assoc, Nat.add_comm 1]
theorem add_cli {s : Sc} {n : Nat} (hn : 3 ≤ n) : addN s (n + 1) [cliB.data.toList] = some { s with cs := s.cs ++ [[]] } := by
  have n1 : ¬ n + 1 = 1 := by omega
  have n2 : ¬ n + 1 = 2 := by omega
  have n3 : ¬ n + 1 = 3 := by omega
  simp only [addN, n1, n2, n3, if_false, if_true]
theorem fold_clis : ∀ (cs : List (List Cl)) (n : Nat) (s : Sc), 3 ≤ n → (∀ l ∈ cs, ∀ c ∈ l, GoodL c) → foldN n s (cliLs cs) = some { s with cs := s.cs ++ cs.map (fun l => l.map ownC) }
  | [], n, s, _, _ => by
    obtain ⟨st, rm, cs, ps, ts⟩ := s
    simp [cliLs, foldN]
  | l :: cs, n, s, hn, hg => by
    have e : cliLs (l :: cs) = [cliB.data.toList] :: (callLs l ++ cliLs cs) := by unfold cliLs; simp
    rw [e, foldN, add_cli hn]
    simp only
    rw [fold_calls l (n + 1) _ s.cs [] _ (by omega) (hg l (List.mem_cons_self ..)) rfl, fold_clis cs _ _ (by omega) (fun x hx => hg x (List.mem_cons_of_mem _ hx))]
    simp
theorem prs_scT {t : ByteArray} {st rm : Int} {ps ts : List Int} {cs : List (List Cl)} (ht : t.data.toList = scT st rm ps ts cs) (hst : i64r st) (hrm : i64r rm) (hps : ∀ x ∈ ps, i64r x) (hts : ∀ x ∈ ts, i64r x) (hg : ∀ l ∈ cs, ∀ c ∈ l, GoodL c) :
    prsN t (t.size + 1) 0 0 Sc.zero = .ok ⟨st, rm, cs.map (fun l => l.map ownC), ps, ts⟩ := by
  have hlen : (linesS st rm ps ts cs).length < t.size + 1 := by
    have h1 : ∀ Ls : List (List (List UInt8)), Ls.length ≤ ((Ls.map lineW).flatten).length := by
      intro Ls
      induction Ls with
      | nil => exact Nat.le_refl _
      | cons x r ih => rw [List.map_cons, List.flatten_cons, List.length_append, List.length_cons]; unfold lineW at ih ⊢; simp at ih ⊢; omega
    have h2 := h1 (linesS st rm ps ts cs)
    rw [← scT_W, ← ht] at h2
    have hsz : t.data.toList.length = t.size := rfl
    omega
  refine prs_fold (linesS st rm ps ts cs) 0 0 Sc.zero _ _ (by rw [List.drop_zero, ht, scT_W]) (Nat.zero_le _) (fun ws hws => ?_) ?_ (by unfold linesS; simp) hlen
  · have hL : ∀ (f : ByteArray) (xs : List Int), gw f.data.toList → wsB (wsL f xs) ≠ [] ∧ ∀ w ∈ wsB (wsL f xs), gw w := fun f xs hf => by
      rw [wsB_L]
      refine ⟨by simp, fun w hw => ?_⟩
      rcases List.mem_cons.1 hw with rfl | hw
      · exact hf
      · obtain ⟨x, -, rfl⟩ := List.mem_map.1 hw
        exact gw_itoa x
    unfold linesS at hws
    rcases List.mem_cons.1 hws with rfl | hws
    · exact hL _ _ (gw_of_all (by decide) (by decide))
    rcases List.mem_cons.1 hws with rfl | hws
    · exact hL _ _ (gw_of_all (by decide) (by decide))
    rcases List.mem_cons.1 hws with rfl | hws
    · exact hL _ _ (gw_of_all (by decide) (by decide))
    unfold cliLs at hws
    obtain ⟨L, hL1, hL2⟩ := List.mem_flatten.1 hws
    obtain ⟨l, hl, rfl⟩ := List.mem_map.1 hL1
    rcases List.mem_cons.1 hL2 with rfl | hL2
    · refine ⟨by simp, fun w hw => ?_⟩
      simp only [List.mem_cons, List.not_mem_nil, or_false] at hw
      subst hw
      exact gw_of_all (by decide) (by decide)
    · unfold callLs at hL2
      obtain ⟨c, hc, rfl⟩ := List.mem_map.1 hL2
      have hgc := hg l hl c hc
      obtain ⟨r, h1, -, h3⟩ := callN_of hgc.ok hgc.lo hgc.hi hgc.xs
      rw [h1]
      refine ⟨by simp, fun w hw => ?_⟩
      rcases List.mem_cons.1 hw with rfl | hw
      · exact (gw_word hgc.lo hgc.hi).1
      · exact h3 w hw
  · have e1 : addN Sc.zero (0 + 1) (wsB (wsL plW [st, rm])) = some { Sc.zero with st := st, rm := rm } := by
      rw [wsB_L]
      have e : numsW ([st, rm].map Lib.itoa) = some [st, rm] := numsW_itoa (two_i64 hst hrm)
      simp only [addN, Nat.zero_add, if_true, e]
    have e2 : ∀ s : Sc, addN s 2 (wsB (wsL piW ps)) = some { s with ps := ps } := fun s => by
      rw [wsB_L]
      simp only [addN, numsW_itoa hps, if_true, show ¬ (2 = 1) from by decide, if_false]
    have e3 : ∀ s : Sc, addN s 3 (wsB (wsL tiW ts)) = some { s with ts := ts } := fun s => by
      rw [wsB_L]
      simp only [addN, numsW_itoa hts, if_true, show ¬ (3 = 1) from by decide, show ¬ (3 = 2) from by decide, if_false]
    unfold linesS
    rw [foldN, e1]
    simp only
    rw [foldN, e2]
    simp only
    rw [foldN, e3]
    simp only
    rw [fold_clis cs _ _ (by omega) hg]
    simp [Sc.zero]
end Go.Proofs.YtoejflnlkapkiaaDoor
/- ScriptPrints: a script as the document's; more than is asked. -/
namespace Go.Proofs.YtoejflnlkapkiaaDoor
open Go.ChangeShapes Go.WideShapes Go.ChangeAt Go.RowKit
set_option linter.unusedVariables false
set_option linter.unusedSimpArgs false
theorem s_ret {fn : Func} {p : Tmp} (h : fn.results = #[.cell p 34]) (a : Act) (w : World) (g : Nat) (cs : Array Value) (hs : cs.size = 5) (hp : a.tmps.getD p undef = .pointer (some ⟨g, 0, none⟩)) (hd : a.defers = [])
    (hg : w.heap[g]? = some (.cells cs 34 (0, 0))) {Q : Ending → World → Prop} (hQ : Q (.returned (.agg cs)) w) :
    bodyPost Tryd.prog fn Q .ret a w :=
  bodyPost_ret (results_cell_row h _ _ g 34 _ (0, 0) _ hp hg Tryd.underlying34 rfl (by rw [hs]; kernel_rfl)) hd hQ
set_option maxRecDepth 100000 in
set_option maxHeartbeats 4000000 in
theorem l42_like (a b : Int) (p p2 p3 : Option Addr) (n c n2 c2 n3 c3 : Nat) (W : World) :
    Calls Tryd.prog 11 #[.agg #[.int .i64 a, .int .i64 b, .slice p n c, .slice p2 n2 c2, .slice p3 n3 c3]] W fun e w' => e = .returned (.agg #[.int .i64 a, .int .i64 b, .slice p n c, .slice p2 n2 c2, .slice p3 n3 c3]) ∧ Below W.heap.size W w' := by
  obtain ⟨w0, hw0, r0, hB0, hs0⟩ := boxG W #[.int .i64 a, .int .i64 b, .slice p n c, .slice p2 n2 c2, .slice p3 n3 c3] 25
  obtain ⟨k0, k1, k2, k3, k4⟩ := sc_cells5 r0
  have hbl : W.heap.size < w0.heap.size := by rw [hs0]; omega
  have HBF := Lib.hid (hB0.alloc hB0.size (.cells #[.int .i64 a, .int .i64 b, .slice p n c, .slice p2 n2 c2, .slice p3 n3 c3] 34))
  have HNW := Lib.hid (heap_alloc_new w0 (.cells #[.int .i64 a, .int .i64 b, .slice p n c, .slice p2 n2 c2, .slice p3 n3 c3] 34))
  clear r0 hB0
  go_enter Tryd.func11, Tryd.ntmps11
  go_wp2_with fail
  refine s_ret (p := 2) rfl _ _ w0.heap.size #[.int .i64 a, .int .i64 b, .slice p n c, .slice p2 n2 c2, .slice p3 n3 c3] rfl (by simp [hs0]) rfl HNW.out ?_
  exact ⟨rfl, HBF.out⟩
/-- How much calls hold. -/
def bulkK (l : List Cl) : Nat := (l.map fun c => 1 + c.s.size + c.xs.length).sum
def bulkC (cs : List (List Cl)) : Nat := (cs.map bulkK).sum
theorem bulkK_take {l : List Cl} {k : Nat} {c : Cl} (h : l[k]? = some c) : bulkK (l.take (k + 1)) = bulkK (l.take k) + (1 + c.s.size + c.xs.length) := by
  unfold bulkK
  rw [List.take_add_one, h]; simp
theorem bulkK_le (l : List Cl) (k : Nat) : bulkK (l.take k) ≤ bulkK l := by
  have h : bulkK l = bulkK (l.take k) + bulkK (l.drop k) := by
    unfold bulkK
    rw [← List.sum_append, ← List.map_append, List.take_append_drop]
  omega
theorem bulkC_take {cs : List (List Cl)} {k : Nat} {l : List Cl} (h : cs[k]? = some l) : bulkC (cs.take (k + 1)) = bulkC (cs.take k) + bulkK l := by
  unfold bulkC
  rw [List.take_add_one, h]; simp
theorem bulkC_le (cs : List (List Cl)) (k : Nat) : bulkC (cs.take k) ≤ bulkC cs := by
  have h : bulkC cs = bulkC (cs.take k) + bulkC (cs.drop k) := by
    unfold bulkC
    rw [← List.sum_append, ← List.map_append, List.take_append_drop]
  omega
theorem bulkK_get {l : List Cl} {k : Nat} {c : Cl} (h : l[k]? = some c) : 1 + c.s.size + c.xs.length ≤ bulkK l := by
  have h1 := bulkK_take h
  have h2 := bulkK_le l (k + 1)
  omega
theorem bulkC_get {cs : List (List Cl)} {k : Nat} {l : List Cl} (h : cs[k]? = some l) : bulkC (cs.take k) + bulkK l ≤ bulkC cs := by
  have h1 := bulkC_take h
  have h2 := bulkC_le cs (k + 1)
  omega
end Go.Proofs.YtoejflnlkapkiaaDoor
/- ScriptPrints: great. -/
namespace Go.Proofs.YtoejflnlkapkiaaDoor
open Go.ChangeShapes Go.WideShapes Go.ChangeAt Go.RowKit
set_option linter.unusedVariables false
set_option linter.unusedSimpArgs false
set_option maxRecDepth 100000 in
set_option maxHeartbeats 8000000 in
theorem l42_great (st rm : Int) (cv : Value) (cs : List (List Cl)) (pp tp : Option Addr) (pn pk tn tk : Nat) (W : World) (hC : RowCC W cv cs) (hcl : cs.length ≤ 2000000) (hll : ∀ l ∈ cs, l.length ≤ 2000000) (hb : pn + tn + bulkC cs ≤ 3000000) :
    Calls Tryd.prog 7 #[.agg #[.int .i64 st, .int .i64 rm, cv, .slice pp pn pk, .slice tp tn tk]] W fun e w' => (∃ g, e = .returned (.bool g) ∧ (g = false → cs.length ≤ 60 ∧ (∀ l ∈ cs, l.length ≤ 60) ∧ pn + tn + bulkC cs ≤ 3000)) ∧ Below W.heap.size W w' := by
  obtain ⟨cp, cc, rfl, hx⟩ := id hC
  obtain ⟨w0, hw0, r0, hB0, hs0⟩ := boxG W #[.int .i64 st, .int .i64 rm, .slice cp cs.length cc, .slice pp pn pk, .slice tp tn tk] 25
  have HK := Lib.hid (fun (w : World) (h : Below w0.heap.size w0 w) => sc_cells5 ((h.block _ (by omega)).trans r0))
  have HC := Lib.hid (hC.below hB0)
  have HB0 := Lib.hid hB0
  have HCL := Lib.hid hcl
  have HLL := Lib.hid hll
  have HBK := Lib.hid hb
  obtain ⟨k0, k1, k2, k3, k4⟩ := sc_cells5 r0
  obtain ⟨P, hP⟩ : ∃ P, pn + tn = P := ⟨_, rfl⟩
  have HPP := Lib.hid hP
  have WS := Lib.hid (show wrap64 ((pn : Int) + (tn : Int)) = (P : Int) by simp only [wrap64]; omega)
  rw [hP] at hb ⊢
  clear hP
  clear r0 hB0 hs0 hcl hll hb hx
  go_enter Tryd.func7, Tryd.ntmps7
  go_upto_region 2 with fail
  rw [WS.out]
  clear k0 k1 k2 k3 k4
  go_wp2_with fail
  go_loopw [3, 4, 5] (fun n i _ wr => ∃ (q : Nat), i = .int .i64 q ∧ n = .int .i64 ((P + bulkC (cs.take q) : Nat) : Int) ∧ Hid (q ≤ cs.length ∧ q ≤ 100) ∧ Hid (∀ l ∈ cs.take q, l.length ≤ 60) ∧ Hid (Below w0.heap.size w0 wr)) (fun _ i _ _ => 100 - (intOf i).toNat)
  case atStart => exact ⟨0, rfl, by simp [bulkC], Lib.hid ⟨Nat.zero_le _, Nat.zero_le _⟩, Lib.hid (fun l hl => by simp at hl), Lib.hid (Below.refl _ _)⟩
  case round =>
    obtain ⟨q, rfl, rfl, HQ, HL6, HB⟩ := hrel
    obtain ⟨x1, rfl⟩ : ∃ w, w = wr := ⟨_, rfl⟩
    obtain ⟨m0, m1, m2, m3, m4⟩ := HK.out x1 HB.out
    have HBW := Lib.hid (HB0.out.trans (HB.out.mono HB0.out.size))
    obtain ⟨N0, hN0⟩ : ∃ N0, P + bulkC (cs.take q) = N0 := ⟨_, rfl⟩
    have HN0 := Lib.hid hN0
    rw [hN0]
    clear hN0
    by_cases hq : q < cs.length ∧ q < 100
    · obtain ⟨hq1, hq2⟩ := hq
      obtain ⟨l, hl⟩ : ∃ l, cs[q]? = some l := ⟨_, List.getElem?_eq_getElem hq1⟩
      have HL := Lib.hid hl
      have HLT := Lib.hid (And.intro hq1 hq2)
      have d1 : decide ((q : Int) < (cs.length : Int)) = true := decide_eq_true (by omega)
      have d1' : decide (q < cs.length) = true := decide_eq_true hq1
      have d2 : decide ((q : Int) < 100) = true := decide_eq_true (by omega)
      have hq0 : (0 : Int) ≤ (q : Int) := by omega
      have hqi : (q : Int) < (cs.length : Int) := by omega
      have WQ := Lib.hid (show wrap64 ((q : Int) + 1) = ((q + 1 : Nat) : Int) by simp only [wrap64]; omega)
      have hbl := bulkC_get hl
      have HBL := Lib.hid hbl
      have hNb : N0 + bulkK l ≤ 3000000 := by have h1 := HN0.out; have h2 := HBK.out; have h3 := HPP.out; omega
      have HNB := Lib.hid hNb
      obtain ⟨p', c', hv, hrr⟩ := HC.out
      simp only [Value.slice.injEq] at hv
      obtain ⟨rfl, -, -⟩ := hv
      rcases hrr with hrr | ⟨gb, go, rfl, hgb, hrr⟩
      · rw [hrr] at hq1; simp at hq1
      obtain ⟨u, hu, hul⟩ := hrr q l hl
      have HU := Lib.hid (fun (w : World) (h : Below w0.heap.size w0 w) => (h.cell (p := ⟨gb, go + q, none⟩) hgb).trans hu)
      have HRC := Lib.hid (fun (w : World) (h : Below w0.heap.size w0 w) => hul.below h)
      have hun := HU.out x1 HB.out
      obtain ⟨lp, lc, rfl, -⟩ := hul
      clear hl hq1 hq2 hbl hNb hrr hu
      go_upto_region 6 with fail
      go_wp2_with fail
      go_loopw [3, 5] (fun n j wr => ∃ (k : Nat), j = .int .i64 k ∧ n = .int .i64 ((N0 + bulkK (l.take k) : Nat) : Int) ∧ Hid (k ≤ l.length ∧ k ≤ 100) ∧ Hid (Below w0.heap.size w0 wr)) (fun _ j _ => 100 - (intOf j).toNat)
      case atStart => exact ⟨0, rfl, by simp [bulkK], Lib.hid ⟨Nat.zero_le _, Nat.zero_le _⟩, HB⟩
      case round =>
        obtain ⟨k, rfl, rfl, HKK, HB2⟩ := hrel
        obtain ⟨x2, rfl⟩ : ∃ w, w = wr := ⟨_, rfl⟩
        clear m0 m1 m2 m3 m4 hun
        obtain ⟨m0, m1, m2, m3, m4⟩ := HK.out x2 HB2.out
        have hun := HU.out x2 HB2.out
        have hmd := HK.out x2.drew HB2.out.drew
        have hund := HU.out x2.drew HB2.out.drew
        obtain ⟨N1, hN1⟩ : ∃ N1, N0 + bulkK (l.take k) = N1 := ⟨_, rfl⟩
        have HN1 := Lib.hid hN1
        rw [hN1]
        clear hN1
        by_cases hk : k < l.length ∧ k < 100
        · obtain ⟨hk1, hk2⟩ := hk
          obtain ⟨c, hcl⟩ : ∃ c, l[k]? = some c := ⟨_, List.getElem?_eq_getElem hk1⟩
          have e1 : decide ((k : Int) < (l.length : Int)) = true := decide_eq_true (by omega)
          have e1' : decide (k < l.length) = true := decide_eq_true hk1
          have e2 : decide ((k : Int) < 100) = true := decide_eq_true (by omega)
          have hk0 : (0 : Int) ≤ (k : Int) := by omega
          have hki : (k : Int) < (l.length : Int) := by omega
          have hst := bulkK_take hcl
          have hle := bulkK_le l (k + 1)
          have HNX := Lib.hid (show N0 + bulkK (l.take (k + 1)) = N1 + 1 + c.s.size + c.xs.length by have := HN1.out; omega)
          have WK := Lib.hid (show wrap64 ((k : Int) + 1) = ((k + 1 : Nat) : Int) by simp only [wrap64]; omega)
          have hb1 : N1 + 1 + c.s.size + c.xs.length ≤ 3000000 := by have := HNX.out; have := HNB.out; omega
          have WA := Lib.hid (show IntKind.i64.wrap ((N1 : Int) + 1) = ((N1 + 1 : Nat) : Int) by rw [IntWalk.i64_in _ (by omega)]; omega)
          have WB := Lib.hid (show IntKind.i64.wrap (((N1 + 1 : Nat) : Int) + (c.s.size : Int)) = ((N1 + 1 + c.s.size : Nat) : Int) by rw [IntWalk.i64_in _ (by omega)]; omega)
          have WC := Lib.hid (show IntKind.i64.wrap (((N1 + 1 + c.s.size : Nat) : Int) + (c.xs.length : Int)) = ((N1 + 1 + c.s.size + c.xs.length : Nat) : Int) by rw [IntWalk.i64_in _ (by omega)]; omega)
          have HKL := Lib.hid (And.intro hk1 hk2)
          obtain ⟨p2, c2, hv2, hr2⟩ := HRC.out x2.drew HB2.out.drew
          simp only [Value.slice.injEq] at hv2
          obtain ⟨rfl, -, -⟩ := hv2
          rcases hr2 with hr2 | ⟨g2, o2, rfl, hg2, hr2⟩
          · rw [hr2] at hk1; simp at hk1
          obtain ⟨-, -, -, -, z3, -, -, xv, z6, xp, xk, rfl, -⟩ := hr2 k c hcl
          clear hcl hst hle hb1 hk1 hk2 hr2 hmd
          go_wp2_with fail
          go_still_tail 24, (by kernel_rfl)
          change wpList _ _ _ _ _ x2.drew
          rw [WA.out, WB.out, WC.out]
          clear m0 m1 m2 m3 m4 hun hund z3 z6
          obtain ⟨xd, hxd⟩ : ∃ xd, x2.drew = xd := ⟨_, rfl⟩
          have HBD := Lib.hid (show Below w0.heap.size w0 xd by rw [← hxd]; exact HB2.out.drew)
          rw [hxd]
          clear hxd
          go_wp2_with fail
          go_roundw
          case rel => exact ⟨k + 1, by first | rw [WK.out] | simp, by first | rw [HNX.out] | (rw [HNX.out]; simp), Lib.hid (by have := HKL.out; omega), HBD⟩
          case measure => first | (rw [WK.out]; have := HKL.out; simp only [intOf]; omega) | (have := HKL.out; simp only [intOf]; omega)
        · have hex : (decide ((k : Int) < (l.length : Int)) = false ∧ decide (k < l.length) = false) ∨ (decide ((k : Int) < (l.length : Int)) = true ∧ decide (k < l.length) = true ∧ decide ((k : Int) < 100) = false) := by
            by_cases h : k < l.length
            · exact .inr ⟨decide_eq_true (by omega), decide_eq_true h, decide_eq_false (by omega)⟩
            · exact .inl ⟨decide_eq_false (by omega), decide_eq_false h⟩
          have HEX := Lib.hid hk
          have h60 : decide ((l.length : Int) > 60) = true ∨ (decide ((l.length : Int) > 60) = false ∧ l.length ≤ 60) := by
            by_cases h : 60 < l.length
            · exact .inl (decide_eq_true (by omega))
            · exact .inr ⟨decide_eq_false (by omega), by omega⟩
          clear hk
          rcases h60 with h6 | ⟨h6, h6'⟩
          · have h62 : decide ((60 : Int) < (l.length : Int)) = true := h6
            have h63 : decide (60 < l.length) = true := decide_eq_true (by have := of_decide_eq_true h6; omega)
            have HFT := Lib.hid (HB0.out.trans (HB2.out.mono HB0.out.size))
            rcases hex with ⟨e1, e1'⟩ | ⟨e1, e1', e2⟩
            all_goals
              go_wp2_with fail
              go_ret
              exact ⟨⟨true, rfl, fun h => by cases h⟩, HFT.out⟩
          · have h62 : decide ((60 : Int) < (l.length : Int)) = false := h6
            have h63 : decide (60 < l.length) = false := decide_eq_false (by omega)
            have HN1E := Lib.hid (show N1 = P + bulkC (cs.take (q + 1)) by
              have h1 := HN1.out
              have h2 := HEX.out
              have h3 := HKK.out
              have hk : k = l.length := by omega
              rw [hk, List.take_length] at h1
              rw [bulkC_take HL.out]
              have := HN0.out
              omega)
            have HL7 := Lib.hid (show ∀ l' ∈ cs.take (q + 1), l'.length ≤ 60 from fun l' hl' => by
              rw [List.take_add_one, HL.out] at hl'
              rcases List.mem_append.1 hl' with h | h
              · exact HL6.out l' h
              · simp at h; subst h; exact h6')
            rcases hex with ⟨e1, e1'⟩ | ⟨e1, e1', e2⟩
            all_goals
              go_wp2_with fail
              go_roundw
              case rel => exact ⟨q + 1, by first | rw [WQ.out] | simp, by first | rw [HN1E.out] | simp [HN1E.out], Lib.hid (by have := HLT.out; omega), HL7, HB2⟩
              case measure => first | (rw [WQ.out]; have := HLT.out; simp only [intOf]; omega) | (have := HLT.out; simp only [intOf]; omega)
    · have hex : (decide ((q : Int) < (cs.length : Int)) = false ∧ decide (q < cs.length) = false) ∨ (decide ((q : Int) < (cs.length : Int)) = true ∧ decide (q < cs.length) = true ∧ decide ((q : Int) < 100) = false) := by
        by_cases h : q < cs.length
        · exact .inr ⟨decide_eq_true (by omega), decide_eq_true h, decide_eq_false (by omega)⟩
        · exact .inl ⟨decide_eq_false (by omega), decide_eq_false h⟩
      have h3 : (decide ((N0 : Int) > 3000) = true) ∨ (decide ((N0 : Int) > 3000) = false ∧ decide ((3000 : Int) < (N0 : Int)) = false ∧ decide (3000 < N0) = false ∧ N0 ≤ 3000) := by
        by_cases h : 3000 < N0
        · exact .inl (decide_eq_true (by omega))
        · exact .inr ⟨decide_eq_false (by omega), decide_eq_false (by omega), decide_eq_false h, by omega⟩
      obtain ⟨G, hG⟩ : ∃ G, decide ((cs.length : Int) > 60) = G := ⟨_, rfl⟩
      have HG := Lib.hid (show G = false → cs.length ≤ 60 from fun h => by rw [h] at hG; have := of_decide_eq_false hG; omega)
      have hG2 : decide ((60 : Int) < (cs.length : Int)) = G := hG
      have hG3 : decide (60 < cs.length) = G := by rw [← hG]; by_cases h : 60 < cs.length <;> simp [h] <;> omega
      have HEX := Lib.hid hq
      clear hq
      rcases h3 with h3 | ⟨h3, h3', h3'', h3n⟩
      · have h3' : decide ((3000 : Int) < (N0 : Int)) = true := h3
        have h3'' : decide (3000 < N0) = true := decide_eq_true (by have := of_decide_eq_true h3; omega)
        rcases hex with ⟨e1, e1'⟩ | ⟨e1, e1', e2⟩
        all_goals
          go_wp2_with fail
          go_ret
          exact ⟨⟨true, rfl, fun h => by cases h⟩, HBW.out⟩
      · have HFIN := Lib.hid (show G = false → cs.length ≤ 60 ∧ (∀ l ∈ cs, l.length ≤ 60) ∧ P + bulkC cs ≤ 3000 from fun h => by
          have h1 := HG.out h
          have h2 := HEX.out
          have h4 := HQ.out
          have hq : q = cs.length := by omega
          have h5 := HL6.out
          have h6 := HN0.out
          rw [hq, List.take_length] at h5 h6
          exact ⟨h1, h5, by omega⟩)
        rcases hex with ⟨e1, e1'⟩ | ⟨e1, e1', e2⟩
        all_goals
          go_wp2_with fail
          go_ret
          first | exact ⟨⟨_, rfl, HFIN.out⟩, HBW.out⟩ | (rw [hG] at *; exact ⟨⟨_, rfl, HFIN.out⟩, HBW.out⟩)
end Go.Proofs.YtoejflnlkapkiaaDoor
