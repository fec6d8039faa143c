/- perm.Cycles. -/
import Derived.Test.YtblohakflpedoaaCyo
import Derived.Test.YtblohakflpedoaaOwk
import Derived.Test.YtblohakflpedoaaCopi
import Derived.Test.YtblohakflpedoaaOwni
import Derived.Test.YtblohakflpedoaaPerm
import Derived.Deep.Cut
namespace Go.Proofs.Ytblohakflpedoaa
open Go.ChangeShapes Go.WideShapes Go.ChangeAt Go.RowKit
set_option linter.unusedVariables false
set_option linter.unusedSimpArgs false
theorem g_ltX {w : World} {B : Nat} {T : TypeId} {ys : List Int} (h : RowAtI w B T ys) : B < w.heap.size := by
  unfold RowAtI at h
  by_cases hlt : B < w.heap.size
  · exact hlt
  · have : w.heap[B]? = none := by simp; omega
    rw [this] at h; cases h
theorem cy_meas (n k : Nat) (h : k < n) : n - (intOf (.int .i64 ((k + 1 : Nat) : Int))).toNat < n - (intOf (.int .i64 (k : Int))).toNat := by simp only [intOf]; omega
theorem cy_meas' (n k : Nat) (h : k < n) : n - (intOf (.int .i64 ((k : Int) + 1))).toNat < n - (intOf (.int .i64 (k : Int))).toNat := by simp only [intOf]; omega
def elemX : Obj → Nat
  | .cells _ t _ => t
  | _ => 0
theorem flat_count : ∀ (ls : List (List Nat)), (∀ r ∈ ls, r ≠ []) → ls.length ≤ ls.flatten.length
  | [], _ => Nat.zero_le _
  | r :: ls, h => by
    have h1 := flat_count ls (fun s hs => h s (List.mem_cons_of_mem _ hs))
    have h2 := List.length_pos_iff.2 (h r (List.mem_cons_self ..))
    rw [List.flatten_cons, List.length_append, List.length_cons]; omega
theorem Rds.count {p : Nat → Nat} {n i : Nat} {ls : List (List Nat)} (h : Rds p n i ls) : ls.length ≤ n := Nat.le_trans (flat_count ls h.ne) (nodup_len n _ h.nd h.lt)
theorem g_ltY {w : World} {g : Nat} {o : Obj} (h : w.heap[g]? = some o) : g < w.heap.size := by
  by_cases hlt : g < w.heap.size
  · exact hlt
  · have : w.heap[g]? = none := by simp; omega
    rw [this] at h; cases h
theorem hPt_mark {p : Nat → Nat} {n i : Nat} {L r : List Nat} {lv : List Int} (hP : Pth p n i (fun x => x ∈ L) r) (h : Lft p n (L ++ r) lv) (hi : i < n) (hp : ∀ x, x < n → p x < n) (hx : nxt p i r ∉ L ++ r) :
    Pth p n i (fun x => x ∈ L) (r ++ [nxt p i r]) ∧ Lft p n (L ++ (r ++ [nxt p i r])) (lv.set (nxt p i r) (-1)) ∧ nxt p i (r ++ [nxt p i r]) = p (nxt p i r) := hP.mark h hi hp hx
set_option maxRecDepth 100000 in
set_option maxHeartbeats 8000000 in
theorem c_cycles (p : Option Addr) (n c : Nat) (ps : List Int) (W : World) (hr : RowI W p n ps) (hn : n ≤ 1000) (hg : rgt ps n n = true) (pf : Nat → Nat) (hp0 : ∀ x, x < n → ps[x]? = some (pf x : Int)) (hp1 : ∀ x, x < n → pf x < n) (hinj : ∀ x y, x < n → y < n → pf x = pf y → x = y) :
    Calls Try.prog 5 #[.slice p n c] W fun e w' => ∃ B l lv vals ls, e = .returned (.tuple #[l, .int .i64 0]) ∧ CI W w' B pf n n l lv vals ls := by
  have HP := Lib.hid (And.intro hp0 (And.intro hp1 hinj))
  clear hp0 hp1 hinj
  have CR := Lib.hid (perm_right p n c ps W hr)
  have HR := Lib.hid hr
  have HG := Lib.hid hg
  have HN := Lib.hid hn
  have hmk := make_i64 n (by omega)
  rw [hg] at CR
  clear hr hg hn
  go_enter Try.func5, Try.ntmps5
  go_wp2_with fail
  refine (CR.out).mono ?_
  rintro e x1 ⟨rfl, hb1⟩
  obtain ⟨B, hB⟩ : ∃ B, x1.heap.size = B := ⟨_, rfl⟩
  obtain ⟨x2, hx2⟩ : ∃ x2, x1.alloc (.cells (Array.replicate n (.int .i64 0)) 3) = x2 := ⟨_, rfl⟩
  have b2 : Below B x1 x2 := by rw [← hx2, ← hB]; exact (Below.refl _ _).alloc (Nat.le_refl _) _
  have R2 : RowAtI x2 B 3 (List.replicate n 0) := by rw [← hx2, ← hB]; exact RowAtI.made x1 3 n
  have HR2 := (HR.out.below hb1).below (w' := x2) (by rw [hB]; exact b2)
  obtain ⟨x3, hrun, hrow, hbut⟩ := run_copy_i64 3 R2 (show (List.replicate n (0 : Int)).length = n by simp) HR2 (Nat.le_refl n) (dc := n) (sc := c)
  have hd0 : (List.replicate n (0 : Int)).drop n = [] := by simp
  rw [hd0, List.append_nil] at hrow
  have HB3 := Lib.hid (show Below W.heap.size W x3 from (hb1.trans (b2.mono (by rw [← hB]; exact hb1.size))).trans (hbut.b W.heap.size (by rw [← hB]; exact hb1.size) (by have := b2.size; have := hb1.size; omega)))
  have HRW := Lib.hid hrow
  have HBW := Lib.hid (show W.heap.size ≤ B by rw [← hB]; exact hb1.size)
  clear hbut hrow R2 b2 HR2 hd0
  go_upto_region 4 with fail
  go_upto_region 6 with fail
  clear hrun hmk hx2 hB hb1
  go_wp2_with fail
  have HI0 := Lib.hid (show CI W x3 B pf n 0 (.slice none 0 0) ps [] [] from ⟨HRW.out, Lft.start HR.out.len HP.out.1, Rds.nil _ _, World.ownsRow_nil x3 (B + 1) _ 1, ⟨rfl, fun a v r h => by simp at h⟩, HB3.out, HBW.out⟩)
  go_loopw [5, 6, 7, 8, 9, 21] (fun l _ _ _ _ x wr => ∃ i : Nat, x = .int .i64 i ∧ Hid (i ≤ n) ∧ Hid (∃ lv vals ls, CI W wr B pf n i l lv vals ls)) (fun _ _ _ _ _ x _ => n - (intOf x).toNat)
  case atStart => exact ⟨0, rfl, Lib.hid (Nat.zero_le _), Lib.hid ⟨_, _, _, HI0.out⟩⟩
  case round =>
    obtain ⟨i, rfl, HI, HC⟩ := hrel
    obtain ⟨x5, rfl⟩ : ∃ w, w = wr := ⟨_, rfl⟩
    obtain ⟨lv0, vals, ls, hci⟩ := HC.out
    have HCI := Lib.hid hci
    clear hci HC
    by_cases hi : i < n
    · have hii : (i : Int) < (n : Int) := by omega
      have HIN := Lib.hid hi
      clear hi
      go_wp2_with fail
      go_loopw [7, 8, 9] (fun v x _ wr => ∃ (r : List Nat) (lv : List Int), x = .int .i64 (nxt pf i r : Nat) ∧ Hid (Owns wr x5.heap.size 3 .i64 v (ints' r)) ∧ Hid (RowAtI wr B 3 lv) ∧ Hid (Lft pf n (ls.flatten ++ r) lv) ∧ Hid (Pth pf n i (fun y => y ∈ ls.flatten) r) ∧ Hid (But x5 wr B)) (fun v _ _ _ => n + 1 - (match v with | .slice _ k _ => k | _ => 0))
      case atStart => exact ⟨[], lv0, rfl, Lib.hid (Owns.nil _ _ _ _), Lib.hid HCI.out.left, Lib.hid (by rw [List.append_nil]; exact HCI.out.lf), Lib.hid (Pth.nil _ _ _ _), Lib.hid (But.refl _ _)⟩
      case round =>
        obtain ⟨r, lv, rfl, HO, HL, HF, HPt, HBu⟩ := hrel
        obtain ⟨x6, rfl⟩ : ∃ w, w = wr := ⟨_, rfl⟩
        have hx := nxt_lt HPt.out HIN.out HP.out.2.1
        obtain ⟨x, hxe⟩ : ∃ x, nxt pf i r = x := ⟨_, rfl⟩
        have HXE := Lib.hid hxe
        rw [hxe] at hx
        have hxn : (x : Int) < (n : Int) := by omega
        have hx0 : (0 : Int) ≤ (x : Int) := by omega
        have hcB := HL.out.cell (k := x) (by rw [HF.out.len]; exact hx)
        have hBl := g_ltX HL.out
        obtain ⟨va, vc, rfl, -, hvc, hvm⟩ := HO.out.shape
        have HVC := Lib.hid (And.intro hvc hvm)
        rw [hxe]
        clear hxe hvc hvm
        have hil : (ints' r).length = r.length := by unfold ints'; rw [List.length_map]
        have HX := Lib.hid hx
        rcases HF.out.go hx with ⟨hno, hlv⟩ | ⟨hin, hlv⟩
        · rw [List.getD_eq_getElem?_getD, hlv] at hcB
          have hM := hPt_mark HPt.out HF.out HIN.out HP.out.2.1 (by rw [HXE.out]; exact hno)
          rw [HXE.out] at hM
          have HM := Lib.hid hM
          have HRL := Lib.hid (show r.length + 1 ≤ n by
            have h := nodup_len n _ hM.1.nd (fun y hy => (hM.1.lt y hy).1)
            rwa [List.length_append, List.length_singleton] at h)
          have hpx : (0 : Int) ≤ (pf x : Int) := by omega
          have hcB2 : x6.cell? ⟨B, x, none⟩ = some (.int .i64 (pf x : Int)) := hcB
          have HB5 := Lib.hid (g_ltX HCI.out.left)
          have HLIL := Lib.hid hil
          clear hcB hno hlv hM hil
          go_wp2_with (at_builtin; refine append_one_b (B := x5.heap.size) (ys := ints' r) (y := (x : Int)) Try.underlying22 info_i64 rfl _ _ rfl rfl HO.out rfl HBu.out.z (by have := HRL.out; have := HN.out; rw [HLIL.out]; omega) ?_; intro v7 x7 hO7 hb7 hk7; have HO7 := Lib.hid hO7; have HB7 := Lib.hid hb7; obtain ⟨va7, vc7, hv7, -, -, -⟩ := HO7.out.shape; subst hv7; have hc7 : x7.cell? ⟨B, x, none⟩ = some (.int .i64 (pf x : Int)) := (hb7.cell (p := ⟨B, x, none⟩) HB5.out).trans hcB2; have hf7 : x7.frozen? ⟨B, x, none⟩ = false := frozen_of_row _ _ _ _ _ ((hb7.block B HB5.out).trans HL.out); clear hO7 hb7 hk7)
          go_roundw
          case rel =>
            refine ⟨r ++ [x], lv.set x (-1), by rw [HM.out.2.2], Lib.hid ?_, Lib.hid ?_, Lib.hid HM.out.2.1, Lib.hid HM.out.1, Lib.hid ⟨fun k hk hne => ?_, ?_, fun H h1 h2 => ?_⟩⟩
            · have e : ints' (r ++ [x]) = ints' r ++ [(x : Int)] := by unfold ints'; rw [List.map_append]; rfl
              rw [e]
              have h8 : Owns x7 x5.heap.size 3 .i64 (.slice va7 ((ints' r).length + 1) vc7) (ints' r ++ [(x : Int)]) := by have := HO7.out; rwa [List.length_append, List.length_singleton] at this
              exact ownsRow_keepX h8 (fun g cs _ hg _ => heap_setCell_other _ _ _ _ (by show g ≠ B; have := HB5.out; omega))
            · exact RowAtI.set (show RowAtI x7 B 3 lv from (HB7.out.block B HB5.out).trans HL.out) x (-1)
            · exact (heap_setCell_other _ _ _ _ hne).trans ((HB7.out.block k hk).trans (HBu.out.o k hk hne))
            · have h1 := HBu.out.z
              have h2 := HB7.out.size
              simp; omega
            · exact ((HBu.out.b H h1 h2).trans (HB7.out.mono h2)).setCell (p := ⟨B, x, none⟩) h1 _
          case measure => have h1 := HLIL.out; have h2 := HRL.out; simp only [List.length_append, List.length_singleton]; omega
        · have HD := Lib.hid (Pth.done HCI.out.rd HPt.out HP.out.2.2 (by rw [HXE.out]; exact hin))
          rw [List.getD_eq_getElem?_getD, hlv] at hcB
          have hcB2 : x6.cell? ⟨B, x, none⟩ = some (.int .i64 (-1)) := hcB
          have HB5 := Lib.hid (g_ltX HCI.out.left)
          have hlk := ownsRow_keepX (w' := x6) HCI.out.l (fun g cs hg hb hh => HBu.out.o g (g_ltY hh) (by omega))
          have hrk := HCI.out.rw'.keep (w' := x6) (fun g cs hb hh => HBu.out.o g (g_ltY hh) (by omega))
          have HBE := Lib.hid (HCI.out.be.trans (HBu.out.b W.heap.size HCI.out.hB HCI.out.be.size))
          have HLK := Lib.hid hlk
          have HRK := Lib.hid hrk
          have WR := Lib.hid (show wrap64 ((i : Int) + 1) = ((i + 1 : Nat) : Int) by have := HN.out; have := HIN.out; simp only [wrap64]; omega)
          clear hcB hin hlv hlk hrk
          rcases HD.out with ⟨he, hR⟩ | ⟨hne, hR⟩
          · have HR1 := Lib.hid hR
            subst he
            have hz : (ints' []).length = 0 := rfl
            rw [hz]
            clear hR hil hz
            go_wp2_with fail
            go_roundw
            case rel => exact ⟨i + 1, by first | rw [WR.out] | simp, Lib.hid HIN.out, Lib.hid ⟨lv, vals, ls, ⟨HL.out, by have := HF.out; rwa [List.append_nil] at this, HR1.out, HLK.out, HRK.out, HBE.out, HCI.out.hB⟩⟩⟩
            case measure => first | exact cy_meas' n i HIN.out | (rw [WR.out]; exact cy_meas n i HIN.out)
          · have HR1 := Lib.hid hR
            have hpos : (0 : Int) < ((ints' r).length : Int) := by have := List.length_pos_iff.2 hne; omega
            have hposd : decide (((ints' r).length : Int) > 0) = true := by simp; omega
            clear hR hne hil
            have HVL := Lib.hid (show vals.length < 2000 by rw [HCI.out.rw'.1]; have h1 := HCI.out.rd.count; have := HN.out; omega)
            have HB6 := Lib.hid (g_ltX HL.out)
            have HOR := Lib.hid (ownsRow_monoX HO.out (B' := B + 1) (by have := HB5.out; omega))
            go_wp2_with (at_builtin; refine append_rowR (B := B + 1) (xs := vals) (u := .slice va (ints' r).length vc) rfl _ _ rfl rfl HLK.out rfl (by have := HB6.out; omega) HVL.out rfl ?_; intro v8 x8 hO8 hb8 hk8; have HO8 := Lib.hid hO8; have HB8 := Lib.hid hb8; have HK8 := Lib.hid hk8; clear hO8 hb8 hk8)
            go_roundw
            case rel =>
              have hnot : ∀ (g : Nat) (cs : Array Value), x6.heap[g]? = some (.cells cs 3 (0, 0)) → x8.heap[g]? = x6.heap[g]? := fun g cs hh => HK8.out g (g_ltY hh) (fun e => by
                obtain ⟨-, -, cs', h2⟩ := ownsRow_blk HLK.out e
                rw [hh] at h2
                have h3 : (3 : Nat) = 22 := congrArg elemX (Option.some.inj h2)
                exact absurd h3 (by decide))
              refine ⟨i + 1, by first | rw [WR.out] | simp, Lib.hid HIN.out, Lib.hid ⟨lv, vals ++ [_], ls ++ [r], ⟨?_, ?_, HR1.out, HO8.out, ?_, HBE.out.trans (HB8.out.mono (by have := HCI.out.hB; omega)), HCI.out.hB⟩⟩⟩
              · exact (HK8.out B HB6.out (fun e => by have := (ownsRow_blk HLK.out e).1; omega)).trans HL.out
              · have := HF.out
                rwa [show ls.flatten ++ r = (ls ++ [r]).flatten by simp] at this
              · exact (HRK.out.keep (fun g cs _ hh => hnot g cs hh)).add (ownsRow_keepX HOR.out (fun g cs _ _ hh => hnot g cs hh))
            case measure => first | exact cy_meas' n i HIN.out | (rw [WR.out]; exact cy_meas n i HIN.out)
    · have h9 : i = n := by have := HI.out; omega
      subst h9
      have hii : ¬ (i : Int) < (i : Int) := by omega
      go_wp2_with fail
      go_ret2
      first | exact ⟨B, _, lv0, vals, ls, rfl, HCI.out⟩ | exact ⟨B, _, rfl, lv0, vals, ls, HCI.out⟩
end Go.Proofs.Ytblohakflpedoaa
