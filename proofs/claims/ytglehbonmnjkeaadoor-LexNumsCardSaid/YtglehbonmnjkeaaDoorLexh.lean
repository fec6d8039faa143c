/- Layer 22's example. -/
import Derived.Test.YtglehbonmnjkeaaDoorLexg
namespace Go.Proofs.YtglehbonmnjkeaaDoor
open Go.ChangeShapes Go.WideShapes Go.ChangeAt Go.RowKit
set_option linter.unusedVariables false
set_option linter.unusedSimpArgs false

theorem hm_below {w w' : World} (h : ∃ m, w.cell? ⟨0, 0, none⟩ = some (.int .i64 m)) (hb : Below w.heap.size w w') : ∃ m, w'.cell? ⟨0, 0, none⟩ = some (.int .i64 m) := by
  obtain ⟨m, hm⟩ := h
  exact ⟨m, cell_later hb hm⟩

def sW : ByteArray := ⟨#[56, 32, 48, 32, 115, 116, 111, 99, 107, 56]⟩
def sT : ByteArray := ⟨#[115, 112, 108, 105, 116, 54, 40, 115, 109, 97, 108, 108, 50]⟩
theorem sW_wds : wds sW.data.toList = some [[56], [48], [115, 116, 111, 99, 107, 56]] := by decide +kernel
theorem sT_tk : tk sT sT.size = some [(1, 0, 5), (2, 5, 6), (3, 6, 7), (1, 7, 12), (2, 12, 13)] := by decide +kernel
theorem sT_sub : sT.extract 7 12 = ⟨#[115, 109, 97, 108, 108]⟩ := by decide +kernel

set_option maxRecDepth 100000 in
theorem live22 (w : World) (hm : ∃ m, w.cell? ⟨0, 0, none⟩ = some (.int .i64 m)) : Calls Tryd.prog 6 #[] w fun e w' => e = .returned (.bool true) ∧ Below w.heap.size w w' := by
  have F := Lib.hid (lex_words sW (by decide +kernel) w hm)
  have G := Lib.hid (fun w1 => lex_tokens sT (by decide +kernel) w1)
  go_enter Tryd.func6, Tryd.ntmps6
  go_wp2_with fail
  refine F.out.mono ?_
  rintro e w1 ⟨b1, ⟨h, -⟩ | ⟨l, v, h, rfl, ho⟩⟩
  · rw [sW_wds] at h; cases h
  rw [sW_wds] at h
  obtain rfl := Option.some.inj h
  obtain ⟨a0, c0, rfl⟩ : ∃ a0 c0, v = .slice a0 3 c0 := by
    rcases own_form ho with ⟨-, h, -⟩ | ⟨g, c, h, _⟩
    · simp at h
    · exact ⟨_, _, h⟩
  clear ho h F
  go_wp2_with fail
  refine (G.out _).mono ?_
  rintro e w2 ⟨b2, ⟨h, -⟩ | ⟨l, v, h, rfl, ho⟩⟩
  · rw [sT_tk] at h; cases h
  rw [sT_tk] at h
  obtain rfl := Option.some.inj h
  rcases own_form ho with ⟨-, h, -⟩ | ⟨g, c, hv, hg1, hg2, hg3, hg4, hcell⟩
  · simp at h
  subst hv
  have c1 : w2.cell? ⟨g, 10, none⟩ = some (.string ⟨#[115, 109, 97, 108, 108]⟩) := by
    obtain ⟨u, h1, h2, _⟩ := hcell 10 (by decide)
    rw [(encT_at sT _ (j := 3) rfl).2.1, sT_sub] at h1
    rw [h2, h1]
  have c2 : w2.cell? ⟨g, 11, none⟩ = some (.int .i64 7) := by
    obtain ⟨u, h1, h2, _⟩ := hcell 11 (by decide)
    rw [(encT_at sT _ (j := 3) rfl).2.2] at h1
    rw [h2]; exact h1.symm
  clear hcell ho h G
  have hB := b1.trans (b2.mono b1.size)
  clear b1 b2
  go_wp2_with fail
  go_ret
  exact ⟨rfl, hB⟩
end Go.Proofs.YtglehbonmnjkeaaDoor
