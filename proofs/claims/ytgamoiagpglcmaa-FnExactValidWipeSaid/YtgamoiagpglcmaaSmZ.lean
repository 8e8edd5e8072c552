/- The laws' helper szFlash, with what is left of the bound. -/
import Derived.Test.YtgamoiagpglcmaaProg
import Derived.Test.YtgamoiagpglcmaaFlA
namespace Go.Proofs.Ytgamoiagpglcmaa
open Go.RowKit
set_option linter.unusedVariables false
theorem szFlashM_any (v : Value) (F : Fl) (w : World) (hi : Nat) (m : Int) (h : FlIn w 0 hi v F) (hh : hi ≤ w.heap.size) (h0 : 0 ≤ m) (h1 : m ≤ 1048576) :
    Calls Try.prog 55 #[v, .int .i64 m] w (LeftPost m (F.bs.length + szB F.bs) w) := by
  obtain ⟨u, rfl, h⟩ := h
  obtain ⟨d, b, p, bs, fu, ke, off, op⟩ := F
  simp only at h
  have HS := Lib.hid (fun (W : World) (hW : BksIn W 0 hi u bs) (hs : hi ≤ W.heap.size) => szBlocks_any u bs W 0 hi m hW hs h0 h1)
  have H := Lib.hid h
  clear h
  unfold flc
  simp only
  generalize bs.length + szB bs = t at *
  go_enter Try.func55, Try.ntmps55
  go_wp2_with fail
  refine (HS.out _ (H.out.same (sm ((Below.refl w.heap.size w).alloc (Nat.le_refl _) _) 0 hh)) (by simp; omega)).mono ?_
  rintro e w1 ⟨y, rfl, hy, hb⟩
  have HB := Lib.hid (((Below.refl w.heap.size w).alloc (Nat.le_refl _) (.cells #[.int .i64 d, .int .i64 b, .int .i64 p, u, .int .i64 fu, .int .i64 ke, .bool off, .int .i64 op] 73)).trans (hb.mono (by simp)))
  clear hb
  by_cases hneg : y < 0
  · go_wp2
    go_ret
    rcases hy with hy | hy
    · omega
    · exact ⟨_, rfl, .inr ⟨hy.1, rfl⟩, HB.out⟩
  · have hn : ¬ y < 0 := hneg
    go_wp2
    go_ret
    exact ⟨_, rfl, hy, HB.out⟩
end Go.Proofs.Ytgamoiagpglcmaa
