/- Maps in order, omap[string,[]handbill/vers.Version[string]]: Get. -/
import Derived.Test.YtdlacjdddjebgaaMapVS
import Derived.Deep.LoopGhost
namespace Go.Proofs.Ytdlacjdddjebgaa
open Go.RowKit

/-- What Get tells. -/
def getEVS (r : Option Value) : Ending := .returned (.tuple #[r.getD (.slice none 0 0), .bool r.isSome])
theorem getE_someVS (x : Value) : Ending.returned (.tuple #[x, .bool true]) = getEVS (some x) := rfl
theorem getE_noneVS : Ending.returned (.tuple #[(.slice none 0 0), .bool false]) = getEVS none := rfl
set_option maxHeartbeats 800000 in
theorem mgetVS_any (b : Nat) (k : Value) (t : Tr) (w : World) (h : MP w b t) (hks : KSVS k) (hw : WS KSVS VSVS t) :
    Calls Try.prog 48 #[.pointer (some ⟨b, 0, none⟩), k] w fun e w' => e = getEVS (getT k t) ∧ w' = w := by
  obtain ⟨T, o, hc, htp⟩ := h
  have c0 : w.cell? ⟨b, 0, none⟩ = some (.pointer o) := by simp [World.cell?, hc]
  obtain ⟨R, hR⟩ : ∃ R, R = getT k t := ⟨_, rfl⟩
  rw [← hR]
  have HR := Lib.hid hR
  have HT := Lib.hid htp
  have HW := Lib.hid hw
  clear hc htp hw hR
  go_enter Try.func48, Try.ntmps48
  go_wp2_with fail
  go_loopg [6] (prs t).length (fun n v wr => ∃ (o' : Option Addr) (t' : Tr), v = .pointer o' ∧ n = (prs t').length ∧ Hid (TP w o' t') ∧ Hid (WS KSVS VSVS t') ∧ Hid (getT k t' = R) ∧ wr = w)
  case atStart => exact ⟨o, t, rfl, rfl, HT, HW, Lib.hid HR.out.symm, rfl⟩
  case round =>
    obtain ⟨o', t', rfl, rfl, HT', HW', HG, rfl⟩ := hrel
    clear c0
    cases t' with
    | nil =>
      obtain rfl : o' = none := HT'.out
      have e : none = R := HG.out
      subst e
      go_wp2_with fail
      go_ret2
      exact ⟨rfl, rfl⟩
    | node l k' x' n r =>
      obtain ⟨b', T', ol, or, rfl, hc', hl, hr⟩ := HT'.out
      obtain ⟨_, a1, a2, a3, a4⟩ := HW'.out
      have d0 := cell_of_row wr b' 0 _ T' (0, 0) hc'
      have d1 := cell_of_row wr b' 1 _ T' (0, 0) hc'
      have d3 := cell_of_row wr b' 3 _ T' (0, 0) hc'
      have d4 := cell_of_row wr b' 4 _ T' (0, 0) hc'
      simp only [List.getElem?_toArray, List.getElem?_cons_zero, List.getElem?_cons_succ] at d0 d1 d3 d4
      have HL := Lib.hid hl
      have HRr := Lib.hid hr
      have A3 := Lib.hid a3
      have A4 := Lib.hid a4
      have eg := HG.out
      unfold getT at eg
      have CC := Lib.hid (fun W => cmpVS_any k k' W hks a1)
      have LL : Hid ((prs l).length < (prs (Tr.node l k' x' n r)).length ∧ (prs r).length < (prs (Tr.node l k' x' n r)).length) := by
        refine Lib.hid ?_
        rw [prs_node, List.length_append, List.length_cons]; omega
      unfold cmpV at CC
      clear hc' hl hr a2 a3 a4
      by_cases g1 : lessV k k' = true
      · rw [if_pos g1] at CC
        rw [if_pos g1] at eg
        have HE := Lib.hid eg
        clear eg g1
        go_wp2_with (go_at_call 68; refine (CC.out _).mono ?_; rintro e w' ⟨rfl, rfl⟩)
        go_roundg (prs l).length
        case measure => exact LL.out.1
        case rel => exact ⟨ol, l, rfl, rfl, HL, A3, HE, rfl⟩
      · rw [if_neg g1] at CC
        rw [if_neg g1] at eg
        by_cases g2 : lessV k' k = true
        · rw [if_pos g2] at CC
          rw [if_pos g2] at eg
          have HE := Lib.hid eg
          clear eg g1 g2
          go_wp2_with (go_at_call 68; refine (CC.out _).mono ?_; rintro e w' ⟨rfl, rfl⟩)
          go_roundg (prs r).length
          case measure => exact LL.out.2
          case rel => exact ⟨or, r, rfl, rfl, HRr, A4, HE, rfl⟩
        · rw [if_neg g2] at CC
          rw [if_neg g2] at eg
          subst eg
          clear g1 g2
          go_wp2_with (go_at_call 68; refine (CC.out _).mono ?_; rintro e w' ⟨rfl, rfl⟩)
          go_ret2
          exact ⟨rfl, rfl⟩
end Go.Proofs.Ytdlacjdddjebgaa
