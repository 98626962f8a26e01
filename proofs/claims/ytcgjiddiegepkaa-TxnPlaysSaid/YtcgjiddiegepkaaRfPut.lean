/- hblref11's add, any; Put, Kill. -/
import Derived.Test.YtcgjiddiegepkaaRfAdd
namespace Go.Proofs.Ytcgjiddiegepkaa
open Go.RowKit
variable {W : World} {B b : Nat} {vo : Value} {R : List RRow} {low : Int}
theorem radd_any (h : RS W B b vo R low) (hn : R.length ≤ 100000) (hc : ∀ r ∈ R, r.2.2.length ≤ 100000) (key : List UInt8) (va : Int) (vx : List UInt8) (vz : Bool) :
    Calls Try.prog 48 #[.pointer (some ⟨b, 0, none⟩), str key, .agg #[.int .i64 va, str vx, .bool vz]] W (RAddP W B b vo R low key (va, vx, vz)) := by
  by_cases h1 : va < 1
  · exact radd_low h key va vx vz h1
  by_cases h2 : 1099511627776 < va
  · exact radd_high h key va vx vz h2
  by_cases h3 : va ≤ lastTVS (verC key (chR R))
  · exact radd_old h hn hc key va vx vz h1 h2 h3
  by_cases h4 : va < low
  · exact radd_under h hn hc key va vx vz h1 h2 h3 h4
  exact radd_yes h hn hc key va vx vz h1 h2 h3 h4
theorem RAddP.on {W W1 W' : World} {key : List UInt8} {v : VerVS} {e : Ending} (hb : Below W.heap.size W W1) (h : RAddP W1 B b vo R low key v e W') : RAddP W B b vo R low key v e W' := by
  obtain ⟨he, vo', R', h1, h2, h3, h4, h5⟩ := h
  exact ⟨he, vo', R', h1, h2, (Frm.of_below (F := BlkR b vo) hb).trans h3 (fun _ _ e => e), fun k hk => (h4 k hk).imp id (fun h => Nat.le_trans hb.size h), fun r hr j hj => (h5 r hr j hj).imp id (fun h => Nat.le_trans hb.size h)⟩
theorem rput_any (h : RS W B b vo R low) (hn : R.length ≤ 100000) (hc : ∀ r ∈ R, r.2.2.length ≤ 100000) (key : List UInt8) (va : Int) (vx : List UInt8) :
    Calls Try.prog 26 #[.pointer (some ⟨b, 0, none⟩), .int .i64 va, str key, str vx] W (RAddP W B b vo R low key (va, vx, false)) := by
  have C := Lib.hid (radd_any h hn hc key va vx false)
  clear h hn hc
  go_enter Try.func26, Try.ntmps26
  go_wp2_with fail
  refine C.out.mono ?_
  rintro e w5 ⟨rfl, h1⟩
  have HX := Lib.hid h1
  clear h1 C
  go_wp2_with fail
  go_ret
  exact ⟨rfl, HX.out⟩
theorem rkill_any (h : RS W B b vo R low) (hn : R.length ≤ 100000) (hc : ∀ r ∈ R, r.2.2.length ≤ 100000) (key : List UInt8) (va : Int) :
    Calls Try.prog 28 #[.pointer (some ⟨b, 0, none⟩), .int .i64 va, str key] W (RAddP W B b vo R low key (va, [], true)) := by
  have C := Lib.hid (radd_any h hn hc key va [] true)
  clear h hn hc
  go_enter Try.func28, Try.ntmps28
  go_wp2_with fail
  refine C.out.mono ?_
  rintro e w5 ⟨rfl, h1⟩
  have HX := Lib.hid h1
  clear h1 C
  go_wp2_with fail
  go_ret
  exact ⟨rfl, HX.out⟩
end Go.Proofs.Ytcgjiddiegepkaa
