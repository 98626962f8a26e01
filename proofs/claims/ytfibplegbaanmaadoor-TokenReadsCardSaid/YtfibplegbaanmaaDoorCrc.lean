/- num.Crc, by its contract. -/
import Derived.Test.YtfibplegbaanmaaDoorCrcMath
import Derived.Test.YtfibplegbaanmaaDoorRows
namespace Go.Proofs.YtfibplegbaanmaaDoor
open Go.RowKit
theorem btc : BT Tryd.prog 37 5 := ⟨Tryd.underlying37, Tryd.underlying5, by kernel_rfl⟩

/-- The table stands in its place. -/
def Tab (w : World) : Prop := ∀ i, i < 16 → w.cell? ⟨0, i, none⟩ = some (.int .u32 ((nib i : Nat) : Int))
theorem nib_int : ∀ i : Fin 16, ([0, 498536548, 997073096, 651767980, 1994146192, 1802195444, 1303535960, 1342533948, 3988292384, 4027552580, 3604390888, 3412177804, 2607071920, 2262029012, 2685067896, 3183342108] : List Int).getD i.val 0 = ((nib i.val : Nat) : Int) := by decide
theorem tab_of {w : World} (h : ∀ i, i < 16 → w.cell? ⟨0, i, none⟩ = some (.int .u32 (([0, 498536548, 997073096, 651767980, 1994146192, 1802195444, 1303535960, 1342533948, 3988292384, 4027552580, 3604390888, 3412177804, 2607071920, 2262029012, 2685067896, 3183342108] : List Int).getD i 0))) : Tab w := fun i hi => by
  rw [h i hi, nib_int ⟨i, hi⟩]
theorem Tab.below {B : Nat} {w w' : World} (h : Tab w) (hb : Below B w w') (hB : w.heap.size ≤ B) : Tab w' := fun i hi => by
  have := h i hi
  rw [hb.cell (p := ⟨0, i, none⟩) (Nat.lt_of_lt_of_le (World.block_lt_of_cell? w _ this) hB)]
  exact this
theorem Tab.drewN {w : World} (h : Tab w) (q : Nat) : Tab (w.drewN q) := fun i hi => h i hi

theorem crc_fin (l : List UInt8) : Ending.returned (.int .u32 (bits .xor .u32 IntKind.u32.max ((crcS l : Nat) : Int))) = .returned (.int .u32 ((crcN l : Nat) : Int)) := by
  rw [show IntKind.u32.max = ((4294967295 : Nat) : Int) from rfl, u32_xor_nat _ _ (by decide) (crcS_lt l)]
  rfl

set_option maxHeartbeats 800000 in
theorem crc_any (x : Value) (l : List UInt8) (w : World) (hx : Rd w x l) (ht : Tab w) :
    Calls Tryd.prog 17 #[x] w fun e w' => e = .returned (.int .u32 ((crcN l : Nat) : Int)) ∧ w' = w := by
  have hlen := hx.lens
  obtain ⟨a, cap, rfl, hc1, hc2, hc3, hc4⟩ := hx
  have H4 := Lib.hid hc4
  clear hc4 hc3
  have HT := Lib.hid ht
  clear ht
  go_enter Tryd.func17, Tryd.ntmps17
  go_wp2_with fail
  go_loop [3, 8] (fun s i => ∃ k : Nat, k ≤ l.length ∧ i = .int .i64 k ∧ s = .int .u32 ((crcS (l.take k) : Nat) : Int)) (fun _ i => l.length - (intOf i).toNat)
  case atStart => exact ⟨0, Nat.zero_le _, rfl, rfl⟩
  case round =>
    obtain ⟨k, hk, rfl, rfl⟩ := hrel
    have hs := crcS_lt (l.take k)
    by_cases hlt : k < l.length
    · have hlt' : (k : Int) < (l.length : Int) := by omega
      obtain ⟨b, off, rfl, hcell⟩ := H4.out (by intro e; subst e; simp at hlt)
      have hc := hcell k hlt
      obtain ⟨c, hce⟩ : ∃ c, c = l[k] := ⟨_, rfl⟩
      rw [← hce] at hc
      unfold bv at hc
      have hts : crcS (l.take (k + 1)) = crcF (crcS (l.take k)) c := by rw [hce, List.take_succ_eq_append_getElem hlt, crcS_snoc]
      obtain ⟨s, hse⟩ : ∃ s, s = crcS (l.take k) := ⟨_, rfl⟩
      rw [← hse] at hts hs ⊢
      have HTS := Lib.hid hts
      have HSE := Lib.hid hse
      clear hts hse hcell hce
      have hc255 := c.toNat_lt
      have hs1 := xor_lt s c.toNat hs (by omega)
      have hs2 := crcG_lt _ hs1
      have f1 := crc_step1 s c hs
      have f2 := crc_and _ hs1
      have f3 := HT.out _ (and15_lt (s ^^^ c.toNat))
      have f4 := crc_step2 _ hs1
      have f5 := crc_and _ hs2
      have f6 := HT.out _ (and15_lt (crcG (s ^^^ c.toNat)))
      have f7 := crc_step2 _ hs2
      have f8 := and15_lt (s ^^^ c.toNat)
      have f9 := and15_lt (crcG (s ^^^ c.toNat))
      go_wp2_with fail
      go_round
      case rel => exact ⟨k + 1, by omega, by go_num, by rw [HTS.out]; rfl⟩
      case measure => simp [intOf]; omega
    · have hlt' : ¬ (k : Int) < (l.length : Int) := by omega
      obtain rfl : k = l.length := by omega
      rw [List.take_length] at hs ⊢
      go_wp2_with fail
      go_ret
      exact ⟨crc_fin l, rfl⟩
end Go.Proofs.YtfibplegbaanmaaDoor
