/-
  The contracts of what draws: spec.l6Open, (*l6Rd).pick, spec.l91Part, spec.l91Some.
-/
import Derived.Test.YtbmpchpcihnbdaaSpecType
namespace Go.Proofs.Ytbmpchpcihnbdaa
set_option linter.unusedSimpArgs false
set_option linter.unusedVariables false
set_option linter.unnecessarySimpa false
open Go.RowKit
set_option maxRecDepth 100000

theorem heap_setCell2 {W : World} {B : Nat} {u v : Value} {t : TypeId} (v' : Value) (h : W.heap[B]? = some (.cells #[u, v] t (0, 0))) : (W.setCell ⟨B, 1, none⟩ v').heap[B]? = some (.cells #[u, v'] t (0, 0)) := by
  obtain ⟨hlt, hk⟩ := Array.getElem?_eq_some_iff.1 h
  show (W.heap.modify B _)[B]? = _
  rw [Array.getElem?_eq_getElem (by rw [Array.size_modify]; exact hlt), Array.getElem_modify_self, hk]
  rfl

/-- At block g lies what draws: it reads the bytes 'bs', and stands at p. -/
def Rdr (w : World) (g : Nat) (bs : Value) (p : Nat) : Prop := w.heap[g]? = some (.cells #[bs, .int .i64 p] 95 (0, 0))

theorem rdr_facts {w : World} {g p : Nat} {bs : Value} (h : Rdr w g bs p) :
    g < w.heap.size ∧ w.cell? ⟨g, 0, none⟩ = some bs ∧ w.cell? ⟨g, 1, none⟩ = some (.int .i64 p) ∧ w.frozen? ⟨g, 1, none⟩ = false := by
  unfold Rdr at h
  refine ⟨(Array.getElem?_eq_some_iff.1 h).1, ?_, ?_, ?_⟩ <;> simp [World.cell?, World.frozen?, h]

/-- Each of the first 'len' bytes at the address can be read. -/
def Bytes (w : World) (a : Option Addr) (len : Nat) : Prop :=
  len = 0 ∨ ∃ b off, a = some ⟨b, off, none⟩ ∧ ∀ j, j < len → ∃ x : Nat, x ≤ 255 ∧ w.cell? ⟨b, off + j, none⟩ = some (.int .u8 x)

theorem bytes_below {w w' : World} {a : Option Addr} {len : Nat} (h : Bytes w a len) (hb : Below w.heap.size w w') : Bytes w' a len := by
  rcases h with h | ⟨b, off, ha, hc⟩
  · exact .inl h
  · refine .inr ⟨b, off, ha, fun j hj => ?_⟩
    obtain ⟨x, hx, hcx⟩ := hc j hj
    exact ⟨x, hx, by rw [hb.cell (World.block_lt_of_cell? w _ hcx)]; exact hcx⟩

theorem bytes_short {w : World} {a : Option Addr} {len m : Nat} (h : Bytes w a len) (hm : m ≤ len) : Bytes w a m := by
  rcases h with h | ⟨b, off, ha, hc⟩
  · exact .inl (by omega)
  · exact .inr ⟨b, off, ha, fun j hj => hc j (by omega)⟩

set_option maxHeartbeats 400000 in
theorem l6Open_any (a : Option Addr) (len cap : Nat) (w : World) (hby : Bytes w a len) (hlen : len ≤ 1048576) (hc : len ≤ cap) (hcm : cap ≤ maxLen) :
    Calls Try.prog 63 #[.slice a len cap] w fun e w' => e = .returned (.pointer (some ⟨w.heap.size, 0, none⟩)) ∧
      ∃ m, m ≤ 2000 ∧ Bytes w a m ∧ Rdr w' w.heap.size (.slice a m cap) 0 ∧ Below w.heap.size w w' ∧ w.heap.size < w'.heap.size := by
  have HB := Lib.hid hby
  clear hby
  by_cases hl : len > 2000
  · go_enter Try.func63, Try.ntmps63
    go_wp2
    go_ret
    refine ⟨rfl, 2000, Nat.le_refl _, bytes_short HB.out (by omega), ?_, (Below.refl _ _).alloc (Nat.le_refl _) _, by rw [World.size_alloc]; omega⟩
    unfold Rdr World.alloc
    exact Array.getElem?_push_size
  · go_enter Try.func63, Try.ntmps63
    go_wp2
    go_ret
    refine ⟨rfl, len, by omega, HB.out, ?_, (Below.refl _ _).alloc (Nat.le_refl _) _, by rw [World.size_alloc]; omega⟩
    unfold Rdr World.alloc
    exact Array.getElem?_push_size

theorem xor_small (a b : Nat) (ha : a < 2 ^ 32) (hb : b < 2 ^ 32) : bits .xor .i64 (a : Int) (b : Int) = ((a ^^^ b : Nat) : Int) := by
  have hx := Nat.xor_lt_two_pow ha hb
  have e : (2 : Nat) ^ 64 = 18446744073709551616 := by decide
  have e32 : (2 : Nat) ^ 32 = 4294967296 := by decide
  have ha' : a % 2 ^ IntKind.i64.bits = a := Nat.mod_eq_of_lt (show a < 2 ^ 64 by omega)
  have hb' : b % 2 ^ IntKind.i64.bits = b := Nat.mod_eq_of_lt (show b < 2 ^ 64 by omega)
  have : bits .xor .i64 (a : Int) (b : Int) = IntKind.i64.wrap ((a ^^^ b : Nat) : Int) := by
    simp only [bits, BitVec.ofInt_natCast, BitVec.toNat_xor, BitVec.toNat_ofNat, ha', hb']
  rw [this, IntKind.wrap_i64]
  omega

/-- What a byte behind the last one is mixed from. -/
def mixed (x y p d : Nat) : Nat := x * 131 + y * 1117 + p * 29 + d * 53

theorem mixed_at (x y p d n : Nat) (hx : x ≤ 255) (hy : y ≤ 255) (hp : p ≤ 1000000) (hd : d ≤ 1000000) :
    (bits BinOp.xor IntKind.i64 (↑x * 131 + ↑y * 1117 + ↑p * 29 + ↑d * 53) ((↑x * 131 + ↑y * 1117 + ↑p * 29 + ↑d * 53) / 64)).tmod (n : Int) = (((mixed x y p d ^^^ mixed x y p d / 64) % n : Nat) : Int) := by
  have hm : mixed x y p d < 2 ^ 32 := by unfold mixed; omega
  have e3 : (x : Int) * 131 + y * 1117 + p * 29 + d * 53 = ((mixed x y p d : Nat) : Int) := by
    unfold mixed
    omega
  rw [e3]
  generalize mixed x y p d = m at *
  have e4 : (m : Int) / 64 = ((m / 64 : Nat) : Int) := by omega
  rw [e4, xor_small m (m / 64) hm (by omega), Int.tmod_eq_emod_of_nonneg (by omega)]
  exact (Int.natCast_emod _ _).symm

/-- What a draw from 0 to n - 1 leaves. -/
def Picked (w : World) (g : Nat) (bs : Value) (p n : Nat) (e : Ending) (w' : World) : Prop :=
  ∃ r : Nat, e = .returned (.int .i64 r) ∧ r < n ∧ Rdr w' g bs (p + 1) ∧ w.grownBy w' (some g) ∧ w'.heap.size = w.heap.size

set_option maxHeartbeats 1000000 in
theorem pick_any (g : Nat) (a : Option Addr) (len cap p n : Nat) (w : World) (hr : Rdr w g (.slice a len cap) p) (hby : Bytes w a len) (hne : 0 < len → ∀ x, a = some x → x.block ≠ g) (hlen : len ≤ 2000) (hp : p ≤ 1000000) (hn : 1 ≤ n) (hn2 : n ≤ 100000) :
    Calls Try.prog 65 #[.pointer (some ⟨g, 0, none⟩), .int .i64 n] w (Picked w g (.slice a len cap) p n) := by
  obtain ⟨hg, hc0, hc1, hfz⟩ := rdr_facts hr
  have HS := Lib.hid (heap_setCell2 (.int .i64 ((p : Int) + 1)) hr)
  have hgr : w.grownBy (w.setCell ⟨g, 1, none⟩ (.int .i64 ((p : Int) + 1))) (some g) :=
    ⟨rfl, rfl, rfl, by simp [World.setCell], fun k _ hk => Below.heap_setCell w _ _ k fun e => hk (by rw [e])⟩
  have HG := Lib.hid hgr
  clear hgr hr
  have HB := Lib.hid hby
  clear hby
  by_cases h0 : len = 0
  · subst h0
    go_enter Try.func65, Try.ntmps65
    go_wp2
    go_ret
    exact ⟨0, rfl, by omega, by simpa [Rdr] using HS.out, HG.out, by simp [World.setCell]⟩
  · rcases HB.out with h | ⟨b, off, rfl, hcs⟩
    · exact absurd h h0
    have hbg : b ≠ g := hne (by omega) _ rfl
    have hgb : g ≠ b := fun e => hbg e.symm
    have hz : ((len : Int) == 0) = false := by simp; omega
    have hcs' : ∀ j, j < len → ∃ x : Nat, x ≤ 255 ∧ (w.setCell ⟨g, 1, none⟩ (.int .i64 ((p : Int) + 1))).cell? ⟨b, off + j, none⟩ = some (.int .u8 x) := fun j hj => by
      obtain ⟨x, hx, hc⟩ := hcs j hj
      exact ⟨x, hx, by rw [World.cell?_setCell_far _ _ _ _ hgb]; exact hc⟩
    by_cases hlt : p < len
    · obtain ⟨x, hx, hcx⟩ := hcs' p hlt
      clear hcs hcs'
      go_enter Try.func65, Try.ntmps65
      go_wp2
      go_ret
      refine ⟨x % n, ret_int (Int.natCast_emod x n).symm, Nat.mod_lt _ (by omega), by simpa [Rdr] using HS.out, HG.out, by simp [World.setCell]⟩
    · obtain ⟨q, hq⟩ : ∃ q, q = p % len := ⟨_, rfl⟩
      obtain ⟨q', hq'⟩ : ∃ q', q' = (p * 7 + 3) % len := ⟨_, rfl⟩
      obtain ⟨x, hx, hcx⟩ := hcs' q (by rw [hq]; exact Nat.mod_lt _ (by omega))
      obtain ⟨y, hy, hcy⟩ := hcs' q' (by rw [hq']; exact Nat.mod_lt _ (by omega))
      clear hcs hcs'
      have hqi : ((p : Int) % (len : Int)) = (q : Int) := by rw [hq]; exact (Int.natCast_emod p len).symm
      have hqi' : (((p : Int) * 7 + 3) % (len : Int)) = (q' : Int) := by rw [hq', Int.natCast_emod]; rfl
      have hql : q < len := by rw [hq]; exact Nat.mod_lt _ (by omega)
      have hql' : q' < len := by rw [hq']; exact Nat.mod_lt _ (by omega)
      clear hq hq'
      obtain ⟨d, hd⟩ : ∃ d, d = p / len := ⟨_, rfl⟩
      have hdi : ((p : Int) / (len : Int)) = (d : Int) := by rw [hd]; exact (Int.natCast_ediv p len).symm
      have hdl : d ≤ 1000000 := by rw [hd]; exact Nat.le_trans (Nat.div_le_self _ _) hp
      clear hd
      have hle : (len : Int) ≤ p := by omega
      go_enter Try.func65, Try.ntmps65
      go_wp2
      go_quiet (fail)
      go_wp2
      go_ret
      refine ⟨(mixed x y p d ^^^ mixed x y p d / 64) % n, ?_, Nat.mod_lt _ (by omega), by simpa [Rdr, World.drewN, World.setCell] using HS.out, ?_, by simp [World.setCell]⟩
      · exact ret_int (mixed_at x y p d n hx hy hp hdl)
      · exact grown_trans HG.out (below_drewN (Below.refl _ _) nq |> grown_of_below |> fun h => ⟨h.os, h.tape, h.output, h.size, fun k hk _ => h.block k hk (by simp)⟩)

end Go.Proofs.Ytbmpchpcihnbdaa
