/-
  Lists of bytes: made, filled, as strings. It speaks of no layer.
-/
import Derived.Test.YthjpgpelbagceaaG1
import Derived.Laws.BytesArg
set_option linter.all false
namespace Go.Proofs.Ythjpgpelbagceaa
open Go.RowKit

/-- Lists of bytes. -/
def u8s (zs : List Int) : List Value := zs.map (Value.int .u8)
theorem u8s_len (zs : List Int) : (u8s zs).length = zs.length := by simp [u8s]
theorem infoU8 : (Try.prog.info? 5).map (fun i => (i.zero, i.size, i.bytes)) = some (some (.int .u8 0), 1, 1) := by kernel_rfl
theorem sizeU8 : (Try.prog.info? 5).map (·.size) = some 1 := by kernel_rfl
theorem run_make_u8 {P : Program} (t e : TypeId) (i : TypeInfo) (ht : P.underlying t = some (.slice e)) (hi : P.info? e = some i) (hz : i.zero = some (.int .u8 0)) (hs : i.size = 1) (hb : i.bytes = 1) (n : Nat) (hn : n ≤ 1000000) (w : World) :
    (Instr.makeSlice t (.int .i64 (n : Int)) (.int .i64 (n : Int))).run P w = .ok (.slice (some ⟨w.heap.size, 0, none⟩) n n) (w.alloc (.cells (u8s (List.replicate n 0)).toArray e)) := by
  have hr := run_make (P := P) w t e i (.int .u8 0) ht hi hz .i64 .i64 n n (by omega) (by omega) (by rw [hb]; omega) (by omega)
  simp only [Int.toNat_natCast] at hr
  rw [hr, hs]
  have e1 : madeCells (Value.int .u8 0).cells (n * 1) = (u8s (List.replicate n 0)).toArray := by
    apply Array.ext'
    rw [show (Value.int .u8 0).cells = #[.int .u8 0] from rfl, toList_madeCells_one]
    simp [u8s]
  rw [e1]
def OwnU (W : World) (base : Nat) (v : Value) (zs : List Int) : Prop := W.ownsRow base 5 1 v zs.length (u8s zs)
/-- The list while it is filled. -/
def fillL (zs : List Int) (k : Nat) : List Int := zs.take k ++ List.replicate (zs.length - k) 0
theorem fillL_len (zs : List Int) {k : Nat} (hk : k ≤ zs.length) : (fillL zs k).length = zs.length := by simp [fillL]; omega
theorem fillL_zero (zs : List Int) : fillL zs 0 = List.replicate zs.length 0 := by simp [fillL]
theorem fillL_all (zs : List Int) : fillL zs zs.length = zs := by simp [fillL]
theorem fillL_set (zs : List Int) {k : Nat} (hk : k < zs.length) : (fillL zs k).set k zs[k] = fillL zs (k + 1) := by
  unfold fillL
  have e1 : (zs.take k).length = k := by simp; omega
  obtain ⟨m, hm⟩ : ∃ m, zs.length - k = m + 1 := ⟨zs.length - k - 1, by omega⟩
  rw [List.set_append_right _ _ (by omega), e1, Nat.sub_self, hm, List.replicate_succ, List.set_cons_zero, show zs.length - (k + 1) = m by omega, List.take_add_one, List.getElem?_eq_getElem hk]
  simp only [Option.toList_some, List.append_assoc, List.singleton_append]
theorem u8s_set (zs : List Int) (k : Nat) (z : Int) : (u8s zs).set k (.int .u8 z) = u8s (zs.set k z) := by simp [u8s, List.map_set]
/-- A list of bytes, as a string. -/
theorem conv_u8 {W : World} {B c : Nat} {A : Option Addr} {zs : List Int} (h : OwnU W B (.slice A zs.length c) zs) : (convert 52 9 (.slice A zs.length c)).run Try.prog W = .ok (.string (strOfNums zs)) W := by
  cases zs with
  | nil =>
    rcases h.2 with ⟨e, _⟩ | ⟨g, cap, cur, hv, _⟩
    · rw [e]
      exact run_convert_bytes_nil W 52 5 Try.underlying52 Try.underlying5 0 0 9 Try.underlying9
    · rw [hv]
      exact run_convert_bytes_arg W 52 5 Try.underlying52 Try.underlying5 g 0 0 cap [] rfl (fun i hi => by omega) 9 Try.underlying9
  | cons z zs =>
    obtain ⟨b, off, rfl, hb, hc⟩ := Vals.own h (by simp [u8s])
    exact run_convert_bytes_arg W 52 5 Try.underlying52 Try.underlying5 b off _ c (z :: zs) rfl (fun i hi => hc i _ (by
      rw [u8s, List.getElem?_map, List.getElem?_eq_getElem hi]
      simp [List.getD, List.getElem?_eq_getElem hi])) 9 Try.underlying9

end Go.Proofs.Ythjpgpelbagceaa
