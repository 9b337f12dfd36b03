/- The texts of a rope's nodes, joined, as both sides do. -/
import Derived.Test.YtaipnmmlfbfcnaaDoorRpfP
import Derived.Test.YtaipnmmlfbfcnaaDoorWriB
import Derived.Laws.OwnMore
import Derived.Lib.AppendStr
import Derived.Laws.IdiomStrings
import Derived.Deep.CutBlock
namespace Go.Proofs.YtaipnmmlfbfcnaaDoor.Rop
open Go.RowKit Rwc
set_option linter.unusedVariables false
theorem catK_end (L : List Nd) : catK L L.length = cat L := rfl
/-- A row of nodes that is read while things are laid behind it. -/
theorem nd_rd {B : Nat} {w W : World} {v : Value} {L : List Nd} (h : nd_At B w v L) (hb : Below w.heap.size w W) {k : Nat} (hk : k < L.length) : ∃ b off cap, v = .slice (some ⟨b, off, none⟩) L.length cap ∧ b < w.heap.size ∧ ∀ i, i < L.length → nd_C W b (off + i * 5) (nd_g L i) := by
  obtain ⟨a, cap, rfl, h⟩ := h
  rcases h with rfl | ⟨b, off, rfl, hB, hbs, hc⟩
  · simp at hk
  · exact ⟨b, off, cap, rfl, hbs, fun i hi => nd_C_block (hc i hi) (hb.block b hbs)⟩
theorem five_cellsR {w : World} {g : Nat} {a b c d e : Value} {T : TypeId} (h : w.heap[g]? = some (.cells #[a, b, c, d, e] T (0, 0))) : w.cell? ⟨g, 0, none⟩ = some a ∧ w.cell? ⟨g, 1, none⟩ = some b ∧ w.cell? ⟨g, 2, none⟩ = some c ∧ w.cell? ⟨g, 3, none⟩ = some d ∧ w.cell? ⟨g, 4, none⟩ = some e := by
  simp [World.cell?, h]
set_option maxRecDepth 100000 in
set_option maxHeartbeats 4000000 in
theorem joinI (v : Value) (L : List Nd) (B : Nat) (w : World) (hv : nd_At B w v L) (hl : L.length ≤ 1048576) (hs : ∀ i, i < L.length → (nd_g L i).text.size ≤ 1048576) :
    Calls Tryd.prog 43 #[v] w fun e w' => e = .returned (.tuple #[.string (if (cat L).size ≤ 65536 then cat L else ⟨#[]⟩), .bool (decide ((cat L).size ≤ 65536))]) ∧ Below w.heap.size w w' := by
  have HV := hide hv
  have HS := hide hs
  obtain ⟨a, cap, rfl⟩ := nd_form hv
  clear hv hs
  have HE := hide (catK_end L)
  have HM := hide (fun i h => catK_mono L i L.length h)
  have HB0 := hide ((Below.refl w.heap.size w).alloc (Nat.le_refl _) (.cells #[.pointer none, .slice none 0 0] 96))
  have HA0 : Hid (Bld.At w.heap.size w.heap.size (catK L 0) (w.alloc (.cells #[.pointer none, .slice none 0 0] 96))) := hide (Bld.At.new w)
  generalize hC : cat L = C at *
  clear hC
  have HY : Hid (C.size ≤ 65536 → (if C.size ≤ 65536 then C else (⟨#[]⟩ : ByteArray)) = C ∧ decide (C.size ≤ 65536) = true) := hide (fun h => ⟨if_pos h, decide_eq_true h⟩)
  have HN : Hid (¬ C.size ≤ 65536 → (if C.size ≤ 65536 then C else (⟨#[]⟩ : ByteArray)) = ⟨#[]⟩ ∧ decide (C.size ≤ 65536) = false) := hide (fun h => ⟨if_neg h, decide_eq_false h⟩)
  generalize (if C.size ≤ 65536 then C else (⟨#[]⟩ : ByteArray)) = RA at *
  generalize decide (C.size ≤ 65536) = RD at *
  go_enter Tryd.func43, Tryd.ntmps43
  go_upto_block 0 with fail
  generalize w.alloc (.cells #[.pointer none, .slice none 0 0] 96) = w1 at *
  go_wp2
  go_loopw [6, 9] (fun bv iv wr => ∃ i : Nat, i ≤ L.length ∧ iv = .int .i64 (i : Int) ∧ (catK L i).size ≤ 65536 ∧ Hid (Bld.At w.heap.size w.heap.size (catK L i) wr) ∧ Hid (Below w.heap.size w wr)) (fun _ iv _ => (L.length - intOf iv).toNat)
  case atStart => exact ⟨0, by omega, rfl, by show (0 : Nat) ≤ 65536; omega, HA0, HB0⟩
  case round =>
    obtain ⟨i, hi, rfl, hfit, HA, HB⟩ := hrel
    by_cases hlt : i < L.length
    · obtain ⟨b, off, cp, he, hbw, hcs⟩ := nd_rd (unhide HV) (unhide HB) hlt
      injection he with he1 _ he2
      subst he1 he2
      have hlt' : (i : Int) < (L.length : Int) := by omega
      have h0i : (0 : Int) ≤ (i : Int) := by omega
      obtain ⟨d0, d1, d2, d3, d4⟩ := hcs i hlt
      have hsz := (unhide HS) i hlt
      have hst := catK_size L i
      have hst2 : catK L (i + 1) = catK L i ++ (nd_g L i).text := rfl
      have hmo := (unhide HM) (i + 1) (by omega)
      clear hcs
      generalize nd_g L i = x at *
      obtain ⟨tx, xa, xb, xc, xd⟩ := x
      simp only at d0 d1 d2 d3 d4 hsz hst hst2
      have HE2 : Hid (catK L (i + 1) = catK L i ++ tx) := hide hst2
      clear hst2
      rw [unhide HE] at hmo
      generalize catK L i = P at *
      have hbs := (unhide HB).size
      go_upto_region 5 with fail
      have hnew := heap_new wr (.cells #[.string tx, .int .i64 xa, .int .i64 xb, .int .i64 xc, .int .i64 xd] 45)
      have hba := (Below.refl wr.heap.size wr).alloc (Nat.le_refl _) (.cells #[.string tx, .int .i64 xa, .int .i64 xb, .int .i64 xc, .int .i64 xd] 45)
      have HB3 := hide ((unhide HB).trans (hba.mono hbs))
      have HA3 := hide ((unhide HA).below hba)
      generalize wr.alloc (.cells #[.string tx, .int .i64 xa, .int .i64 xb, .int .i64 xc, .int .i64 xd] 45) = w3 at *
      generalize wr.heap.size = g at *
      obtain ⟨y0, y1, y2, y3, y4⟩ := five_cellsR hnew
      have hg3 : g < w3.heap.size := (Array.getElem?_eq_some_iff.1 hnew).1
      clear hnew d0 d1 d2 d3 d4 hba HA HB
      have CL := hide (fun W (h : Bld.At w.heap.size w.heap.size P W) => Bld.len_any w.heap.size w.heap.size P W h)
      by_cases hbig : 65536 < (catK L (i + 1)).size
      · have hbi : (65536 : Int) < (P.size : Int) + (tx.size : Int) := by omega
        have hno : ¬ C.size ≤ 65536 := by omega
        obtain ⟨e1, e2⟩ := (unhide HN) hno
        have E1 := hide e1
        have E2 := hide e2
        clear hst hmo hbig hno e1 e2
        go_quiet (first | (go_at_call 57; refine Calls.quiet_of_same ((unhide CL) _ (unhide HA3))))
        go_wp2
        go_ret2
        exact ⟨by rw [unhide E1, unhide E2]; rfl, bdrew (unhide HB3) _⟩
      · have hbi : ¬ (65536 : Int) < (P.size : Int) + (tx.size : Int) := by omega
        have hfit2 : (catK L (i + 1)).size ≤ 65536 := by omega
        have CW := hide (fun W (h : Bld.At w.heap.size w.heap.size P W) (hz : w.heap.size ≤ W.heap.size) => Bld.write_any w.heap.size w.heap.size P tx W h (by omega) hz)
        have hsz3 := (unhide HB3).size
        clear hst hmo hbig
        go_quiet (first | (go_at_call 57; refine Calls.quiet_of_same ((unhide CL) _ (unhide HA3))))
        have HA4 : Hid (Bld.At w.heap.size w.heap.size P (w3.drewN nq)) := HA3
        have HB4 := hide (bdrew (unhide HB3) nq)
        have z0 : (w3.drewN nq).cell? ⟨g, 0, none⟩ = some (.string tx) := y0
        have hz4 : w.heap.size ≤ (w3.drewN nq).heap.size := hsz3
        generalize w3.drewN nq = w4 at *
        go_wp2_with (go_at_call 58; refine ((unhide CW) _ (unhide HA4) hz4).mono ?_; rintro e w5 ⟨rfl, ha5, hb5⟩; have HA5 := hide ha5; have HB5 := hide ((unhide HB4).trans hb5); clear ha5 hb5)
        go_roundw
        case rel => exact ⟨i + 1, by omega, by go_num, hfit2, by rw [unhide HE2]; exact HA5, HB5⟩
        case measure => simp [intOf]; omega
    · obtain rfl : i = L.length := by omega
      rw [unhide HE] at hfit HA
      obtain ⟨e1, e2⟩ := (unhide HY) hfit
      have E1 := hide e1
      have E2 := hide e2
      clear e1 e2
      have CS := hide (Bld.string_any w.heap.size w.heap.size C wr (unhide HA) (unhide HB).size)
      have hbs := (unhide HB).size
      go_wp2_with (go_at_call 59; refine (unhide CS).mono ?_; rintro e w5 ⟨rfl, hb5⟩; have HB5 := hide ((unhide HB).trans hb5); clear hb5)
      go_ret2
      exact ⟨by rw [unhide E1, unhide E2]; rfl, unhide HB5⟩
theorem strCells_len (s : ByteArray) : (Lib.strCells s).length = s.size := Lib.strCells_length s
theorem back_any (B : Nat) (v : Value) (s : ByteArray) (w : World) (h : w.ownsRow B 5 1 v s.size (Lib.strCells s)) : (convert 69 9 v).run Tryd.prog w = .ok (.string s) w := by
  rcases h.2 with ⟨rfl, h0⟩ | ⟨g, cap, cur, rfl, _, hg, _, _, _, htk⟩
  · obtain rfl := ByteArray.size_eq_zero_iff.1 h0
    exact run_convert_bytes_nil w 69 5 Tryd.underlying69 Tryd.underlying5 0 0 9 Tryd.underlying9
  · have hl : s.data.toList.length = s.size := by rw [Array.length_toList]; rfl
    have := run_convert_bytes_back (P := Tryd.prog) w 69 9 5 ⟨g, 0, none⟩ cap s.data.toList Tryd.underlying69 Tryd.underlying5 Tryd.underlying9 (fun j hj => by
      rw [Addr.add_lit, Nat.zero_add, World.cell?]
      simp only [hg]
      have e : (cur.toList.take (s.size * 1))[j]? = (Lib.strCells s)[j]? := by rw [htk]
      rw [Nat.mul_one, List.getElem?_take, if_pos (by omega)] at e
      simp only [Array.getElem?_toList] at e
      rw [e, Lib.strCells_eq]
      simp [Lib.byteCells]
      exact ⟨s.data[j]'(by simpa using hj), Array.getElem?_eq_getElem _, rfl⟩)
    rw [hl] at this
    exact this
theorem cat_cells (s t : ByteArray) : Lib.strCells (s ++ t) = Lib.strCells s ++ Lib.strCells t := by
  rw [Lib.strCells_eq, Lib.strCells_eq, Lib.strCells_eq]
  simp [Lib.byteCells, ByteArray.data_append]
theorem info5 : (Tryd.prog.info? 5).map (fun i => (i.zero, i.size, i.bytes)) = some (some (.int .u8 0), 1, 1) := by kernel_rfl
/-- Bytes of a text in a row of the call's own. -/
def Tb (B : Nat) (w : World) (v : Value) (s : ByteArray) : Prop := w.ownsRow B 5 1 v s.size (Lib.strCells s)
theorem Tb.form {B : Nat} {w : World} {v : Value} {s : ByteArray} (h : Tb B w v s) : ∃ a c, v = .slice a s.size c := by
  rcases h.2 with ⟨rfl, h0⟩ | ⟨g, cap, cur, rfl, _⟩
  · rw [h0]; exact ⟨_, _, rfl⟩
  · exact ⟨_, _, rfl⟩
theorem Tb.new (w : World) : Tb w.heap.size (w.alloc (.cells #[] 5)) (.slice (some ⟨w.heap.size, 0, none⟩) 0 0) ⟨#[]⟩ :=
  World.ownsRow_lit w #[] 0 (Nat.le_refl _) (by unfold maxLen; omega) rfl
set_option maxRecDepth 100000 in
set_option maxHeartbeats 4000000 in
theorem textS (v : Value) (L : List Nd) (B : Nat) (w : World) (hv : nd_At B w v L) (hl : L.length ≤ 1048576) (hc : (cat L).size ≤ 4194304) :
    Calls Tryd.prog 23 #[v] w fun e w' => e = .returned (.string (cat L)) ∧ Below w.heap.size w w' := by
  obtain ⟨i0, hi, hz0, hz1, hz2⟩ := info_parts info5
  have HV := hide hv
  obtain ⟨a, cap, rfl⟩ := nd_form hv
  clear hv
  have HE := hide (catK_end L)
  have HM : Hid (∀ i, i ≤ L.length → (catK L i).size ≤ 4194304) := hide (fun i h => Nat.le_trans (catK_mono L i L.length h) hc)
  have HB0 := hide ((Below.refl w.heap.size w).alloc (Nat.le_refl _) (.cells #[] 5))
  have HA0 : Hid (Tb w.heap.size (w.alloc (.cells #[] 5)) (.slice (some ⟨w.heap.size, 0, none⟩) 0 0) (catK L 0)) := hide (Tb.new w)
  generalize hC : cat L = C at *
  clear hC
  go_enter Tryd.func23, Tryd.ntmps23
  go_upto_block 0 with fail
  generalize w.alloc (.cells #[] 5) = w1 at *
  go_wp2
  go_loopw [3, 4] (fun vx iv wr => ∃ (i : Nat) (vv : Value), i ≤ L.length ∧ vv = vx ∧ iv = .int .i64 (i : Int) ∧ Hid (Tb w.heap.size wr vv (catK L i)) ∧ Hid (Below w.heap.size w wr)) (fun _ iv _ => (L.length - intOf iv).toNat)
  case atStart => exact ⟨0, _, by omega, rfl, rfl, HA0, HB0⟩
  case round =>
    obtain ⟨i, vv, hi2, rfl, rfl, HA, HB⟩ := hrel
    have hbs := (unhide HB).size
    by_cases hlt : i < L.length
    · obtain ⟨b, off, cp, he, hbw, hcs⟩ := nd_rd (unhide HV) (unhide HB) hlt
      injection he with he1 _ he2
      subst he1 he2
      have hlt' : (i : Int) < (L.length : Int) := by omega
      have h0i : (0 : Int) ≤ (i : Int) := by omega
      obtain ⟨d0, d1, d2, d3, d4⟩ := hcs i hlt
      have hst := catK_size L i
      have hmo := (unhide HM) (i + 1) (by omega)
      have HE2 : Hid (catK L (i + 1) = catK L i ++ (nd_g L i).text) := hide rfl
      clear hcs d1 d2 d3 d4
      generalize (nd_g L i).text = tx at *
      generalize catK L i = P at *
      obtain ⟨va, vc, rfl⟩ := (unhide HA).form
      have hp : P.size + tx.size ≤ 4194304 := by omega
      have hown : wr.ownsRow w.heap.size 5 1 (.slice va P.size vc) P.size (Lib.strCells P) := unhide HA
      have HO := hide hown
      clear hown hst hmo
      go_wp2_with (at_builtin; refine Lib.wpList_append_own_string _ rfl _ _ 69 9 rfl w.heap.size 5 i0 Tryd.underlying69 Tryd.underlying9 hi hz0 hz1 hz2 _ _ _ rfl (unhide HO) tx rfl (by unfold maxLen; omega) (by omega) hbs ?_)
      intro v' w2 hown' hgrow _
      have HA2 : Hid (Tb w.heap.size w2 v' (catK L (i + 1))) := hide (by unfold Tb; rw [unhide HE2, ByteArray.size_append, cat_cells]; exact hown')
      have HB2 := hide ((unhide HB).grown hgrow hbs (fun k hk => ((unhide HO).lt k hk).1))
      clear hown' hgrow
      go_wp2
      go_roundw
      case rel => exact ⟨i + 1, _, by omega, rfl, by go_num, HA2, HB2⟩
      case measure => simp [intOf]; omega
    · obtain rfl : i = L.length := by omega
      rw [unhide HE] at HA
      have hcv := back_any w.heap.size vv C wr (unhide HA)
      obtain ⟨va, vc, rfl⟩ := (unhide HA).form
      go_wp2
      go_ret
      exact ⟨rfl, unhide HB⟩
end Go.Proofs.YtaipnmmlfbfcnaaDoor.Rop
