/- The specification's encoding of points, and of a text. -/
import Derived.Test.YtiianallpmfcbaaDoorUnits
import Derived.Test.YtiianallpmfcbaaDoorPointsC
namespace Go.Proofs.YtiianallpmfcbaaDoor
open Go.RowKit
theorem dec_pt (size pos b0 b1 b2 b3 : Nat) (hb : b0 < 256) : isPt ((dec size pos b0 b1 b2 b3).1 : Int) = true := by
  rw [isPt_iff]
  unfold dec
  repeat' split
  all_goals simp only []
  all_goals omega
theorem dP_pt (s : ByteArray) (pos : Nat) : isPt (dP s pos : Int) = true := by
  unfold dP; rw [decode_dec]; exact dec_pt _ _ _ _ _ _ (bt_lt _ _)
theorem steps_pt (s : ByteArray) (n : Nat) : ∀ x ∈ (steps s n).1, isPt x = true := by
  induction n with
  | zero => simp [steps]
  | succ n ih =>
    unfold steps
    split
    · intro x hx
      simp only [List.mem_append, List.mem_singleton] at hx
      rcases hx with hx | hx
      · exact ih x hx
      · rw [hx]; exact dP_pt _ _
    · exact ih
theorem pts_pt (s : ByteArray) : ∀ x ∈ pts s, isPt x = true := steps_pt s s.size
/-- A point's bytes in a form. -/
def encP (f : Int) (p : Int) : List Int :=
  if f = 1 then Lib.encodeRuneZ p
  else if 4 ≤ f then unitL 4 (decide (f = 5)) p
  else if p < 65536 then unitL 2 (decide (f = 3)) p
  else unitL 2 (decide (f = 3)) (55296 + (p - 65536) / 1024) ++ unitL 2 (decide (f = 3)) (56320 + (p - 65536) % 1024)
def encL (f : Int) (l : List Int) : List Int := l.flatMap (encP f)
theorem unitL_len (S : Nat) (b : Bool) (n : Int) : (unitL S b n).length = S := unitK_len _ _ _ _
theorem encP_len (f p : Int) : 1 ≤ (encP f p).length ∧ (encP f p).length ≤ 4 := by
  unfold encP
  split
  · exact Lib.encodeRuneZ_length p
  split
  · rw [unitL_len]; omega
  split
  · rw [unitL_len]; omega
  · rw [List.length_append, unitL_len, unitL_len]; omega
theorem byteAt_bd (n : Int) (i : Nat) : 0 ≤ byteAt n i ∧ byteAt n i < 256 := by unfold byteAt; omega
theorem unitL_byte (S : Nat) (b : Bool) (n : Int) : ∀ x ∈ unitL S b n, 0 ≤ x ∧ x < 256 := by
  intro x hx
  unfold unitL unitK at hx
  rw [List.mem_map] at hx
  obtain ⟨j, _, rfl⟩ := hx
  split <;> split <;> first | exact byteAt_bd _ _ | omega
theorem encP_byte (f p : Int) : ∀ x ∈ encP f p, 0 ≤ x ∧ x < 256 := by
  unfold encP
  split
  · exact Lib.encodeRuneZ_byte p
  split
  · exact unitL_byte _ _ _
  split
  · exact unitL_byte _ _ _
  · intro x hx
    rw [List.mem_append] at hx
    rcases hx with hx | hx
    · exact unitL_byte _ _ _ x hx
    · exact unitL_byte _ _ _ x hx
theorem encL_snoc (f : Int) (l : List Int) (k : Nat) (h : k < l.length) : encL f (l.take (k + 1)) = encL f (l.take k) ++ encP f (nth l k) := by
  have e : nth l k = l[k] := by simp [nth, List.getD, h]
  rw [List.take_succ_eq_append_getElem h, e]
  unfold encL
  rw [List.flatMap_append, List.flatMap_singleton]
theorem encL_le (f : Int) (l : List Int) : (encL f l).length ≤ 4 * l.length := by
  induction l with
  | nil => simp [encL]
  | cons a t ih =>
    have h1 := (encP_len f a).2
    have h2 : encL f (a :: t) = encP f a ++ encL f t := by simp [encL]
    rw [h2, List.length_append, List.length_cons]
    omega
theorem encL_take (f : Int) (l : List Int) (k : Nat) : (encL f (l.take k)).length ≤ 4 * k := by
  have h1 := encL_le f (l.take k)
  have h2 : (l.take k).length ≤ k := List.length_take_le _ _
  omega
theorem row_cells {w : World} {base g n c : Nat} {xs : List Value} (h : w.ownsRow base 5 1 (.slice (some ⟨g, 0, none⟩) n c) n xs) : ∀ j u, xs[j]? = some u → w.cell? ((⟨g, 0, none⟩ : Addr).add j) = some u := by
  intro j u hj
  have hl : j < xs.length := (List.getElem?_eq_some_iff.1 hj).1
  have hn : xs.length = n * 1 := h.1
  have hc := h.cellAt j (by omega)
  rw [hj] at hc
  rw [← hc]
  by_cases e : j = 0
  · subst e; simp [Addr.add]
  · simp [Addr.add, e]
theorem one_cell (l : List Int) : ∀ u ∈ l.map (Value.int .u8), u.oneCell' = true := by
  intro u hu
  rw [List.mem_map] at hu
  obtain ⟨x, _, rfl⟩ := hu
  rfl
/-- Bytes of a call are laid behind those that are there. -/
theorem bytes_step {w wr w2 w3 : World} {s v' : Value} {L M : List Int} (hb : Below w.heap.size w wr) (hb2 : Below wr.heap.size wr w2)
    (ho2 : w2.ownsRow w.heap.size 5 1 s L.length (L.map (Value.int .u8)))
    (ho3 : w3.ownsRow w.heap.size 5 1 v' (L.length + M.length) (L.map (Value.int .u8) ++ M.map (Value.int .u8)))
    (hg : w2.grownBy w3 s.ownBlock) : w3.ownsRow w.heap.size 5 1 v' (L ++ M).length ((L ++ M).map (Value.int .u8)) ∧ Below w.heap.size w w3 := by
  constructor
  · rw [List.length_append, List.map_append]; exact ho3
  · exact (hb.trans (hb2.mono hb.size)).grown hg (Nat.le_trans hb.size hb2.size) (fun j hj => (ho2.lt j hj).1)
theorem nth_pt {l : List Int} (h : ∀ x ∈ l, isPt x = true) (k : Nat) (hk : k < l.length) : 0 ≤ nth l k ∧ nth l k ≤ 1114111 := by
  have e : nth l k = l[k] := by simp [nth, List.getD, hk]
  have := (isPt_iff _).1 (h _ (List.getElem_mem hk))
  rw [e]; omega
set_option maxHeartbeats 1000000 in
theorem encode1_nil (a : Option Addr) (cap : Nat) (l : List Int) (w : World) (h0 : l.length = 0) :
    Calls Tryd.prog 17 #[.int .i64 1, .slice a l.length cap] w fun e w' => e = .returned (.string (strOfNums (encL 1 l))) ∧ Below w.heap.size w w' := by
  obtain ⟨i0, hi, hz0, hz1, hz2⟩ := info_parts info5
  have H0 := hide h0
  clear h0
  have hl : l.length ≤ 65536 := by rw [unhide H0]; omega
  have HO0 : Hid ((w.alloc (.cells #[] 5)).ownsRow w.heap.size 5 1 (.slice (some ⟨w.heap.size, 0, none⟩) 0 0) (encL 1 (l.take 0)).length ((encL 1 (l.take 0)).map (Value.int .u8))) := hide (World.ownsRow_lit w #[] 0 (Nat.le_refl _) (by unfold maxLen; omega) rfl)
  have HB0 : Hid (Below w.heap.size w (w.alloc (.cells #[] 5))) := hide ((Below.refl _ _).alloc (Nat.le_refl _) _)
  go_enter Tryd.func17, Tryd.ntmps17
  go_wp2
  go_loopw [5, 7] (fun s i wr => ∃ k : Nat, k ≤ l.length ∧ i = .int .i64 k ∧ Hid (wr.ownsRow w.heap.size 5 1 s (encL 1 (l.take k)).length ((encL 1 (l.take k)).map (Value.int .u8))) ∧ Hid (Below w.heap.size w wr)) (fun _ i _ => l.length - (intOf i).toNat)
  case atStart => exact ⟨0, Nat.zero_le _, rfl, HO0, HB0⟩
  case round =>
    obtain ⟨k, hk, rfl, HO, HB⟩ := hrel
    clear HO0 HB0
    by_cases hlt : k < l.length
    · have := unhide H0; omega
    · obtain rfl : k = l.length := by omega
      have hcv := conv_owned wr _ _ _ _ (unhide HO)
      rw [List.take_length] at hcv
      go_wp2
      go_ret
      exact ⟨rfl, unhide HB⟩
set_option maxHeartbeats 2000000 in
theorem encode1_at (b off cap : Nat) (l : List Int) (w : World) (hbs : b < w.heap.size) (hc : ∀ i, i < l.length → w.cell? ⟨b, off + i, none⟩ = some (.int .i64 (nth l i))) (hl : l.length ≤ 65536) (hp : ∀ x ∈ l, isPt x = true) :
    Calls Tryd.prog 17 #[.int .i64 1, .slice (some ⟨b, off, none⟩) l.length cap] w fun e w' => e = .returned (.string (strOfNums (encL 1 l))) ∧ Below w.heap.size w w' := by
  obtain ⟨i0, hi, hz0, hz1, hz2⟩ := info_parts info5
  have HC := hide hc
  have HP := hide hp
  clear hc hp
  have HO0 : Hid ((w.alloc (.cells #[] 5)).ownsRow w.heap.size 5 1 (.slice (some ⟨w.heap.size, 0, none⟩) 0 0) (encL 1 (l.take 0)).length ((encL 1 (l.take 0)).map (Value.int .u8))) := hide (World.ownsRow_lit w #[] 0 (Nat.le_refl _) (by unfold maxLen; omega) rfl)
  have HB0 : Hid (Below w.heap.size w (w.alloc (.cells #[] 5))) := hide ((Below.refl _ _).alloc (Nat.le_refl _) _)
  go_enter Tryd.func17, Tryd.ntmps17
  go_wp2
  go_loopw [5, 7] (fun s i wr => ∃ k : Nat, k ≤ l.length ∧ i = .int .i64 k ∧ Hid (wr.ownsRow w.heap.size 5 1 s (encL 1 (l.take k)).length ((encL 1 (l.take k)).map (Value.int .u8))) ∧ Hid (Below w.heap.size w wr)) (fun _ i _ => l.length - (intOf i).toNat)
  case atStart => exact ⟨0, Nat.zero_le _, rfl, HO0, HB0⟩
  case round =>
    obtain ⟨k, hk, rfl, HO, HB⟩ := hrel
    clear HO0 HB0
    by_cases hlt : k < l.length
    · have c1 := ((unhide HB).cell (p := ⟨b, off + k, none⟩) hbs).trans ((unhide HC) k hlt)
      have hle := encL_take 1 l k
      have hbse := (unhide HB).size
      have hpt := nth_pt (unhide HP) k hlt
      have hp0 := hpt.1
      have hp1 := hpt.2
      have HE := hide (encL_snoc 1 l k hlt)
      clear hpt
      generalize nth l k = p at *
      generalize encL 1 (l.take k) = L at *
      have hel := (Lib.encodeRuneZ_length p).2
      have hsz : (strOfNums (Lib.encodeRuneZ p)).size ≤ 4 := by rw [strOfNums_size]; exact hel
      go_wp2_with (first | (go_at_call 29; refine (write_any p _).mono ?_; rintro e w2 ⟨rfl, hb2⟩; have HB2 := hide hb2; have hb2s := hb2.size; clear hb2; have HO2 := hide (ownsRow_below (unhide HO) (unhide HB2))) | (at_builtin; refine Lib.wpList_append_own_string _ rfl _ _ 22 9 rfl w.heap.size 5 i0 Tryd.underlying22 Tryd.underlying9 hi hz0 hz1 hz2 _ _ _ rfl (unhide HO2) _ rfl ?c1 ?c2 ?c3 ?_))
      case c1 => unfold maxLen; omega
      case c2 => omega
      case c3 => omega
      intro v' w3 hown' hgrow _
      rw [strCells_nums _ (Lib.encodeRuneZ_byte _), strOfNums_size] at hown'
      have R := hide (bytes_step (unhide HB) (unhide HB2) (unhide HO2) hown' hgrow)
      have HE' : Hid (encL 1 (l.take (k + 1)) = L ++ Lib.encodeRuneZ p) := hide (unhide HE)
      clear hown' hgrow
      go_wp2
      go_roundw
      case rel => exact ⟨k + 1, by omega, by go_num, hide (by rw [unhide HE']; exact (unhide R).1), hide (unhide R).2⟩
      case measure => simp [intOf]; omega
    · obtain rfl : k = l.length := by omega
      have hcv := conv_owned wr _ _ _ _ (unhide HO)
      rw [List.take_length] at hcv
      go_wp2
      go_ret
      exact ⟨rfl, unhide HB⟩
set_option maxHeartbeats 1000000 in
theorem encode2_nil (a : Option Addr) (cap : Nat) (l : List Int) (w : World) (h0 : l.length = 0) :
    Calls Tryd.prog 17 #[.int .i64 2, .slice a l.length cap] w fun e w' => e = .returned (.string (strOfNums (encL 2 l))) ∧ Below w.heap.size w w' := by
  obtain ⟨i0, hi, hz0, hz1, hz2⟩ := info_parts info5
  have H0 := hide h0
  clear h0
  have hl : l.length ≤ 65536 := by rw [unhide H0]; omega
  have HO0 : Hid ((w.alloc (.cells #[] 5)).ownsRow w.heap.size 5 1 (.slice (some ⟨w.heap.size, 0, none⟩) 0 0) (encL 2 (l.take 0)).length ((encL 2 (l.take 0)).map (Value.int .u8))) := hide (World.ownsRow_lit w #[] 0 (Nat.le_refl _) (by unfold maxLen; omega) rfl)
  have HB0 : Hid (Below w.heap.size w (w.alloc (.cells #[] 5))) := hide ((Below.refl _ _).alloc (Nat.le_refl _) _)
  go_enter Tryd.func17, Tryd.ntmps17
  go_wp2
  go_loopw [5, 7] (fun s i wr => ∃ k : Nat, k ≤ l.length ∧ i = .int .i64 k ∧ Hid (wr.ownsRow w.heap.size 5 1 s (encL 2 (l.take k)).length ((encL 2 (l.take k)).map (Value.int .u8))) ∧ Hid (Below w.heap.size w wr)) (fun _ i _ => l.length - (intOf i).toNat)
  case atStart => exact ⟨0, Nat.zero_le _, rfl, HO0, HB0⟩
  case round =>
    obtain ⟨k, hk, rfl, HO, HB⟩ := hrel
    clear HO0 HB0
    by_cases hlt : k < l.length
    · have := unhide H0; omega
    · obtain rfl : k = l.length := by omega
      have hcv := conv_owned wr _ _ _ _ (unhide HO)
      rw [List.take_length] at hcv
      go_wp2
      go_ret
      exact ⟨rfl, unhide HB⟩
set_option maxHeartbeats 2000000 in
theorem encode2_at (b off cap : Nat) (l : List Int) (w : World) (hbs : b < w.heap.size) (hc : ∀ i, i < l.length → w.cell? ⟨b, off + i, none⟩ = some (.int .i64 (nth l i))) (hl : l.length ≤ 65536) (hp : ∀ x ∈ l, isPt x = true) :
    Calls Tryd.prog 17 #[.int .i64 2, .slice (some ⟨b, off, none⟩) l.length cap] w fun e w' => e = .returned (.string (strOfNums (encL 2 l))) ∧ Below w.heap.size w w' := by
  obtain ⟨i0, hi, hz0, hz1, hz2⟩ := info_parts info5
  have HC := hide hc
  have HP := hide hp
  clear hc hp
  have HO0 : Hid ((w.alloc (.cells #[] 5)).ownsRow w.heap.size 5 1 (.slice (some ⟨w.heap.size, 0, none⟩) 0 0) (encL 2 (l.take 0)).length ((encL 2 (l.take 0)).map (Value.int .u8))) := hide (World.ownsRow_lit w #[] 0 (Nat.le_refl _) (by unfold maxLen; omega) rfl)
  have HB0 : Hid (Below w.heap.size w (w.alloc (.cells #[] 5))) := hide ((Below.refl _ _).alloc (Nat.le_refl _) _)
  go_enter Tryd.func17, Tryd.ntmps17
  go_wp2
  go_loopw [5, 7] (fun s i wr => ∃ k : Nat, k ≤ l.length ∧ i = .int .i64 k ∧ Hid (wr.ownsRow w.heap.size 5 1 s (encL 2 (l.take k)).length ((encL 2 (l.take k)).map (Value.int .u8))) ∧ Hid (Below w.heap.size w wr)) (fun _ i _ => l.length - (intOf i).toNat)
  case atStart => exact ⟨0, Nat.zero_le _, rfl, HO0, HB0⟩
  case round =>
    obtain ⟨k, hk, rfl, HO, HB⟩ := hrel
    clear HO0 HB0
    by_cases hlt : k < l.length
    · have c1 := ((unhide HB).cell (p := ⟨b, off + k, none⟩) hbs).trans ((unhide HC) k hlt)
      have hle := encL_take 2 l k
      have hbse := (unhide HB).size
      have hpt := nth_pt (unhide HP) k hlt
      have hp0 := hpt.1
      have hp1 := hpt.2
      have HE := hide (encL_snoc 2 l k hlt)
      clear hpt
      generalize nth l k = p at *
      generalize encL 2 (l.take k) = L at *
      by_cases hlow : p < 65536
      · have HE' : Hid (encL 2 (l.take (k + 1)) = L ++ unitL 2 false p) := hide (by rw [unhide HE]; unfold encP; rw [if_neg (by omega), if_neg (by omega), if_pos hlow]; rfl)
        go_wp2_with (first | (go_at_call 30; refine (units_any 2 (.inl rfl) false p _).mono ?_; rintro e w2 ⟨rfl, hu, hb2, _⟩; have HB2 := hide hb2; have hb2s := hb2.size; have HU := hide hu; clear hb2 hu; have HO2 := hide (ownsRow_below (unhide HO) (unhide HB2))) | (at_builtin; refine wpList_append_own _ rfl _ _ 22 rfl w.heap.size 5 i0 (.int .u8 0) 1 1 Tryd.underlying22 hi hz0 hz1 hz2 rfl (by decide) _ _ _ rfl (unhide HO2) ⟨wr.heap.size, 0, none⟩ 2 2 ((unitL 2 false p).map (Value.int .u8)) rfl (by rw [List.length_map, unitL_len]) (row_cells (unhide HU)) (one_cell _) ?c3 ?c4 ?c5 ?_))
        case c3 => unfold maxLen; omega
        case c4 => omega
        case c5 => omega
        intro v' w3 hown' hgrow _
        have R := hide (bytes_step (M := unitL 2 false p) (unhide HB) (unhide HB2) (unhide HO2) (by rw [unitL_len]; exact hown') hgrow)
        clear hown' hgrow
        go_wp2
        go_roundw
        case rel => exact ⟨k + 1, by omega, by go_num, hide (by rw [unhide HE']; exact (unhide R).1), hide (unhide R).2⟩
        case measure => simp [intOf]; omega
      · have HE' : Hid (encL 2 (l.take (k + 1)) = L ++ unitL 2 false (55296 + (p - 65536) / 1024) ++ unitL 2 false (56320 + (p - 65536) % 1024)) := hide (by rw [unhide HE]; unfold encP; rw [if_neg (by omega), if_neg (by omega), if_neg hlow, List.append_assoc]; rfl)
        have hhi : 65536 ≤ p := by omega
        go_wp2_with (first | (go_at_call 30; refine (units_any 2 (.inl rfl) false _ _).mono ?_; rintro e w2 ⟨rfl, hu, hb2, _⟩; have HB2 := hide hb2; have hb2s := hb2.size; have HU := hide hu; clear hb2 hu; have HO2 := hide (ownsRow_below (unhide HO) (unhide HB2))) | (at_builtin; refine wpList_append_own _ rfl _ _ 22 rfl w.heap.size 5 i0 (.int .u8 0) 1 1 Tryd.underlying22 hi hz0 hz1 hz2 rfl (by decide) _ _ _ rfl (unhide HO2) ⟨wr.heap.size, 0, none⟩ 2 2 ((unitL 2 false (55296 + (p - 65536) / 1024)).map (Value.int .u8)) rfl (by rw [List.length_map, unitL_len]) (row_cells (unhide HU)) (one_cell _) ?c3 ?c4 ?c5 ?_))
        case c3 => unfold maxLen; omega
        case c4 => omega
        case c5 => omega
        intro v' w3 hown' hgrow _
        have R := hide (bytes_step (M := unitL 2 false (55296 + (p - 65536) / 1024)) (unhide HB) (unhide HB2) (unhide HO2) (by rw [unitL_len]; exact hown') hgrow)
        clear hown' hgrow HU HO2 HB2
        obtain ⟨L2, hL2⟩ : ∃ L2, L ++ unitL 2 false (55296 + (p - 65536) / 1024) = L2 := ⟨_, rfl⟩
        have hL2n : L2.length = L.length + 2 := by rw [← hL2, List.length_append, unitL_len]
        rw [hL2] at R HE'
        clear hL2
        have HO3 := hide (unhide R).1
        have HB3 := hide (unhide R).2
        have hb3s := (unhide HB3).size
        clear R
        go_wp2_with (first | (go_at_call 30; refine (units_any 2 (.inl rfl) false _ _).mono ?_; rintro e w4 ⟨rfl, hu, hb2, _⟩; have HB4 := hide hb2; have hb4s := hb2.size; have HU := hide hu; clear hb2 hu; have HO4 := hide (ownsRow_below (unhide HO3) (unhide HB4))) | (at_builtin; refine wpList_append_own _ rfl _ _ 22 rfl w.heap.size 5 i0 (.int .u8 0) 1 1 Tryd.underlying22 hi hz0 hz1 hz2 rfl (by decide) _ _ _ rfl (unhide HO4) ⟨w3.heap.size, 0, none⟩ 2 2 ((unitL 2 false (56320 + (p - 65536) % 1024)).map (Value.int .u8)) rfl (by rw [List.length_map, unitL_len]) (row_cells (unhide HU)) (one_cell _) ?c3 ?c4 ?c5 ?_))
        case c3 => unfold maxLen; omega
        case c4 => omega
        case c5 => omega
        intro v' w5 hown' hgrow _
        have R := hide (bytes_step (M := unitL 2 false (56320 + (p - 65536) % 1024)) (unhide HB3) (unhide HB4) (unhide HO4) (by rw [unitL_len, hL2n]; exact hown') hgrow)
        clear hown' hgrow
        go_wp2
        go_roundw
        case rel => exact ⟨k + 1, by omega, by go_num, hide (by rw [unhide HE']; exact (unhide R).1), hide (unhide R).2⟩
        case measure => simp [intOf]; omega
    · obtain rfl : k = l.length := by omega
      have hcv := conv_owned wr _ _ _ _ (unhide HO)
      rw [List.take_length] at hcv
      go_wp2
      go_ret
      exact ⟨rfl, unhide HB⟩
set_option maxHeartbeats 1000000 in
theorem encode3_nil (a : Option Addr) (cap : Nat) (l : List Int) (w : World) (h0 : l.length = 0) :
    Calls Tryd.prog 17 #[.int .i64 3, .slice a l.length cap] w fun e w' => e = .returned (.string (strOfNums (encL 3 l))) ∧ Below w.heap.size w w' := by
  obtain ⟨i0, hi, hz0, hz1, hz2⟩ := info_parts info5
  have H0 := hide h0
  clear h0
  have hl : l.length ≤ 65536 := by rw [unhide H0]; omega
  have HO0 : Hid ((w.alloc (.cells #[] 5)).ownsRow w.heap.size 5 1 (.slice (some ⟨w.heap.size, 0, none⟩) 0 0) (encL 3 (l.take 0)).length ((encL 3 (l.take 0)).map (Value.int .u8))) := hide (World.ownsRow_lit w #[] 0 (Nat.le_refl _) (by unfold maxLen; omega) rfl)
  have HB0 : Hid (Below w.heap.size w (w.alloc (.cells #[] 5))) := hide ((Below.refl _ _).alloc (Nat.le_refl _) _)
  go_enter Tryd.func17, Tryd.ntmps17
  go_wp2
  go_loopw [5, 7] (fun s i wr => ∃ k : Nat, k ≤ l.length ∧ i = .int .i64 k ∧ Hid (wr.ownsRow w.heap.size 5 1 s (encL 3 (l.take k)).length ((encL 3 (l.take k)).map (Value.int .u8))) ∧ Hid (Below w.heap.size w wr)) (fun _ i _ => l.length - (intOf i).toNat)
  case atStart => exact ⟨0, Nat.zero_le _, rfl, HO0, HB0⟩
  case round =>
    obtain ⟨k, hk, rfl, HO, HB⟩ := hrel
    clear HO0 HB0
    by_cases hlt : k < l.length
    · have := unhide H0; omega
    · obtain rfl : k = l.length := by omega
      have hcv := conv_owned wr _ _ _ _ (unhide HO)
      rw [List.take_length] at hcv
      go_wp2
      go_ret
      exact ⟨rfl, unhide HB⟩
set_option maxHeartbeats 2000000 in
theorem encode3_at (b off cap : Nat) (l : List Int) (w : World) (hbs : b < w.heap.size) (hc : ∀ i, i < l.length → w.cell? ⟨b, off + i, none⟩ = some (.int .i64 (nth l i))) (hl : l.length ≤ 65536) (hp : ∀ x ∈ l, isPt x = true) :
    Calls Tryd.prog 17 #[.int .i64 3, .slice (some ⟨b, off, none⟩) l.length cap] w fun e w' => e = .returned (.string (strOfNums (encL 3 l))) ∧ Below w.heap.size w w' := by
  obtain ⟨i0, hi, hz0, hz1, hz2⟩ := info_parts info5
  have HC := hide hc
  have HP := hide hp
  clear hc hp
  have HO0 : Hid ((w.alloc (.cells #[] 5)).ownsRow w.heap.size 5 1 (.slice (some ⟨w.heap.size, 0, none⟩) 0 0) (encL 3 (l.take 0)).length ((encL 3 (l.take 0)).map (Value.int .u8))) := hide (World.ownsRow_lit w #[] 0 (Nat.le_refl _) (by unfold maxLen; omega) rfl)
  have HB0 : Hid (Below w.heap.size w (w.alloc (.cells #[] 5))) := hide ((Below.refl _ _).alloc (Nat.le_refl _) _)
  go_enter Tryd.func17, Tryd.ntmps17
  go_wp2
  go_loopw [5, 7] (fun s i wr => ∃ k : Nat, k ≤ l.length ∧ i = .int .i64 k ∧ Hid (wr.ownsRow w.heap.size 5 1 s (encL 3 (l.take k)).length ((encL 3 (l.take k)).map (Value.int .u8))) ∧ Hid (Below w.heap.size w wr)) (fun _ i _ => l.length - (intOf i).toNat)
  case atStart => exact ⟨0, Nat.zero_le _, rfl, HO0, HB0⟩
  case round =>
    obtain ⟨k, hk, rfl, HO, HB⟩ := hrel
    clear HO0 HB0
    by_cases hlt : k < l.length
    · have c1 := ((unhide HB).cell (p := ⟨b, off + k, none⟩) hbs).trans ((unhide HC) k hlt)
      have hle := encL_take 3 l k
      have hbse := (unhide HB).size
      have hpt := nth_pt (unhide HP) k hlt
      have hp0 := hpt.1
      have hp1 := hpt.2
      have HE := hide (encL_snoc 3 l k hlt)
      clear hpt
      generalize nth l k = p at *
      generalize encL 3 (l.take k) = L at *
      by_cases hlow : p < 65536
      · have HE' : Hid (encL 3 (l.take (k + 1)) = L ++ unitL 2 true p) := hide (by rw [unhide HE]; unfold encP; rw [if_neg (by omega), if_neg (by omega), if_pos hlow]; rfl)
        go_wp2_with (first | (go_at_call 30; refine (units_any 2 (.inl rfl) true p _).mono ?_; rintro e w2 ⟨rfl, hu, hb2, _⟩; have HB2 := hide hb2; have hb2s := hb2.size; have HU := hide hu; clear hb2 hu; have HO2 := hide (ownsRow_below (unhide HO) (unhide HB2))) | (at_builtin; refine wpList_append_own _ rfl _ _ 22 rfl w.heap.size 5 i0 (.int .u8 0) 1 1 Tryd.underlying22 hi hz0 hz1 hz2 rfl (by decide) _ _ _ rfl (unhide HO2) ⟨wr.heap.size, 0, none⟩ 2 2 ((unitL 2 true p).map (Value.int .u8)) rfl (by rw [List.length_map, unitL_len]) (row_cells (unhide HU)) (one_cell _) ?c3 ?c4 ?c5 ?_))
        case c3 => unfold maxLen; omega
        case c4 => omega
        case c5 => omega
        intro v' w3 hown' hgrow _
        have R := hide (bytes_step (M := unitL 2 true p) (unhide HB) (unhide HB2) (unhide HO2) (by rw [unitL_len]; exact hown') hgrow)
        clear hown' hgrow
        go_wp2
        go_roundw
        case rel => exact ⟨k + 1, by omega, by go_num, hide (by rw [unhide HE']; exact (unhide R).1), hide (unhide R).2⟩
        case measure => simp [intOf]; omega
      · have HE' : Hid (encL 3 (l.take (k + 1)) = L ++ unitL 2 true (55296 + (p - 65536) / 1024) ++ unitL 2 true (56320 + (p - 65536) % 1024)) := hide (by rw [unhide HE]; unfold encP; rw [if_neg (by omega), if_neg (by omega), if_neg hlow, List.append_assoc]; rfl)
        have hhi : 65536 ≤ p := by omega
        go_wp2_with (first | (go_at_call 30; refine (units_any 2 (.inl rfl) true _ _).mono ?_; rintro e w2 ⟨rfl, hu, hb2, _⟩; have HB2 := hide hb2; have hb2s := hb2.size; have HU := hide hu; clear hb2 hu; have HO2 := hide (ownsRow_below (unhide HO) (unhide HB2))) | (at_builtin; refine wpList_append_own _ rfl _ _ 22 rfl w.heap.size 5 i0 (.int .u8 0) 1 1 Tryd.underlying22 hi hz0 hz1 hz2 rfl (by decide) _ _ _ rfl (unhide HO2) ⟨wr.heap.size, 0, none⟩ 2 2 ((unitL 2 true (55296 + (p - 65536) / 1024)).map (Value.int .u8)) rfl (by rw [List.length_map, unitL_len]) (row_cells (unhide HU)) (one_cell _) ?c3 ?c4 ?c5 ?_))
        case c3 => unfold maxLen; omega
        case c4 => omega
        case c5 => omega
        intro v' w3 hown' hgrow _
        have R := hide (bytes_step (M := unitL 2 true (55296 + (p - 65536) / 1024)) (unhide HB) (unhide HB2) (unhide HO2) (by rw [unitL_len]; exact hown') hgrow)
        clear hown' hgrow HU HO2 HB2
        obtain ⟨L2, hL2⟩ : ∃ L2, L ++ unitL 2 true (55296 + (p - 65536) / 1024) = L2 := ⟨_, rfl⟩
        have hL2n : L2.length = L.length + 2 := by rw [← hL2, List.length_append, unitL_len]
        rw [hL2] at R HE'
        clear hL2
        have HO3 := hide (unhide R).1
        have HB3 := hide (unhide R).2
        have hb3s := (unhide HB3).size
        clear R
        go_wp2_with (first | (go_at_call 30; refine (units_any 2 (.inl rfl) true _ _).mono ?_; rintro e w4 ⟨rfl, hu, hb2, _⟩; have HB4 := hide hb2; have hb4s := hb2.size; have HU := hide hu; clear hb2 hu; have HO4 := hide (ownsRow_below (unhide HO3) (unhide HB4))) | (at_builtin; refine wpList_append_own _ rfl _ _ 22 rfl w.heap.size 5 i0 (.int .u8 0) 1 1 Tryd.underlying22 hi hz0 hz1 hz2 rfl (by decide) _ _ _ rfl (unhide HO4) ⟨w3.heap.size, 0, none⟩ 2 2 ((unitL 2 true (56320 + (p - 65536) % 1024)).map (Value.int .u8)) rfl (by rw [List.length_map, unitL_len]) (row_cells (unhide HU)) (one_cell _) ?c3 ?c4 ?c5 ?_))
        case c3 => unfold maxLen; omega
        case c4 => omega
        case c5 => omega
        intro v' w5 hown' hgrow _
        have R := hide (bytes_step (M := unitL 2 true (56320 + (p - 65536) % 1024)) (unhide HB3) (unhide HB4) (unhide HO4) (by rw [unitL_len, hL2n]; exact hown') hgrow)
        clear hown' hgrow
        go_wp2
        go_roundw
        case rel => exact ⟨k + 1, by omega, by go_num, hide (by rw [unhide HE']; exact (unhide R).1), hide (unhide R).2⟩
        case measure => simp [intOf]; omega
    · obtain rfl : k = l.length := by omega
      have hcv := conv_owned wr _ _ _ _ (unhide HO)
      rw [List.take_length] at hcv
      go_wp2
      go_ret
      exact ⟨rfl, unhide HB⟩
set_option maxHeartbeats 1000000 in
theorem encode4_nil (a : Option Addr) (cap : Nat) (l : List Int) (w : World) (h0 : l.length = 0) :
    Calls Tryd.prog 17 #[.int .i64 4, .slice a l.length cap] w fun e w' => e = .returned (.string (strOfNums (encL 4 l))) ∧ Below w.heap.size w w' := by
  obtain ⟨i0, hi, hz0, hz1, hz2⟩ := info_parts info5
  have H0 := hide h0
  clear h0
  have hl : l.length ≤ 65536 := by rw [unhide H0]; omega
  have HO0 : Hid ((w.alloc (.cells #[] 5)).ownsRow w.heap.size 5 1 (.slice (some ⟨w.heap.size, 0, none⟩) 0 0) (encL 4 (l.take 0)).length ((encL 4 (l.take 0)).map (Value.int .u8))) := hide (World.ownsRow_lit w #[] 0 (Nat.le_refl _) (by unfold maxLen; omega) rfl)
  have HB0 : Hid (Below w.heap.size w (w.alloc (.cells #[] 5))) := hide ((Below.refl _ _).alloc (Nat.le_refl _) _)
  go_enter Tryd.func17, Tryd.ntmps17
  go_wp2
  go_loopw [5, 7] (fun s i wr => ∃ k : Nat, k ≤ l.length ∧ i = .int .i64 k ∧ Hid (wr.ownsRow w.heap.size 5 1 s (encL 4 (l.take k)).length ((encL 4 (l.take k)).map (Value.int .u8))) ∧ Hid (Below w.heap.size w wr)) (fun _ i _ => l.length - (intOf i).toNat)
  case atStart => exact ⟨0, Nat.zero_le _, rfl, HO0, HB0⟩
  case round =>
    obtain ⟨k, hk, rfl, HO, HB⟩ := hrel
    clear HO0 HB0
    by_cases hlt : k < l.length
    · have := unhide H0; omega
    · obtain rfl : k = l.length := by omega
      have hcv := conv_owned wr _ _ _ _ (unhide HO)
      rw [List.take_length] at hcv
      go_wp2
      go_ret
      exact ⟨rfl, unhide HB⟩
set_option maxHeartbeats 2000000 in
theorem encode4_at (b off cap : Nat) (l : List Int) (w : World) (hbs : b < w.heap.size) (hc : ∀ i, i < l.length → w.cell? ⟨b, off + i, none⟩ = some (.int .i64 (nth l i))) (hl : l.length ≤ 65536) (hp : ∀ x ∈ l, isPt x = true) :
    Calls Tryd.prog 17 #[.int .i64 4, .slice (some ⟨b, off, none⟩) l.length cap] w fun e w' => e = .returned (.string (strOfNums (encL 4 l))) ∧ Below w.heap.size w w' := by
  obtain ⟨i0, hi, hz0, hz1, hz2⟩ := info_parts info5
  have HC := hide hc
  have HP := hide hp
  clear hc hp
  have HO0 : Hid ((w.alloc (.cells #[] 5)).ownsRow w.heap.size 5 1 (.slice (some ⟨w.heap.size, 0, none⟩) 0 0) (encL 4 (l.take 0)).length ((encL 4 (l.take 0)).map (Value.int .u8))) := hide (World.ownsRow_lit w #[] 0 (Nat.le_refl _) (by unfold maxLen; omega) rfl)
  have HB0 : Hid (Below w.heap.size w (w.alloc (.cells #[] 5))) := hide ((Below.refl _ _).alloc (Nat.le_refl _) _)
  go_enter Tryd.func17, Tryd.ntmps17
  go_wp2
  go_loopw [5, 7] (fun s i wr => ∃ k : Nat, k ≤ l.length ∧ i = .int .i64 k ∧ Hid (wr.ownsRow w.heap.size 5 1 s (encL 4 (l.take k)).length ((encL 4 (l.take k)).map (Value.int .u8))) ∧ Hid (Below w.heap.size w wr)) (fun _ i _ => l.length - (intOf i).toNat)
  case atStart => exact ⟨0, Nat.zero_le _, rfl, HO0, HB0⟩
  case round =>
    obtain ⟨k, hk, rfl, HO, HB⟩ := hrel
    clear HO0 HB0
    by_cases hlt : k < l.length
    · have c1 := ((unhide HB).cell (p := ⟨b, off + k, none⟩) hbs).trans ((unhide HC) k hlt)
      have hle := encL_take 4 l k
      have hbse := (unhide HB).size
      have hpt := nth_pt (unhide HP) k hlt
      have hp0 := hpt.1
      have hp1 := hpt.2
      have HE := hide (encL_snoc 4 l k hlt)
      clear hpt
      generalize nth l k = p at *
      generalize encL 4 (l.take k) = L at *
      have HE' : Hid (encL 4 (l.take (k + 1)) = L ++ unitL 4 false p) := hide (unhide HE)
      go_wp2_with (first | (go_at_call 30; refine (units_any 4 (.inr rfl) false p _).mono ?_; rintro e w2 ⟨rfl, hu, hb2, _⟩; have HB2 := hide hb2; have hb2s := hb2.size; have HU := hide hu; clear hb2 hu; have HO2 := hide (ownsRow_below (unhide HO) (unhide HB2))) | (at_builtin; refine wpList_append_own _ rfl _ _ 22 rfl w.heap.size 5 i0 (.int .u8 0) 1 1 Tryd.underlying22 hi hz0 hz1 hz2 rfl (by decide) _ _ _ rfl (unhide HO2) ⟨wr.heap.size, 0, none⟩ 4 4 ((unitL 4 false p).map (Value.int .u8)) rfl (by rw [List.length_map, unitL_len]) (row_cells (unhide HU)) (one_cell _) ?c3 ?c4 ?c5 ?_))
      case c3 => unfold maxLen; omega
      case c4 => omega
      case c5 => omega
      intro v' w3 hown' hgrow _
      have R := hide (bytes_step (M := unitL 4 false p) (unhide HB) (unhide HB2) (unhide HO2) (by rw [unitL_len]; exact hown') hgrow)
      clear hown' hgrow
      go_wp2
      go_roundw
      case rel => exact ⟨k + 1, by omega, by go_num, hide (by rw [unhide HE']; exact (unhide R).1), hide (unhide R).2⟩
      case measure => simp [intOf]; omega
    · obtain rfl : k = l.length := by omega
      have hcv := conv_owned wr _ _ _ _ (unhide HO)
      rw [List.take_length] at hcv
      go_wp2
      go_ret
      exact ⟨rfl, unhide HB⟩
set_option maxHeartbeats 1000000 in
theorem encode5_nil (a : Option Addr) (cap : Nat) (l : List Int) (w : World) (h0 : l.length = 0) :
    Calls Tryd.prog 17 #[.int .i64 5, .slice a l.length cap] w fun e w' => e = .returned (.string (strOfNums (encL 5 l))) ∧ Below w.heap.size w w' := by
  obtain ⟨i0, hi, hz0, hz1, hz2⟩ := info_parts info5
  have H0 := hide h0
  clear h0
  have hl : l.length ≤ 65536 := by rw [unhide H0]; omega
  have HO0 : Hid ((w.alloc (.cells #[] 5)).ownsRow w.heap.size 5 1 (.slice (some ⟨w.heap.size, 0, none⟩) 0 0) (encL 5 (l.take 0)).length ((encL 5 (l.take 0)).map (Value.int .u8))) := hide (World.ownsRow_lit w #[] 0 (Nat.le_refl _) (by unfold maxLen; omega) rfl)
  have HB0 : Hid (Below w.heap.size w (w.alloc (.cells #[] 5))) := hide ((Below.refl _ _).alloc (Nat.le_refl _) _)
  go_enter Tryd.func17, Tryd.ntmps17
  go_wp2
  go_loopw [5, 7] (fun s i wr => ∃ k : Nat, k ≤ l.length ∧ i = .int .i64 k ∧ Hid (wr.ownsRow w.heap.size 5 1 s (encL 5 (l.take k)).length ((encL 5 (l.take k)).map (Value.int .u8))) ∧ Hid (Below w.heap.size w wr)) (fun _ i _ => l.length - (intOf i).toNat)
  case atStart => exact ⟨0, Nat.zero_le _, rfl, HO0, HB0⟩
  case round =>
    obtain ⟨k, hk, rfl, HO, HB⟩ := hrel
    clear HO0 HB0
    by_cases hlt : k < l.length
    · have := unhide H0; omega
    · obtain rfl : k = l.length := by omega
      have hcv := conv_owned wr _ _ _ _ (unhide HO)
      rw [List.take_length] at hcv
      go_wp2
      go_ret
      exact ⟨rfl, unhide HB⟩
set_option maxHeartbeats 2000000 in
theorem encode5_at (b off cap : Nat) (l : List Int) (w : World) (hbs : b < w.heap.size) (hc : ∀ i, i < l.length → w.cell? ⟨b, off + i, none⟩ = some (.int .i64 (nth l i))) (hl : l.length ≤ 65536) (hp : ∀ x ∈ l, isPt x = true) :
    Calls Tryd.prog 17 #[.int .i64 5, .slice (some ⟨b, off, none⟩) l.length cap] w fun e w' => e = .returned (.string (strOfNums (encL 5 l))) ∧ Below w.heap.size w w' := by
  obtain ⟨i0, hi, hz0, hz1, hz2⟩ := info_parts info5
  have HC := hide hc
  have HP := hide hp
  clear hc hp
  have HO0 : Hid ((w.alloc (.cells #[] 5)).ownsRow w.heap.size 5 1 (.slice (some ⟨w.heap.size, 0, none⟩) 0 0) (encL 5 (l.take 0)).length ((encL 5 (l.take 0)).map (Value.int .u8))) := hide (World.ownsRow_lit w #[] 0 (Nat.le_refl _) (by unfold maxLen; omega) rfl)
  have HB0 : Hid (Below w.heap.size w (w.alloc (.cells #[] 5))) := hide ((Below.refl _ _).alloc (Nat.le_refl _) _)
  go_enter Tryd.func17, Tryd.ntmps17
  go_wp2
  go_loopw [5, 7] (fun s i wr => ∃ k : Nat, k ≤ l.length ∧ i = .int .i64 k ∧ Hid (wr.ownsRow w.heap.size 5 1 s (encL 5 (l.take k)).length ((encL 5 (l.take k)).map (Value.int .u8))) ∧ Hid (Below w.heap.size w wr)) (fun _ i _ => l.length - (intOf i).toNat)
  case atStart => exact ⟨0, Nat.zero_le _, rfl, HO0, HB0⟩
  case round =>
    obtain ⟨k, hk, rfl, HO, HB⟩ := hrel
    clear HO0 HB0
    by_cases hlt : k < l.length
    · have c1 := ((unhide HB).cell (p := ⟨b, off + k, none⟩) hbs).trans ((unhide HC) k hlt)
      have hle := encL_take 5 l k
      have hbse := (unhide HB).size
      have hpt := nth_pt (unhide HP) k hlt
      have hp0 := hpt.1
      have hp1 := hpt.2
      have HE := hide (encL_snoc 5 l k hlt)
      clear hpt
      generalize nth l k = p at *
      generalize encL 5 (l.take k) = L at *
      have HE' : Hid (encL 5 (l.take (k + 1)) = L ++ unitL 4 true p) := hide (unhide HE)
      go_wp2_with (first | (go_at_call 30; refine (units_any 4 (.inr rfl) true p _).mono ?_; rintro e w2 ⟨rfl, hu, hb2, _⟩; have HB2 := hide hb2; have hb2s := hb2.size; have HU := hide hu; clear hb2 hu; have HO2 := hide (ownsRow_below (unhide HO) (unhide HB2))) | (at_builtin; refine wpList_append_own _ rfl _ _ 22 rfl w.heap.size 5 i0 (.int .u8 0) 1 1 Tryd.underlying22 hi hz0 hz1 hz2 rfl (by decide) _ _ _ rfl (unhide HO2) ⟨wr.heap.size, 0, none⟩ 4 4 ((unitL 4 true p).map (Value.int .u8)) rfl (by rw [List.length_map, unitL_len]) (row_cells (unhide HU)) (one_cell _) ?c3 ?c4 ?c5 ?_))
      case c3 => unfold maxLen; omega
      case c4 => omega
      case c5 => omega
      intro v' w3 hown' hgrow _
      have R := hide (bytes_step (M := unitL 4 true p) (unhide HB) (unhide HB2) (unhide HO2) (by rw [unitL_len]; exact hown') hgrow)
      clear hown' hgrow
      go_wp2
      go_roundw
      case rel => exact ⟨k + 1, by omega, by go_num, hide (by rw [unhide HE']; exact (unhide R).1), hide (unhide R).2⟩
      case measure => simp [intOf]; omega
    · obtain rfl : k = l.length := by omega
      have hcv := conv_owned wr _ _ _ _ (unhide HO)
      rw [List.take_length] at hcv
      go_wp2
      go_ret
      exact ⟨rfl, unhide HB⟩
theorem encode_any (f : Int) (hf : 1 ≤ f ∧ f ≤ 5) (v : Value) (l : List Int) (w : World) (h : IntsAt w v l) (hl : l.length ≤ 65536) (hp : ∀ x ∈ l, isPt x = true) :
    Calls Tryd.prog 17 #[.int .i64 f, v] w fun e w' => e = .returned (.string (strOfNums (encL f l))) ∧ Below w.heap.size w w' := by
  obtain ⟨a, cap, rfl, h⟩ := h
  obtain rfl | rfl | rfl | rfl | rfl : f = 1 ∨ f = 2 ∨ f = 3 ∨ f = 4 ∨ f = 5 := by omega
  · rcases h with h | ⟨b, off, rfl, hbs, hc⟩
    · exact encode1_nil a cap l w (by rw [h]; rfl)
    · exact encode1_at b off cap l w hbs hc hl hp
  · rcases h with h | ⟨b, off, rfl, hbs, hc⟩
    · exact encode2_nil a cap l w (by rw [h]; rfl)
    · exact encode2_at b off cap l w hbs hc hl hp
  · rcases h with h | ⟨b, off, rfl, hbs, hc⟩
    · exact encode3_nil a cap l w (by rw [h]; rfl)
    · exact encode3_at b off cap l w hbs hc hl hp
  · rcases h with h | ⟨b, off, rfl, hbs, hc⟩
    · exact encode4_nil a cap l w (by rw [h]; rfl)
    · exact encode4_at b off cap l w hbs hc hl hp
  · rcases h with h | ⟨b, off, rfl, hbs, hc⟩
    · exact encode5_nil a cap l w (by rw [h]; rfl)
    · exact encode5_at b off cap l w hbs hc hl hp
theorem small_le (s : ByteArray) (w : World) (h : s.size ≤ 65536) : Calls Tryd.prog 16 #[.string s] w fun e w' => e = .returned (.string s) ∧ w' = w := by
  go_enter Tryd.func16, Tryd.ntmps16
  go_wp2
  go_ret
  exact ⟨rfl, rfl⟩
theorem small_gt (s : ByteArray) (w : World) (h : 65536 < s.size) : Calls Tryd.prog 16 #[.string s] w fun e w' => e = .returned (.string (strOfNums [])) ∧ w' = w := by
  go_enter Tryd.func16, Tryd.ntmps16
  go_wp2
  go_ret
  exact ⟨rfl, rfl⟩
/-- What a text is in a form: nothing where it is too long, or the form is none. -/
def encOut (f : Int) (s : ByteArray) : List Int :=
  if 65536 < s.size then [] else if f < 1 ∨ 5 < f then [] else if 65536 < (encL f (pts s)).length then [] else encL f (pts s)
theorem isForm_any (f : Int) (w : World) : Calls Tryd.prog 15 #[.int .i64 f] w fun e w' => e = .returned (.bool (decide (1 ≤ f ∧ f ≤ 5))) ∧ w' = w := by
  have hp : ¬ 1 ≤ f ∨ (1 ≤ f ∧ ¬ f ≤ 5) ∨ (1 ≤ f ∧ f ≤ 5) := by omega
  rcases hp with h1 | ⟨h1, h2⟩ | ⟨h1, h2⟩
  all_goals
    go_enter Tryd.func15, Tryd.ntmps15
    go_wp2
    go_ret
    exact ⟨by simp; omega, rfl⟩
set_option maxHeartbeats 1000000 in
theorem specEncode (f : Int) (s : ByteArray) (w : World) (hs : s.size ≤ 1048576) :
    Calls Tryd.prog 7 #[.int .i64 f, .string s] w fun e w' => e = .returned (.string (strOfNums (encOut f s))) ∧ Below w.heap.size w w' := by
  by_cases hb : 65536 < s.size
  · go_enter Tryd.func7, Tryd.ntmps7
    go_wp2
    go_ret
    exact ⟨by unfold encOut; rw [if_pos hb]; rfl, Below.refl _ _⟩
  have hb' : s.size ≤ 65536 := by omega
  by_cases hf : f < 1 ∨ 5 < f
  · have hd : decide (1 ≤ f ∧ f ≤ 5) = false := by simp; omega
    have HF := hide hf
    clear hf
    go_enter Tryd.func7, Tryd.ntmps7
    go_wp2_with (go_at_call 15; refine (isForm_any f _).mono ?_; rintro e w1 ⟨rfl, rfl⟩; rw [hd])
    go_ret
    exact ⟨by unfold encOut; rw [if_neg hb, if_pos (unhide HF)]; rfl, Below.refl _ _⟩
  have hd : decide (1 ≤ f ∧ f ≤ 5) = true := by simp; omega
  have HF : Hid (1 ≤ f ∧ f ≤ 5) := hide (by omega)
  have hn := pts_le s
  have HP := hide (pts_pt s)
  by_cases hbig : 65536 < (encL f (pts s)).length
  · have hbz : 65536 < (strOfNums (encL f (pts s))).size := by rw [strOfNums_size]; exact hbig
    have HR : Hid (encOut f s = []) := hide (by unfold encOut; rw [if_neg hb, if_neg hf, if_pos hbig])
    clear hf hbig
    go_enter Tryd.func7, Tryd.ntmps7
    go_wp2_with (first | (go_at_call 15; refine (isForm_any f _).mono ?_; rintro e w1 ⟨rfl, rfl⟩; rw [hd]) | (go_at_call 18; refine (l01Points s _ hb').mono ?_; rintro e w1 ⟨v, rfl, ho, hb1⟩) | (go_at_call 17; refine (encode_any f (unhide HF) _ (pts s) _ (IntsAt.owned ho) (by omega) (unhide HP)).mono ?_; rintro e w2 ⟨rfl, hb2⟩) | (go_at_call 16; refine (small_gt _ _ hbz).mono ?_; rintro e w3 ⟨rfl, rfl⟩))
    go_ret
    exact ⟨by rw [unhide HR]; rfl, hb1.trans (hb2.mono hb1.size)⟩
  · have hbz : (strOfNums (encL f (pts s))).size ≤ 65536 := by rw [strOfNums_size]; omega
    have HR : Hid (encOut f s = encL f (pts s)) := hide (by unfold encOut; rw [if_neg hb, if_neg hf, if_neg hbig])
    clear hf hbig
    go_enter Tryd.func7, Tryd.ntmps7
    go_wp2_with (first | (go_at_call 15; refine (isForm_any f _).mono ?_; rintro e w1 ⟨rfl, rfl⟩; rw [hd]) | (go_at_call 18; refine (l01Points s _ hb').mono ?_; rintro e w1 ⟨v, rfl, ho, hb1⟩) | (go_at_call 17; refine (encode_any f (unhide HF) _ (pts s) _ (IntsAt.owned ho) (by omega) (unhide HP)).mono ?_; rintro e w2 ⟨rfl, hb2⟩) | (go_at_call 16; refine (small_le _ _ hbz).mono ?_; rintro e w3 ⟨rfl, rfl⟩))
    go_ret
    exact ⟨by rw [unhide HR]; rfl, hb1.trans (hb2.mono hb1.size)⟩
end Go.Proofs.YtiianallpmfcbaaDoor
