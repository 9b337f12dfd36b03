/- FnLabels: a text comes back from its label. -/
import Derived.Test.YthjjojkabbepdaaDoorLabV
import Derived.Test.YthjjojkabbepdaaDoorLabF
namespace Go.Proofs.YthjjojkabbepdaaDoor.Lab
open Go.RowKit
set_option linter.unusedVariables false
theorem st0_bd {L : List Int} (hP : ∀ x ∈ L, isPt x = true) : ∀ x ∈ (st0 L).out, 0 ≤ x ∧ x < 128 := by
  intro x hx
  have hx' : x ∈ pl L ++ if pl L = [] then [] else [45] := hx
  rcases List.mem_append.1 hx' with hx | hx
  · exact pl_bd hP x hx
  · split at hx
    · simp at hx
    · have : x = 45 := by simpa using hx
      omega
theorem lab_bd {L : List Int} (hL : L.length ≤ 1000) (hP : ∀ x ∈ L, isPt x = true) : ∀ x ∈ lab L, 0 ≤ x ∧ x < 128 := by
  have hPb : ∀ x ∈ L, x ≤ 1114111 := fun x hx => by have := (isPt_iff x).1 (hP x hx); omega
  obtain ⟨Q, h1, h2, _⟩ := lab_read isPt hL hPb hP
  intro x hx
  rw [h1] at hx
  rcases List.mem_append.1 hx with hx | hx
  · exact st0_bd hP x hx
  · have := outs_bd Q (D0 L) h2 x hx
    omega
theorem enc_bd (s : ByteArray) : ∀ x ∈ enc s, 0 ≤ x ∧ x < 128 := by
  intro x hx
  unfold enc at hx
  split at hx
  · rename_i h
    simp only [Bool.and_eq_true] at h
    exact lab_bd (few_yes h.1).2 (fun y hy => pts_pt s y hy) x hx
  · simp at hx
/-- What is not empty is the label of the text's points, and the text is theirs. -/
theorem enc_is {s : ByteArray} (h : enc s ≠ []) : enc s = lab (pts s) ∧ (pts s).length ≤ 1000 ∧ strOfNums (textL (pts s)) = s := by
  unfold enc at *
  split at h
  · rename_i c
    simp only [Bool.and_eq_true] at c
    rw [if_pos (by simp [c.1, c.2])]
    exact ⟨rfl, (few_yes c.1).2, wel_of c.2⟩
  · exact absurd rfl h
theorem low_at (s : ByteArray) (i : Nat) (h : i < (strOfNums (enc s)).size) : bt (strOfNums (enc s)) i < 128 := by
  have hi : i < (enc s).length := by rw [strOfNums_size] at h; exact h
  have := bt_nums (enc s) i hi (fun x hx => by have := enc_bd s x hx; omega)
  have := enc_bd s ((enc s)[i]) (List.getElem_mem hi)
  omega
set_option maxRecDepth 100000 in
set_option maxHeartbeats 4000000 in
theorem lawLabels (a : Option Addr) (len cap : Nat) (w : World) (hc : Dr.CodeIn w a len) (hlm : len ≤ maxLen) (hT : Tabs w) :
    Calls Tryd.prog 3 #[.slice a len cap] w fun e w' => e = .returned (.bool true) ∧ Below w.heap.size w w' := by
  unfold maxLen at hlm
  by_cases hl : len ≤ 1048576
  · have CD := hide (Dr.drawEnc_any w a len cap hl hc)
    have HT := hide hT
    have hl' : ¬ (1048576 : Int) < (len : Int) := by omega
    have C1 := hide (fun s W (hs : s.size ≤ 100001) (h : Tabs W) => implEnc s W (by omega) h)
    have C2 := hide (fun s W (hs : s.size ≤ 100001) => specEnc s W (by omega))
    clear hT hc
    go_enter Tryd.func3, Tryd.ntmps3
    go_wp2_with fail
    refine (unhide CD).mono ?_
    rintro e w1 ⟨s, rfl, hs, b1⟩
    have B1 := hide b1
    clear b1 CD
    have HLow := hide (low_at s)
    have HIS : Hid (strOfNums (enc s) = ⟨#[]⟩ ∨ ((strOfNums (enc s)).toList.isEmpty = false ∧ ((strOfNums (enc s)).size ≤ 1000 → ∀ W, Calls Tryd.prog 8 #[.string (strOfNums (enc s))] W fun e w' => e = .returned (.agg #[.int .i64 0, .int .i64 0, .string s]) ∧ Below W.heap.size W w'))) := hide (by
      by_cases he : enc s = []
      · left; rw [he]; rfl
      · right
        obtain ⟨e1, e2, e3⟩ := enc_is he
        refine ⟨?_, fun hz W => ?_⟩
        · rw [Lib.toList_data, strOfNums_data]
          cases hh : enc s with
          | nil => exact absurd hh he
          | cons x l => rfl
        · have hll : (lab (pts s)).length ≤ 1000 := by rw [← e1]; rw [strOfNums_size] at hz; exact hz
          have hr : ∀ W, Calls Tryd.prog 23 #[.string (strOfNums (enc s))] W fun e w' => e = .returned (.tuple #[.string s, .nilIface]) ∧ Below W.heap.size W w' := fun W => by
            have := readI (pts s) W e2 (fun x hx => pts_pt s x hx) hll
            rw [e3, ← e1] at this
            exact this
          exact decOk (strOfNums (enc s)) s W hr)
    have CI := hide ((unhide C1) s w1 hs ((unhide HT).below (unhide B1)))
    have CS := hide (fun W => (unhide C2) s W hs)
    have hsz : (strOfNums (enc s)).size ≤ 65536 := by
      rw [strOfNums_size]
      by_cases he : enc s = []
      · rw [he]; simp
      · obtain ⟨e1, e2, _⟩ := enc_is he
        rw [e1]
        have := lab_len e2 (fun x hx => (pts_bd2 s x hx).2)
        omega
    generalize strOfNums (enc s) = E at *
    clear C1 C2
    go_wp2_with (first
      | (go_at_call 6; refine (unhide CI).mono ?_; rintro e w2 ⟨rfl, b2⟩; have B2 := hide ((unhide B1).trans (b2.mono (unhide B1).size)); clear b2 CI)
      | (go_at_call 7; refine ((unhide CS) _).mono ?_; rintro e w3 ⟨rfl, b3⟩; have B3 := hide ((unhide B2).trans (b3.mono (unhide B2).size)); clear b3))
    clear CS HT hs
    go_loopw [5] (fun iv wr => ∃ i : Nat, i ≤ E.size ∧ iv = .int .i64 (i : Int) ∧ wr = w3) (fun iv _ => (E.size - intOf iv).toNat)
    case atStart => exact ⟨0, by omega, rfl, rfl⟩
    case round =>
      obtain ⟨i, hi, rfl, rfl⟩ := hrel
      by_cases h : i < E.size
      · have f0 : ∀ h, (E[i]'h).toNat = bt E i := fun h => bt_get E i h
        have hlow : ¬ (128 : Int) ≤ (bt E i : Int) := by have := (unhide HLow) i h; omega
        clear HIS
        go_wp2
        go_roundw
        case rel => exact ⟨i + 1, by omega, by go_num, by first | rfl | trivial⟩
        case measure => simp [intOf]; omega
      · obtain rfl : i = E.size := by omega
        rcases unhide HIS with he | ⟨he, hd⟩
        · subst he
          have hU : undef = Value.tuple #[] := rfl
          clear HIS HLow
          go_wp2
          go_ret
          exact ⟨rfl, unhide B3⟩
        · by_cases hk : E.size ≤ 1000
          · have CDd := hide (hd hk wr)
            have hk' : ¬ (1000 : Int) < (E.size : Int) := by omega
            clear HIS HLow hd
            go_wp2_with (go_at_call 8; refine (unhide CDd).mono ?_; rintro e w4 ⟨rfl, b4⟩; have B4 := hide ((unhide B3).trans (b4.mono (unhide B3).size)); clear b4)
            go_ret
            exact ⟨rfl, (unhide B4).alloc (unhide B4).size _⟩
          · have hk' : (1000 : Int) < (E.size : Int) := by omega
            clear HIS HLow hd
            go_wp2
            go_ret
            exact ⟨rfl, unhide B3⟩
  · have hl' : (1048576 : Int) < (len : Int) := by omega
    go_enter Tryd.func3, Tryd.ntmps3
    go_wp2
    go_ret
    exact ⟨rfl, Below.refl _ _⟩
end Go.Proofs.YthjjojkabbepdaaDoor.Lab
