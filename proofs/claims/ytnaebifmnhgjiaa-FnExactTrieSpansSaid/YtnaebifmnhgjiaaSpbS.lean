/- What a trie tells of all points, as spans: the program's answer and the specification's. -/
import Derived.Test.YtnaebifmnhgjiaaSpbI
import Derived.Test.YtnaebifmnhgjiaaAppG
namespace Go.Proofs.Ytnaebifmnhgjiaa
open Go.RowKit
def TSOf (ix dt : List Int) (L : List Sp) : Prop := (TrieOk ix dt ∧ RunsR (fTrie ix dt) L.reverse 32768) ∨ (¬ TrieOk ix dt ∧ L = [])
theorem tsOf_one {ix dt : List Int} {L M : List Sp} (h : TSOf ix dt L) (h' : TSOf ix dt M) : L = M := by
  rcases h with ⟨a, h⟩ | ⟨n, h⟩
  · rcases h' with ⟨_, h'⟩ | ⟨n, _⟩
    · have := congrArg List.reverse (runs_one _ _ _ _ h h')
      simpa using this
    · exact absurd a n
  · rcases h' with ⟨a, _⟩ | ⟨_, h'⟩
    · exact absurd a n
    · rw [h, h']
theorem row_base' {w : World} {B B' : Nat} {v : Value} {L : List Sp} (h : SpRow w B v L) (hb : B' ≤ B) : SpRow w B' v L := by
  refine ⟨h.1, ?_⟩
  rcases h.2 with h' | ⟨g, cap, cur, hv, hg, r⟩
  · exact .inl h'
  · exact .inr ⟨g, cap, cur, hv, by omega, r⟩
set_option maxHeartbeats 2000000 in
theorem implTS (vi vd : Value) (ix dt : List Int) (w : World) (hi : DatAt w w.heap.size vi ix) (hd : DatAt w w.heap.size vd dt) (li : ix.length ≤ 1048576) (ld : dt.length ≤ 1048576) :
    Calls Try.prog 30 #[.agg #[vi, vd]] w fun e w' => ∃ (v : Value) (L : List Sp), e = .returned v ∧ TSOf ix dt L ∧ L.length ≤ 32768 ∧ SpRow w' w.heap.size v L ∧ Below w.heap.size w w' := by
  have HI := hide hi
  have HD := hide hd
  obtain ⟨ai, ci, rfl, _, _⟩ := hi
  obtain ⟨ad, cd, rfl, _, _⟩ := hd
  have HB1 : Hid (∀ o, Below w.heap.size w (w.alloc o)) := hide (fun o => (Below.refl _ _).alloc (Nat.le_refl _) o)
  by_cases ho : TrieOk ix dt
  · have hf := trieFault_ok ho
    have HO := hide ho
    clear ho
    go_enter Try.func30, Try.ntmps30
    go_upto_region 1 with fail
    have X1 := hide (Box.new w (.slice ai ix.length ci) (.slice ad dt.length cd) 31)
    have P1 := hide ((unhide HI).alloc (.cells #[.slice ai ix.length ci, .slice ad dt.length cd] 31))
    have Q1 := hide ((unhide HD).alloc (.cells #[.slice ai ix.length ci, .slice ad dt.length cd] 31))
    have W1 := hide (unhide HB1 (.cells #[.slice ai ix.length ci, .slice ad dt.length cd] 31))
    clear HI HD HB1
    generalize w.alloc (.cells #[.slice ai ix.length ci, .slice ad dt.length cd] 31) = w1 at *
    obtain ⟨⟨x0, x1⟩, _, _⟩ := unhide X1
    go_wp2_with fail
    refine (implTF _ _ ix dt _ (unhide P1) (unhide Q1) li ld).mono ?_
    rintro e w2 ⟨rfl, hb⟩
    rw [hf]
    have P2 := hide ((unhide P1).below hb)
    have Q2 := hide ((unhide Q1).below hb)
    have X2 := hide ((unhide X1).below hb)
    have W2 := hide ((unhide W1).trans (hb.mono (unhide W1).size))
    clear hb P1 Q1 X1 W1 x0 x1
    obtain ⟨⟨x0, x1⟩, _, _⟩ := unhide X2
    go_wp2_with fail
    refine (spansBy_trie _ _ ix dt _ (unhide P2) (unhide Q2) li ld (unhide HO)).mono ?_
    rintro e w3 ⟨v, L, rfl, hr, hl, hs, hb⟩
    have R3 := hide (⟨hr, hl, row_base' hs (unhide W2).size, (unhide W2).trans (hb.mono (unhide W2).size)⟩ : _ ∧ _ ∧ _ ∧ _)
    clear hr hl hs hb
    go_wp2
    go_ret
    exact ⟨_, _, rfl, .inl ⟨unhide HO, (unhide R3).1⟩, (unhide R3).2.1, (unhide R3).2.2.1, (unhide R3).2.2.2⟩
  · have hf := trieFault_no ho
    have HO := hide ho
    clear ho
    go_enter Try.func30, Try.ntmps30
    go_wp2_with fail
    refine (implTF _ _ ix dt _ ((unhide HI).alloc _) ((unhide HD).alloc _) li ld).mono ?_
    rintro e w2 ⟨rfl, hb⟩
    rw [hf]
    have W2 := hide ((unhide HB1 _).trans (hb.mono (unhide HB1 _).size))
    clear hb
    go_wp2
    go_ret
    exact ⟨_, [], rfl, .inr ⟨unhide HO, rfl⟩, by simp, World.ownsRow_nil _ _ _ _, unhide W2⟩
/-- What the trie tells, one point after the other. -/
def told (ix dt : List Int) (n : Nat) : List Int := tabF n (fun p => atP ix dt p)
theorem told_len (ix dt : List Int) (n : Nat) : (told ix dt n).length = n := tabF_len _ _
theorem told_step {ix dt : List Int} (h : TrieOk ix dt) (k : Nat) (hk : k < 512) : told ix dt (k * 64) ++ blk dt (nth ix k).toNat = told ix dt ((k + 1) * 64) := by
  obtain ⟨h1, h2, h3, _, h5⟩ := h
  have hb := (turns_bd ix 0 _ h5).2 k (by omega)
  have hn : nth ix k = ix.getD k 0 := rfl
  have hl : dt.length = dt.length / 64 * 64 := by omega
  have hbl := blk_len dt (nth ix k).toNat (dt.length / 64) hl (by rw [hn]; omega)
  apply List.ext_getElem
  · rw [List.length_append, told_len, told_len, hbl]; omega
  · intro i h1 h2
    rw [told_len] at h2
    have e : (told ix dt ((k + 1) * 64))[i] = atP ix dt i := by simp [told, tabF]
    rw [e]
    by_cases hi : i < k * 64
    · rw [List.getElem_append_left (by rw [told_len]; exact hi)]
      simp [told, tabF]
    · rw [List.getElem_append_right (by rw [told_len]; omega)]
      have hj : i - (told ix dt (k * 64)).length = i - k * 64 := by rw [told_len]
      have e2 : (blk dt (nth ix k).toNat)[i - (told ix dt (k * 64)).length]'(by rw [told_len, hbl]; omega) = (blk dt (nth ix k).toNat).getD (i - k * 64) 0 := by
        rw [List.getD_eq_getElem?_getD, List.getElem?_eq_getElem (by rw [hbl]; omega)]
        simp [told_len]
      rw [e2, blk_nth dt _ _ (by omega)]
      unfold atP
      have q1 : i / 64 = k := by omega
      have q2 : i % 64 = i - k * 64 := by omega
      rw [q1, q2]
      rfl
theorem told_runs {ix dt : List Int} {L : List Sp} (h : RunsR (fnum (told ix dt 32768)) L.reverse 32768) : RunsR (fTrie ix dt) L.reverse 32768 :=
  runs_ext h fun p h0 h1 => by
    unfold fnum nth told
    rw [tabF_at _ _ _ (by omega)]
    rfl
theorem ix_at {ix dt : List Int} (h : TrieOk ix dt) (k : Nat) (hk : k < 512) : ∃ x : Nat, nth ix k = (x : Int) ∧ x < 512 ∧ (x + 1) * 64 ≤ dt.length := by
  obtain ⟨h1, h2, h3, _, h5⟩ := h
  have hb := (turns_bd ix 0 _ h5).2 k (by omega)
  have hn : nth ix k = ix.getD k 0 := rfl
  rw [← hn] at hb
  exact ⟨(nth ix k).toNat, by omega, by omega, by omega⟩
end Go.Proofs.Ytnaebifmnhgjiaa
