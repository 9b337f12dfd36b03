/- Several texts in one. -/
import Derived.Test.YtklakcnapdhcnaaDoorRdpZ
import Derived.Deep.CutBlock
/- A text of passes, read by the program: all lines. -/
namespace Go.Proofs.YtklakcnapdhcnaaDoor.Pas
open Go.RowKit
set_option linter.unusedVariables false
/-- What passesRead answers. -/
def ReadI (s : ByteArray) (w : World) (e : Ending) (w' : World) : Prop :=
  Below w.heap.size w w' ∧ ((∃ n v, rd s (s.size + 1) 0 [] 0 = (none, n) ∧ 0 ≤ n ∧ e = .returned (.tuple #[v, .int .i64 n])) ∨ ∃ P n v, rd s (s.size + 1) 0 [] 0 = (some P, n) ∧ e = .returned (.tuple #[v, .int .i64 (-1)]) ∧ PaG w.heap.size w'.heap.size w' v P ∧ Small P)
theorem ext_allA (s : ByteArray) : s.extract 0 s.size = s := by apply ByteArray.ext; simp
def szOf : Value → Nat
  | .string b => b.size
  | _ => 0
theorem ctA_in {t : ByteArray} {p : Nat} (h : fnl t p < t.size) : ctA t p = t.extract p (fnl t p) := if_pos h
theorem ctB_in {t : ByteArray} {p : Nat} (h : fnl t p < t.size) : ctB t p = t.extract (fnl t p + 1) t.size := if_pos h
theorem ext_ne {s : ByteArray} {p : Nat} (h : p < s.size) : ((s.extract p s.size).toList == ([] : List UInt8)) = false := by
  rw [beq_eq_false_iff_ne]
  intro e
  rw [Go.ByteArray.toList_eq] at e
  have := congrArg List.length e
  simp at this
  have h2 : s.data.size = s.size := rfl
  omega
theorem ext_no {s : ByteArray} {p : Nat} (h : ¬ p < s.size) : ((s.extract p s.size).toList == ([] : List UInt8)) = true := by
  have e : s.extract p s.size = ⟨#[]⟩ := by
    apply ByteArray.ext
    have h2 : s.data.size = s.size := rfl
    simp
    omega
  rw [e, Go.ByteArray.toList_eq]
  rfl
set_option maxRecDepth 100000 in
set_option maxHeartbeats 8000000 in
theorem read_I (s : ByteArray) (w : World) (hs : s.size ≤ 65536) (hN : NamAt w) :
    Calls Tryd.prog 18 #[.string s] w fun e w' => ReadI s w e w' := by
  have CC := hide (fun p W h => cut_any s p W (by omega) h)
  have CL := hide (fun V P l W h1 h2 h3 h4 h5 => line_I w.heap.size V P l W h1 h2 h3 h4 h5)
  have HN := hide (fun W (h : Below w.heap.size w W) => hN.below h)
  have R0 := hide (Rd.start s)
  have G0 : Hid (PaG w.heap.size w.heap.size w (.slice none 0 0) []) := hide ⟨fun _ => none, [], World.ownsRow_nil w _ _ _, fun k e => (by cases e), fun i hi => (by simp at hi), fun i j k hi => (by simp at hi)⟩
  have e0 := (ext_allA s).symm
  clear hN
  go_enter Tryd.func18, Tryd.ntmps18
  go_wp2
  go_loopw [0, 2, 4] (fun tv pv av wr => ∃ (p : Nat) (P : List Pa) (n : Int) (k : Nat), tv = .string (s.extract p s.size) ∧ av = .int .i64 n ∧ Hid (Rd s p P n k) ∧ Hid (PaG w.heap.size wr.heap.size wr pv P) ∧ Hid (Below w.heap.size w wr)) (fun tv _ _ _ => szOf tv)
  case atStart => exact ⟨0, [], 0, _, by rw [← e0], rfl, R0, G0, hide (Below.refl _ _)⟩
  case round =>
    obtain ⟨p, P, n, k, rfl, rfl, HR, HG, HB⟩ := hrel
    clear R0 G0 e0
    have hps := (unhide HR).h
    have hn0 := (unhide HR).n0
    have hn1 := (unhide HR).n1
    by_cases hlt : p < s.size
    · have hq := ext_ne hlt
      have C1 := hide ((unhide CC) p wr hps)
      by_cases hf : fnl s p < s.size
      · rw [decide_eq_true hf, ctA_in hf, ctB_in hf] at C1
        have hfp := (fnl_spec s _ p (Nat.le_refl _) hps).1
        have hlz : (s.extract p (fnl s p)).size ≤ 65536 := by rw [exl_size _ _ _ (by omega)]; omega
        have HX := hide (fun Q h => (unhide HR).next (Q := Q) hs hlt hf h)
        have HO := hide (fun h => (unhide HR).none hlt hf h)
        have SM := (unhide HR).m.mono (show p ≤ 65536 by omega)
        have hsz1 : szOf (.string (s.extract (fnl s p + 1) s.size)) < szOf (.string (s.extract p s.size)) := by
          show (s.extract (fnl s p + 1) s.size).size < (s.extract p s.size).size
          rw [exl_size _ _ _ (Nat.le_refl _), exl_size _ _ _ (Nat.le_refl _)]; omega
        have HZ := hide hsz1
        clear hsz1
        generalize hln : s.extract p (fnl s p) = l at *
        go_wp2_with fail
        refine (unhide C1).mono ?_
        rintro e w1 ⟨rfl, hb1⟩
        have B1 := hide ((unhide HB).trans (hb1.mono (unhide HB).size))
        have G1 := hide (((unhide HG).below hb1).up hb1.size)
        clear hb1 C1 HG
        go_wp2_with fail
        refine ((unhide CL) _ P l _ (unhide B1).size (unhide G1) hlz SM ((unhide HN) _ (unhide B1))).mono ?_
        rintro e w2 ⟨hb2, hno, hyes⟩
        have B2 := hide ((unhide B1).trans hb2)
        clear hb2 SM
        cases hw : wl l P with
        | none =>
          obtain ⟨v', rfl⟩ := hno hw
          have HE := hide ((unhide HO) hw)
          clear hno hyes HX HO hw
          go_wp2
          go_ret2
          exact ⟨unhide B2, .inl ⟨_, _, unhide HE, hn0, rfl⟩⟩
        | some Q =>
          obtain ⟨v', rfl, hg2⟩ := hyes Q hw
          have G2 := hide hg2
          obtain ⟨k', hr'⟩ := (unhide HX) Q hw
          have HR2 := hide hr'
          obtain ⟨va, vc, rfl⟩ := hg2.form
          clear hno hyes HX HO hw hg2 hr'
          go_wp2
          go_roundw
          case rel => exact ⟨_, Q, n + 1, k', rfl, rfl, HR2, G2, B2⟩
          case measure => exact unhide HZ
      · rw [decide_eq_false hf] at C1
        have HE := hide ((unhide HR).opens hlt hf)
        go_wp2_with fail
        refine (unhide C1).mono ?_
        rintro e w1 ⟨rfl, hb1⟩
        have B1 := hide ((unhide HB).trans (hb1.mono (unhide HB).size))
        clear hb1 C1
        go_wp2
        go_ret2
        exact ⟨unhide B1, .inl ⟨_, _, unhide HE, hn0, rfl⟩⟩
    · have hq := ext_no hlt
      have HE := hide ((unhide HR).last hlt)
      have SM := hide ((unhide HR).m.small (by omega))
      go_wp2
      go_ret2
      exact ⟨unhide HB, .inr ⟨P, _, _, unhide HE, rfl, unhide HG, unhide SM⟩⟩
theorem three_putR {w : World} {g : Nat} {x y z : Value} {T : TypeId} (h : w.heap[g]? = some (.cells #[x, y, z] T (0, 0))) (a b c : Value) :
    (w.setCell ⟨g, 0, none⟩ a).cell? ⟨g, 0, none⟩ = some a ∧ ((w.setCell ⟨g, 0, none⟩ a).setCell ⟨g, 1, none⟩ b).cell? ⟨g, 1, none⟩ = some b ∧
    (((w.setCell ⟨g, 0, none⟩ a).setCell ⟨g, 1, none⟩ b).setCell ⟨g, 2, none⟩ c).cell? ⟨g, 2, none⟩ = some c := by
  have h0 := heap_setCell_same w g 0 _ T a h
  have h1 := heap_setCell_same _ g 1 _ T b h0
  have h2 := heap_setCell_same _ g 2 _ T c h1
  exact ⟨(three_cellsR h0).1.1, (three_cellsR h1).1.2.1, (three_cellsR h2).1.2.2⟩
theorem three_belowR {w0 w : World} {B g : Nat} (h : Below B w0 w) (hg : B ≤ g) (a b c : Value) : Below B w0 (((w.setCell ⟨g, 0, none⟩ a).setCell ⟨g, 1, none⟩ b).setCell ⟨g, 2, none⟩ c) :=
  ((h.setCell (p := ⟨g, 0, none⟩) hg _).setCell (p := ⟨g, 1, none⟩) hg _).setCell (p := ⟨g, 2, none⟩) hg _
theorem three_other (w : World) (g k : Nat) (h : k ≠ g) (a b c : Value) : (((w.setCell ⟨g, 0, none⟩ a).setCell ⟨g, 1, none⟩ b).setCell ⟨g, 2, none⟩ c).heap[k]? = w.heap[k]? := by
  rw [heap_setCell_other _ ⟨g, 2, none⟩ k _ h, heap_setCell_other _ ⟨g, 1, none⟩ k _ h, heap_setCell_other _ ⟨g, 0, none⟩ k _ h]
/-- What ReadPasses tells of any text. -/
def rdB (s : ByteArray) : Int × Int × List Pa := if s.size ≤ 65536 then rdA s else (2, 0, [])
/-- An answer of ReadPasses. -/
def AnsI (s : ByteArray) (w : World) (e : Ending) (w' : World) : Prop :=
  Below w.heap.size w w' ∧ ∃ v, e = .returned (.agg #[.int .i64 (rdB s).1, .int .i64 (rdB s).2.1, v]) ∧ PaG w.heap.size w'.heap.size w' v (rdB s).2.2
theorem PaG.nilv (lo hi : Nat) (w : World) : PaG lo hi w (.slice none 0 0) [] := ⟨fun _ => none, [], World.ownsRow_nil w _ _ _, fun k e => (by cases e), fun i hi => (by simp at hi), fun i j k hi => (by simp at hi)⟩
set_option maxRecDepth 100000 in
set_option maxHeartbeats 8000000 in
theorem implR (s : ByteArray) (w : World) (hs : s.size ≤ 1048576) (hN : NamAt w) (hT : Tabs w) :
    Calls Tryd.prog 7 #[.string s] w fun e w' => AnsI s w e w' := by
  by_cases hl : s.size ≤ 65536
  · have hl' : ¬ (65536 : Int) < (s.size : Int) := by omega
    have hN1 := hN.below (al1 w (.cells #[.int .i64 0, .int .i64 0, .slice none 0 0] 27))
    have CR := hide (read_I s (w.alloc (.cells #[.int .i64 0, .int .i64 0, .slice none 0 0] 27)) hl hN1)
    have CF := hide (fun V P B W h1 h2 (hb : Below w.heap.size w W) => implPF V P B W h1 h2 (Utf8Tabs_below hT hb))
    have B0 := al1 w (.cells #[.int .i64 0, .int .i64 0, .slice none 0 0] 27)
    have H0 := heap_new w (.cells #[.int .i64 0, .int .i64 0, .slice none 0 0] 27)
    have hsz : (w.alloc (.cells #[.int .i64 0, .int .i64 0, .slice none 0 0] 27)).heap.size = w.heap.size + 1 := by simp
    have HD : Hid (rdB s = rdA s) := hide (if_pos hl)
    have HA1 := hide (fun n h => rdA_no (s := s) (n := n) h)
    have HA2 := hide (fun P n h h2 => rdA_ok (s := s) (P := P) (n := n) h h2)
    have HA3 := hide (fun P n h h2 => rdA_bad (s := s) (P := P) (n := n) h h2)
    clear hN hN1 hT hs hl
    go_enter Tryd.func7, Tryd.ntmps7
    go_wp2_with fail
    refine (unhide CR).mono ?_
    rintro e w1 ⟨hb1, hrd⟩
    have B1 := hide (B0.trans (hb1.mono (by omega)))
    have HH := (hb1.block w.heap.size (by omega)).trans H0
    have hs1 := hb1.size
    clear hb1 CR
    rcases hrd with ⟨n, v, hr, hn0, rfl⟩ | ⟨P, n, v, hr, rfl, hg, hsm⟩
    · have HE := hide ((unhide HD).trans ((unhide HA1) n hr))
      obtain ⟨⟨c0, c1, c2⟩, ⟨z0, z1, z2⟩⟩ := three_cellsR HH
      obtain ⟨p0, p1, p2⟩ := three_putR HH (.int .i64 3) (.int .i64 n) (.slice none 0 0)
      have B2 := hide (three_belowR (unhide B1) (Nat.le_refl _) (.int .i64 3) (.int .i64 n) (.slice none 0 0))
      clear HH B0 H0 hr
      go_wp2
      try simp only [Exit.inBlock, Exit.then]
      refine bodyPost_ret (by simp [results, Tryd.results7, go_sem, p0, p1, p2]; try rfl) rfl ?_
      exact ⟨unhide B2, _, by rw [unhide HE], by rw [unhide HE]; exact PaG.nilv _ _ _⟩
    · have C2 := hide ((unhide CF) v P _ w1 hg.pa hsm (unhide B1))
      obtain ⟨va, vc, rfl⟩ := hg.form
      have G1 := hide hg
      have HO := hide (fun h => (unhide HD).trans ((unhide HA2) P n hr h))
      have HB := hide (fun h => (unhide HD).trans ((unhide HA3) P n hr h))
      rcases flt_iff P with ⟨hf, hrt⟩ | ⟨hf, hrt⟩
      · rw [hf] at C2
        have HE := hide ((unhide HO) hrt)
        clear hg hr hf hrt HO HB HA1 HA2 HA3
        go_wp2_with fail
        refine (unhide C2).mono ?_
        rintro e w2 ⟨rfl, hb2⟩
        have HH2 := (hb2.block w.heap.size (by omega)).trans HH
        have B2' := (unhide B1).trans (hb2.mono (by omega))
        obtain ⟨⟨c0, c1, c2⟩, ⟨z0, z1, z2⟩⟩ := three_cellsR HH2
        obtain ⟨p0, p1, p2⟩ := three_putR HH2 (.int .i64 0) (.int .i64 0) (.slice va P.length vc)
        have B2 := hide (three_belowR B2' (Nat.le_refl _) (.int .i64 0) (.int .i64 0) (.slice va P.length vc))
        have G2 := hide ((((unhide G1).below hb2).up hb2.size).at (w' := ((w2.setCell ⟨w.heap.size, 0, none⟩ (.int .i64 0)).setCell ⟨w.heap.size, 1, none⟩ (.int .i64 0)).setCell ⟨w.heap.size, 2, none⟩ (.slice va P.length vc)) (fun k h1 h2 h3 => three_other w2 w.heap.size k (by omega) _ _ _))
        clear HH HH2 B0 H0 B2' hb2
        go_wp2
        try simp only [Exit.inBlock, Exit.then]
        refine bodyPost_ret (by simp [results, Tryd.results7, go_sem, p0, p1, p2]; try rfl) rfl ?_
        refine ⟨unhide B2, _, by rw [unhide HE], ?_⟩
        rw [unhide HE]
        exact ((unhide G2).up (by simp)).down (by omega)
      · rw [hf] at C2
        have HE := hide ((unhide HB) hrt)
        clear hg hr hf hrt HO HB HA1 HA2 HA3
        go_wp2_with fail
        refine (unhide C2).mono ?_
        rintro e w2 ⟨rfl, hb2⟩
        have HH2 := (hb2.block w.heap.size (by omega)).trans HH
        have B2' := (unhide B1).trans (hb2.mono (by omega))
        obtain ⟨⟨c0, c1, c2⟩, ⟨z0, z1, z2⟩⟩ := three_cellsR HH2
        obtain ⟨p0, p1, p2⟩ := three_putR HH2 (.int .i64 1) (.int .i64 0) (.slice none 0 0)
        have B2 := hide (three_belowR B2' (Nat.le_refl _) (.int .i64 1) (.int .i64 0) (.slice none 0 0))
        clear HH HH2 B0 H0 B2' hb2 G1
        go_wp2
        try simp only [Exit.inBlock, Exit.then]
        refine bodyPost_ret (by simp [results, Tryd.results7, go_sem, p0, p1, p2]; try rfl) rfl ?_
        exact ⟨unhide B2, _, by rw [unhide HE], by rw [unhide HE]; exact PaG.nilv _ _ _⟩
  · have hl' : (65536 : Int) < (s.size : Int) := by omega
    have HE : Hid (rdB s = (2, 0, [])) := hide (if_neg hl)
    have B0 := hide (al1 w (.cells #[.int .i64 2, .int .i64 0, .slice none 0 0] 27))
    clear hN hT
    go_enter Tryd.func7, Tryd.ntmps7
    go_wp2
    go_returns
    exact ⟨unhide B0, _, by rw [unhide HE], by rw [unhide HE]; exact PaG.nilv _ _ _⟩
end Go.Proofs.YtklakcnapdhcnaaDoor.Pas
/- Lines of passes, as the specification reads them, in plain numbers. -/
namespace Go.Proofs.YtklakcnapdhcnaaDoor.Pas
open Go.RowKit
set_option linter.unusedVariables false
theorem fnl_ext (s : ByteArray) (p : Nat) (hp : p ≤ s.size) : fnl s p = p + fnl (s.extract p s.size) 0 := by
  have hz := exl_size s p s.size (Nat.le_refl _)
  obtain ⟨a, b, c, d⟩ := fnl_spec (s.extract p s.size) _ 0 (Nat.le_refl _) (Nat.zero_le _)
  have hb : ∀ k, k < s.size - p → bt (s.extract p s.size) k = bt s (p + k) := fun k hk => bt_ext s p k (by omega)
  refine fnl_is s _ (by omega) (fun h => ?_) _ p (Nat.le_refl _) (by omega) (fun k h1 h2 => ?_)
  · rw [← hb _ (by omega)]
    exact d (by omega)
  · have := c (k - p) (Nat.zero_le _) (by omega)
    rw [hb _ (by omega), show p + (k - p) = k by omega] at this
    exact this
/-- Whether a line is the one of a name. -/
def cmB (l : ByteArray) (m : Nat) : Bool := (l.toList == ((⟨#[58]⟩ : ByteArray) ++ strOfNums (nam (m : Int))).toList)
def nrmK (l : ByteArray) : Nat → Int
  | 0 => -1
  | m + 1 => if cmB l m = true then (m : Int) else nrmK l m
theorem cons_bytes (l : ByteArray) : colB l ↔ ∃ r, l.data.toList = 58 :: r := by
  constructor
  · rintro ⟨h1, h2⟩
    have hl : l.data.toList.length = l.size := by simp
    cases hd : l.data.toList with
    | nil => rw [hd] at hl; simp at hl; omega
    | cons x r =>
      refine ⟨r, ?_⟩
      have h3 : l.data.toList[0]? = some x := by rw [hd]; rfl
      have h4 := bt_get l 0 h1
      have h5 : l.data.toList[0]? = some (l[0]'h1) := by
        rw [Array.getElem?_toList]
        exact Array.getElem?_eq_getElem h1
      rw [h3] at h5
      injection h5 with h5
      have h6 : x.toNat = 58 := by rw [h5, h4]; exact h2
      rw [show x = 58 from UInt8.toNat_inj.1 h6]
  · rintro ⟨r, hr⟩
    have hl : l.data.toList.length = l.size := by simp
    rw [hr] at hl
    have h1 : 0 < l.size := by rw [← hl]; simp
    refine ⟨h1, ?_⟩
    rw [← bt_get l 0 h1]
    have h5 : l.data.toList[0]? = some (l[0]'h1) := by
      rw [Array.getElem?_toList]
      exact Array.getElem?_eq_getElem h1
    rw [hr] at h5
    injection h5 with h5
    rw [← h5]
    rfl
theorem cm_iff (l : ByteArray) (m : Nat) (hm : m < 5) : cmB l m = true ↔ colB l ∧ l.extract 1 l.size = nmS m := by
  rw [cons_bytes]
  unfold cmB
  rw [← nam_str m hm, beq_iff_eq, Go.ByteArray.toList_eq, Go.ByteArray.toList_eq]
  have e1 : ((⟨#[58]⟩ : ByteArray) ++ nmS m).data.toList = 58 :: (nmS m).data.toList := by simp
  have e2 : (l.extract 1 l.size).data.toList = l.data.toList.drop 1 := by
    simp
    exact List.take_of_length_le (by simp)
  rw [e1]
  constructor
  · intro h
    refine ⟨⟨_, h⟩, ?_⟩
    apply ByteArray.ext
    apply Array.toList_inj.1
    rw [e2, h]
    rfl
  · rintro ⟨⟨r, hr⟩, h2⟩
    rw [← h2, e2, hr]
    rfl
theorem nrmK_no {l : ByteArray} (h : ¬ colB l) : nrmK l 5 = -1 := by
  have : ∀ m, m ≤ 5 → nrmK l m = -1 := by
    intro m
    induction m with
    | zero => intro _; rfl
    | succ m ih =>
      intro hm
      unfold nrmK
      rw [if_neg (fun e => h ((cm_iff l m (by omega)).1 e).1), ih (by omega)]
  exact this 5 (Nat.le_refl _)
theorem nmS_inj {a b : Nat} (ha : a < 5) (hb : b < 5) (h : nmS a = nmS b) : a = b := by
  have hx : (nmS a).data.toList = (nmS b).data.toList := by rw [h]
  have h1 : a = 0 ∨ a = 1 ∨ a = 2 ∨ a = 3 ∨ a = 4 := by omega
  have h2 : b = 0 ∨ b = 1 ∨ b = 2 ∨ b = 3 ∨ b = 4 := by omega
  rcases h1 with rfl | rfl | rfl | rfl | rfl <;> rcases h2 with rfl | rfl | rfl | rfl | rfl <;> first | rfl | (exfalso; revert hx; decide)
theorem nrmK_yes {l : ByteArray} (h : colB l) : nrmK l 5 = nrm (l.extract 1 l.size) := by
  have hc : ∀ m, m < 5 → (cmB l m = true ↔ l.extract 1 l.size = nmS m) := fun m hm => by rw [cm_iff l m hm]; exact ⟨fun e => e.2, fun e => ⟨h, e⟩⟩
  generalize l.extract 1 l.size = x at *
  unfold nrm
  by_cases h0 : x = nmS 0
  · rw [if_pos h0]
    subst h0
    simp only [nrmK]
    rw [if_neg (fun e => absurd (nmS_inj (by omega) (by omega) ((hc 4 (by omega)).1 e)) (by omega)), if_neg (fun e => absurd (nmS_inj (by omega) (by omega) ((hc 3 (by omega)).1 e)) (by omega)), if_neg (fun e => absurd (nmS_inj (by omega) (by omega) ((hc 2 (by omega)).1 e)) (by omega)), if_neg (fun e => absurd (nmS_inj (by omega) (by omega) ((hc 1 (by omega)).1 e)) (by omega)), if_pos ((hc 0 (by omega)).2 rfl)]
    rfl
  · rw [if_neg h0]
    have k0 : ¬ cmB l 0 = true := fun e => h0 ((hc 0 (by omega)).1 e)
    by_cases h1 : x = nmS 1
    · rw [if_pos h1]
      subst h1
      simp only [nrmK]
      rw [if_neg (fun e => absurd (nmS_inj (by omega) (by omega) ((hc 4 (by omega)).1 e)) (by omega)), if_neg (fun e => absurd (nmS_inj (by omega) (by omega) ((hc 3 (by omega)).1 e)) (by omega)), if_neg (fun e => absurd (nmS_inj (by omega) (by omega) ((hc 2 (by omega)).1 e)) (by omega)), if_pos ((hc 1 (by omega)).2 rfl)]
      rfl
    · rw [if_neg h1]
      have k1 : ¬ cmB l 1 = true := fun e => h1 ((hc 1 (by omega)).1 e)
      by_cases h2 : x = nmS 2
      · rw [if_pos h2]
        subst h2
        simp only [nrmK]
        rw [if_neg (fun e => absurd (nmS_inj (by omega) (by omega) ((hc 4 (by omega)).1 e)) (by omega)), if_neg (fun e => absurd (nmS_inj (by omega) (by omega) ((hc 3 (by omega)).1 e)) (by omega)), if_pos ((hc 2 (by omega)).2 rfl)]
        rfl
      · rw [if_neg h2]
        have k2 : ¬ cmB l 2 = true := fun e => h2 ((hc 2 (by omega)).1 e)
        by_cases h3 : x = nmS 3
        · rw [if_pos h3]
          subst h3
          simp only [nrmK]
          rw [if_neg (fun e => absurd (nmS_inj (by omega) (by omega) ((hc 4 (by omega)).1 e)) (by omega)), if_pos ((hc 3 (by omega)).2 rfl)]
          rfl
        · rw [if_neg h3]
          have k3 : ¬ cmB l 3 = true := fun e => h3 ((hc 3 (by omega)).1 e)
          by_cases h4 : x = nmS 4
          · rw [if_pos h4]
            simp only [nrmK]
            rw [if_pos ((hc 4 (by omega)).2 h4)]
            rfl
          · rw [if_neg h4]
            have k4 : ¬ cmB l 4 = true := fun e => h4 ((hc 4 (by omega)).1 e)
            simp only [nrmK]
            rw [if_neg k4, if_neg k3, if_neg k2, if_neg k1, if_neg k0]
theorem sgS_bad (t : ByteArray) (c i : Nat) : sgS t c (i, true) = (i, true) := by unfold sgS; rw [if_neg (fun e => Bool.false_ne_true e.1.symm)]
theorem tS_bad (t : ByteArray) (i : Nat) : tS t (i, true) = ([], i, true) := by unfold tS; rw [if_pos rfl]
/-- A line that begins with a colon is no rule. -/
theorem ruS_col {l : ByteArray} (h : colB l) : (ruS l).2 = false := by
  have h1 : txS l 0 = ([], 0, false) := txS_sgn h.1 (fun e => by have := h.2.symm.trans e.1; omega) (.inl (by rw [h.2]; decide))
  have a : tS l (0, false) = ([], 0, false) := by unfold tS; rw [if_neg Bool.false_ne_true]; exact h1
  have b : sgS l 91 (0, false) = (0, true) := by unfold sgS; rw [if_neg (fun e => by have := h.2.symm.trans e.2.2; omega)]
  unfold ruS
  simp only [a, b, tS_bad, sgS_bad]
  unfold agS
  rw [if_neg (fun e => Bool.false_ne_true e.1.symm)]
  rfl
theorem wlS_pass {l : ByteArray} {P : List Pa} (h : 0 ≤ nrmK l 5) : wl l P = some (P ++ [([], nrmK l 5)]) := by
  by_cases hc : colB l
  · rw [nrmK_yes hc] at h ⊢
    exact wl_pass hc h
  · rw [nrmK_no hc] at h; omega
theorem wlS_rule {l : ByteArray} {P : List Pa} (hn : noNl l) (h1 : (ruS l).2 = true) (h2 : 0 < P.length) : wl l P = some (addR P (ruS l).1) := by
  by_cases hc : colB l
  · rw [ruS_col hc] at h1; cases h1
  · obtain ⟨e1, e2⟩ := ru_same l hn
    rw [e1] at h1
    rw [e2 h1]
    exact wl_rule hc h1 h2
theorem wlS_none {l : ByteArray} {P : List Pa} (hn : noNl l) (h : ¬ 0 ≤ nrmK l 5) (h1 : ¬ ((ruS l).2 = true ∧ 0 < P.length)) : wl l P = none := by
  by_cases hc : colB l
  · rw [nrmK_yes hc] at h
    exact wl_none hc h
  · rw [(ru_same l hn).1] at h1
    exact wl_no hc h1
theorem nrmK_rng (l : ByteArray) (m : Nat) : -1 ≤ nrmK l m ∧ nrmK l m < m := by
  induction m with
  | zero => unfold nrmK; omega
  | succ m ih =>
    unfold nrmK
    split <;> omega
theorem line_noNl (s : ByteArray) (p : Nat) (hp : p ≤ s.size) : noNl (s.extract p (fnl s p)) := by
  obtain ⟨a, b, c, d⟩ := fnl_spec s _ p (Nat.le_refl _) hp
  intro k hk
  rw [exl_size _ _ _ b] at hk
  have : bt (s.extract p (fnl s p)) k = bt s (p + k) := by
    rw [← bt_get _ k (by rw [exl_size _ _ _ b]; exact hk), ← bt_get s (p + k) (by omega)]
    congr 1
    exact ByteArray.getElem_extract _
  rw [this]
  exact c (p + k) (by omega) (by omega)
end Go.Proofs.YtklakcnapdhcnaaDoor.Pas
/- A text of passes, read by the specification. -/
namespace Go.Proofs.YtklakcnapdhcnaaDoor.Pas
open Go.RowKit
set_option linter.unusedVariables false
theorem colon_add (m : Nat) (W : World) : (Op.stringOp .add ⟨#[58]⟩ (strOfNums (nam (m : Int)))).run Tryd.prog W = .ok (.string ((⟨#[58]⟩ : ByteArray) ++ strOfNums (nam (m : Int)))) W := by
  have e : (⟨#[58]⟩ : ByteArray) = strOfNums [58] := rfl
  have h5 : (nam (m : Int)).length ≤ 4 := by
    by_cases hm : m < 5
    · have : m = 0 ∨ m = 1 ∨ m = 2 ∨ m = 3 ∨ m = 4 := by omega
      rcases this with rfl | rfl | rfl | rfl | rfl <;> decide
    · unfold nam
      repeat' split
      all_goals simp
  have := str_add [58] (nam (m : Int)) (by simp; omega) W
  rw [e, this]
  congr 2
/-- All that the loop knows. -/
structure Lq (s : ByteArray) (w wr : World) (v : Value) (p : Nat) (P : List Pa) (n : Int) (k : Nat) : Prop where
  r : Rd s p P n k
  g : PaG (w.heap.size + 1) wr.heap.size wr v P
  b : Below w.heap.size w wr
  x : wr.heap[w.heap.size]? = some (.cells #[.int .i64 0, .int .i64 0, .slice none 0 0] 27 (0, 0))
theorem Lq.lt {s : ByteArray} {w wr : World} {v : Value} {p : Nat} {P : List Pa} {n : Int} {k : Nat} (h : Lq s w wr v p P n k) : w.heap.size < wr.heap.size := (Array.getElem?_eq_some_iff.1 h.x).1
theorem Lq.below {s : ByteArray} {w wr w' : World} {v : Value} {p : Nat} {P : List Pa} {n : Int} {k : Nat} (h : Lq s w wr v p P n k) (hb : Below wr.heap.size wr w') : Lq s w w' v p P n k :=
  ⟨h.r, (h.g.below hb).up hb.size, h.b.trans (hb.mono (Nat.le_of_lt h.lt)), (hb.block _ h.lt).trans h.x⟩
theorem Lq.next {s : ByteArray} {w wr w' : World} {v v' : Value} {p : Nat} {P Q : List Pa} {n : Int} {k : Nat} (h : Lq s w wr v p P n k) (hb : Below (w.heap.size + 1) wr w') (hs : s.size ≤ 65536) (h0 : p < s.size) (h1 : fnl s p < s.size) (h2 : wl (s.extract p (fnl s p)) P = some Q) (hg : PaG (w.heap.size + 1) w'.heap.size w' v' Q) : ∃ k', Lq s w w' v' (fnl s p + 1) Q (n + 1) k' := by
  obtain ⟨k', hr⟩ := h.r.next hs h0 h1 h2
  exact ⟨k', hr, hg, h.b.trans (hb.mono (Nat.le_succ _)), (hb.block _ (Nat.lt_succ_self _)).trans h.x⟩
theorem ext_ext0 (s : ByteArray) (p e : Nat) (h : p + e ≤ s.size) : (s.extract p s.size).extract 0 e = s.extract p (p + e) := ext_to s p e h
theorem ext_ext1 (s : ByteArray) (p e : Nat) : (s.extract p s.size).extract e (s.extract p s.size).size = s.extract (p + e) s.size := by
  apply ByteArray.ext
  have h : s.data.size = s.size := rfl
  simp
  congr 1
  omega
set_option maxRecDepth 100000 in
set_option maxHeartbeats 16000000 in
theorem specR (s : ByteArray) (w : World) (hs : s.size ≤ 1048576) :
    Calls Tryd.prog 10 #[.string s] w fun e w' => AnsI s w e w' := by
  by_cases hl : s.size ≤ 65536
  · have hl' : ¬ (65536 : Int) < (s.size : Int) := by omega
    obtain ⟨i0, hi, hz0, hz1, hz2q⟩ := info_parts infoWr
    obtain ⟨j0, hj, hy0, hy1, hy2⟩ := info_parts infoPass
    have HD : Hid (rdB s = rdA s) := hide (if_pos hl)
    have HA1 := hide (fun n h => rdA_no (s := s) (n := n) h)
    have HA2 := hide (fun P n h h2 => rdA_ok (s := s) (P := P) (n := n) h h2)
    have HA3 := hide (fun P n h h2 => rdA_bad (s := s) (P := P) (n := n) h h2)
    have CF := hide (fun V P B W h1 h2 => specPF V P B W h1 h2)
    have CU := hide (fun l W h => ruleS_any l W h)
    have CW := hide (fun m h W => word_any m h W)
    have L0 : Hid (Lq s w ((w.alloc (.cells #[.int .i64 0, .int .i64 0, .slice none 0 0] 27)).alloc (.cells #[] 37)) (.slice (some ⟨w.heap.size + 1, 0, none⟩) 0 0) 0 [] 0 (s.size + 1)) := hide (by
      have hz : (w.alloc (.cells #[.int .i64 0, .int .i64 0, .slice none 0 0] 27)).heap.size = w.heap.size + 1 := by simp
      refine ⟨Rd.start s, ⟨fun _ => none, [], ?_, fun k e => ?_, fun i hi => (by simp at hi), fun i j k hi => (by simp at hi)⟩, (al1 w _).trans ((al1 _ _).mono (by simp)), ?_⟩
      · have := World.ownsRow_lit (w.alloc (.cells #[.int .i64 0, .int .i64 0, .slice none 0 0] 27)) #[] 0 (base := w.heap.size + 1) (e := 37) (size := 2) (by rw [hz]; exact Nat.le_refl _) (by unfold maxLen; omega) rfl
        rw [hz] at this
        exact this
      · cases e
        exact ⟨by simp, fun i hi => (by simp at hi)⟩
      · rw [Below.heap_alloc _ _ _ (by simp)]
        exact heap_new w _)
    have e0 := hide (ext_allA s).symm
    clear hs
    go_enter Tryd.func10, Tryd.ntmps10
    go_wp2
    go_loopw [0, 3, 4] (fun tv pv av wr => ∃ (p : Nat) (P : List Pa) (n : Int) (k : Nat), tv = .string (s.extract p s.size) ∧ av = .int .i64 n ∧ Hid (Lq s w wr pv p P n k)) (fun tv _ _ _ => szOf tv)
    case atStart => exact ⟨0, [], 0, _, by rw [← unhide e0], rfl, L0⟩
    case round =>
      obtain ⟨p, P, n, k, rfl, rfl, HL⟩ := hrel
      clear L0 e0
      have hps := (unhide HL).r.h
      have hn0 := (unhide HL).r.n0
      have hn1 := (unhide HL).r.n1
      have hwl := (unhide HL).lt
      by_cases hlt : p < s.size
      · have hq := ext_ne hlt
        have HFN := hide (fnl_ext s p hps)
        have hTz : (s.extract p s.size).size = s.size - p := exl_size s p s.size (Nat.le_refl _)
        obtain ⟨T, hT⟩ : ∃ T, T = s.extract p s.size := ⟨_, rfl⟩
        have HT := hide hT
        have hTz' := hide hTz
        have hT6 : T.size ≤ 65536 := by rw [hT, hTz]; omega
        rw [← hT] at hq ⊢
        clear hT hTz
        obtain ⟨wo, hwo⟩ : ∃ wo : World, wo = wr := ⟨wr, rfl⟩
        rw [← hwo] at HL hwl ⊢
        clear hwo
        go_upto_block 2 with fail
        go_cut [5] from 15 to 92 (fun ev wx => ev = .int .i64 ((fnl T 0 : Nat) : Int) ∧ wx = wo)
        case first =>
          go_wp2_with fail
          go_loopw [5] (fun ev wx => ∃ e : Nat, e ≤ T.size ∧ ev = .int .i64 (e : Int) ∧ Hid (∀ k, k < e → ¬ bt T k = 10) ∧ wx = wo) (fun ev _ => T.size - (intOf ev).toNat)
          case atStart => exact ⟨0, Nat.zero_le _, rfl, hide (fun k h => by omega), rfl⟩
          case round =>
            obtain ⟨e, hel, rfl, HK, rfl⟩ := hrel
            have h0e : (0 : Int) ≤ (e : Int) := by omega
            by_cases hlt2 : e < T.size
            · have hlt2' : (e : Int) < (T.size : Int) := by omega
              have g1 : ∀ h, (T[e]'h).toNat = bt T e := fun h => bt_get T e h
              by_cases hb : bt T e = 10
              · have hb' : ((bt T e : Int) != 10) = false := by rw [hb]; rfl
                have hfn : fnl T 0 = e := fnl_is T e hel (fun _ => hb) _ 0 (Nat.le_refl _) (Nat.zero_le _) (fun k _ h => (unhide HK) k h)
                go_wp2
                go_meet
                exact ⟨by rw [hfn], rfl⟩
              · have hb' : ((bt T e : Int) != 10) = true := by rw [bne_iff_ne]; omega
                have HK2 := hide (fun k (h : k < e + 1) => (show ¬ bt T k = 10 from by
                  by_cases c : k = e
                  · rw [c]; exact hb
                  · exact (unhide HK) k (by omega)))
                go_wp2
                go_roundw
                case rel => exact ⟨e + 1, by omega, by go_num, HK2, trivial⟩
                case measure => simp [intOf]; omega
            · have hlt2' : ¬ (e : Int) < (T.size : Int) := by omega
              have hfn : fnl T 0 = e := fnl_is T e hel (fun h => by omega) _ 0 (Nat.le_refl _) (Nat.zero_le _) (fun k _ h => (unhide HK) k h)
              go_wp2
              go_meet
              exact ⟨by rw [hfn], rfl⟩
        case rest =>
          obtain ⟨he, hw⟩ := hcut
          subst he
          rw [hw]
          clear hw wc
          obtain ⟨E, hE⟩ : ∃ E, E = fnl T 0 := ⟨_, rfl⟩
          have HFE : Hid (fnl s p = p + E) := hide (by rw [unhide HFN, ← unhide HT, hE])
          have hEl : E ≤ T.size := by rw [hE]; exact (fnl_spec T _ 0 (Nat.le_refl _) (Nat.zero_le _)).2.1
          rw [← hE]
          clear hE HFN
          by_cases hEe : E = T.size
          · have HE := hide ((unhide HD).trans ((unhide HA1) n ((unhide HL).r.opens hlt (by have h1 := unhide HFE; have h2 := unhide hTz'; have h3 := congrArg ByteArray.size (unhide HT); omega))))
            have hEe' : ((E : Int) == (T.size : Int)) = true := by rw [hEe]; simp
            have HH := (unhide HL).x
            obtain ⟨⟨c0, c1, c2⟩, ⟨z0, z1, z2⟩⟩ := three_cellsR HH
            obtain ⟨p0, p1, p2⟩ := three_putR HH (.int .i64 3) (.int .i64 n) (.slice none 0 0)
            have B2 := hide (three_belowR (unhide HL).b (Nat.le_refl _) (.int .i64 3) (.int .i64 n) (.slice none 0 0))
            clear HH hEe HFE
            go_wp2
            try simp only [Exit.inBlock, Exit.then]
            refine bodyPost_ret (by simp [results, Tryd.results10, go_sem, p0, p1, p2]; try rfl) rfl ?_
            exact ⟨unhide B2, _, by rw [unhide HE], by rw [unhide HE]; exact PaG.nilv _ _ _⟩
          · have hEe' : ((E : Int) == (T.size : Int)) = false := by rw [beq_eq_false_iff_ne]; omega
            have hfs : fnl s p < s.size := by have h1 := unhide HFE; have h2 := unhide hTz'; have h3 := congrArg ByteArray.size (unhide HT); omega
            have hln : T.extract 0 E = s.extract p (fnl s p) := by rw [unhide HFE, unhide HT]; exact ext_ext0 s p E (by have h1 := unhide HFE; omega)
            have hnl : noNl (T.extract 0 E) := by rw [hln]; exact line_noNl s p hps
            have hlz : (T.extract 0 E).size ≤ 1048576 := by rw [exl_size _ _ _ hEl]; omega
            have HTX : Hid (T.extract (E + 1) T.size = s.extract (fnl s p + 1) s.size) := hide (by rw [unhide HFE, unhide HT]; exact ext_ext1 s p (E + 1))
            have HZ : Hid (szOf (.string (T.extract (E + 1) T.size)) < szOf (.string T)) := hide (by
              show (T.extract (E + 1) T.size).size < T.size
              rw [exl_size _ _ _ (Nat.le_refl _)]; omega)
            have HX := hide (fun (v' : Value) (w' : World) (Q : List Pa) wb (hL : Lq s w wb u3 p P n k) (h1 : Below (w.heap.size + 1) wb w') (h2 : wl (T.extract 0 E) P = some Q) h3 => hL.next (v' := v') h1 hl hlt hfs (by rw [← hln]; exact h2) h3)
            have HO := hide (fun (h : wl (T.extract 0 E) P = none) => (unhide HD).trans ((unhide HA1) n ((unhide HL).r.none hlt hfs (by rw [← hln]; exact h))))
            have HWP := hide (fun h => wlS_pass (l := T.extract 0 E) (P := P) h)
            have HWR := hide (fun h1 h2 => wlS_rule (l := T.extract 0 E) (P := P) hnl h1 h2)
            have HWN := hide (fun h1 h2 => wlS_none (l := T.extract 0 E) (P := P) hnl h1 h2)
            have C3 := hide (fun W => (unhide CU) (T.extract 0 E) W hlz)
            have hrg := nrmK_rng (T.extract 0 E) 5
            have SM := (unhide HL).r.m
            have hE0 : (0 : Int) ≤ (E : Int) := by omega
            have hEl' : (E : Int) ≤ (T.size : Int) := by omega
            have hE1 : (E : Int) + 1 ≤ (T.size : Int) := by omega
            have hE2 : (0 : Int) ≤ (E : Int) + 1 := by omega
            have hE3 : ((E : Int) + 1).toNat = E + 1 := by omega
            obtain ⟨l, hl2⟩ : ∃ l, l = T.extract 0 E := ⟨_, rfl⟩
            rw [← hl2] at HX HO HWP HWR HWN C3 hrg
            have HLE := hide hl2
            clear hl2 hln hnl hlz HFE hEe
            go_upto_block 4 with fail
            go_cut [6, 7] from 15 to 92 (fun nv iv wx => nv = .int .i64 (nrmK l 5) ∧ iv = .int .i64 5 ∧ Hid (Below wo.heap.size wo wx))
            case first =>
              go_wp2_with fail
              go_loopw [6, 7] (fun nv iv wx => ∃ m : Nat, m ≤ 5 ∧ nv = .int .i64 (nrmK l m) ∧ iv = .int .i64 (m : Int) ∧ Hid (Below wo.heap.size wo wx)) (fun _ iv _ => 5 - (intOf iv).toNat)
              case atStart => exact ⟨0, by omega, rfl, rfl, hide (Below.refl _ _)⟩
              case round =>
                obtain ⟨m, hm, rfl, rfl, HB⟩ := hrel
                by_cases hm5 : m < 5
                · have hm5' : (m : Int) ≤ 4 := by omega
                  have C5 := hide (fun W => (unhide CW) m hm5 W)
                  have HK : Hid (nrmK l (m + 1) = if cmB l m = true then (m : Int) else nrmK l m) := hide rfl
                  have a1 := fun (W : World) => colon_add m W
                  go_wp2_with fail
                  refine wp_region_held_drew (S := fun _ => True) (by kernel_rfl) (by exact trivial) (fun hHeld => ?_)
                  refine tkP (i := 0) (d := some 39) (v := ?_) rfl rfl (by kernel_rfl) (by kernel_rfl) (by kernel_rfl) (fun _ _ _ h => h) (Or.inl ⟨by rfl, ?_⟩) (by assumption) ?_
                  rotate_left
                  · intro w hSw; (try dsimp only at hSw); go_simp; try with_reducible rfl
                  try simp only [Act.put, List.setIfInBounds_toArray, List.set_cons_zero, List.set_cons_succ]
                  refine tkP (i := 1) (d := some 40) (v := ?_) rfl rfl (by kernel_rfl) (by kernel_rfl) (by kernel_rfl) (fun _ _ _ h => h) (Or.inl ⟨by rfl, ?_⟩) (by assumption) ?_
                  rotate_left
                  · intro w hSw; (try dsimp only at hSw); go_simp; try with_reducible rfl
                  try simp only [Act.put, List.setIfInBounds_toArray, List.set_cons_zero, List.set_cons_succ]
                  refine tkP (i := 2) (d := some 41) (v := ?_) rfl rfl (by kernel_rfl) (by kernel_rfl) (by kernel_rfl) (fun _ _ _ h => h) (Or.inl ⟨by rfl, ?_⟩) (by assumption) ?_
                  rotate_left
                  · intro w hSw; (try dsimp only at hSw); go_simp; try with_reducible rfl
                  try simp only [Act.put, List.setIfInBounds_toArray, List.set_cons_zero, List.set_cons_succ]
                  refine tkP (i := 3) (d := some 42) (v := ?_) rfl rfl (by kernel_rfl) (by kernel_rfl) (by kernel_rfl) (fun _ _ _ h => h) (Or.inl ⟨by rfl, ?_⟩) (by assumption) ?_
                  rotate_left
                  · intro w hSw; (try dsimp only at hSw); go_simp; try with_reducible rfl
                  try simp only [Act.put, List.setIfInBounds_toArray, List.set_cons_zero, List.set_cons_succ]
                  refine wpAnyH_ready (rs := [4]) (by kernel_rfl) (by simp) (AllReadyH.cons rfl (fun K hK => ?_) AllReadyH.nil)
                  go_simp
                  go_at_call 15
                  refine ((unhide C5) _).mono ?_
                  rintro e w2 ⟨rfl, hb2⟩
                  have HB2 := hide ((unhide HB).trans ((((drewB wr).trans (hb2.mono (Nat.le_refl _))).mono (unhide HB).size)))
                  clear hb2
                  try go_wp2_with fail
                  refine hK.out _ _ trivial (fun hHeld5 => ?_)
                  clear hK K
                  try simp only [Act.put, List.setIfInBounds_toArray, List.set_cons_zero, List.set_cons_succ]
                  refine tkP (i := 5) (d := some 44) (v := ?_) rfl rfl (by kernel_rfl) (by kernel_rfl) (by kernel_rfl) (fun _ _ _ h => h) (Or.inl ⟨by rfl, ?_⟩) (by assumption) ?_
                  rotate_left
                  · intro w hSw; (try dsimp only at hSw); go_simp; try with_reducible rfl
                  try simp only [Act.put, List.setIfInBounds_toArray, List.set_cons_zero, List.set_cons_succ]
                  refine tkP (i := 6) (d := some 45) (v := ?_) rfl rfl (by kernel_rfl) (by kernel_rfl) (by kernel_rfl) (fun _ _ _ h => h) (Or.inl ⟨by rfl, ?_⟩) (by assumption) ?_
                  rotate_left
                  · intro w hSw; (try dsimp only at hSw); go_simp; try with_reducible rfl
                  try simp only [Act.put, List.setIfInBounds_toArray, List.set_cons_zero, List.set_cons_succ]
                  refine wpAnyH_done (by kernel_rfl) ?_ _
                  --N2
                  cases hcb : cmB l m with
                  | true =>
                    rw [if_pos hcb] at HK
                    unfold cmB at hcb
                    rw [unhide HLE] at hcb
                    rw [hcb]
                    clear hcb a1
                    go_wp2
                    go_roundw
                    case rel => exact ⟨m + 1, by omega, by rw [unhide HK], by go_num, HB2⟩
                    case measure => simp [intOf]; omega
                  | false =>
                    rw [if_neg (by rw [hcb]; decide)] at HK
                    unfold cmB at hcb
                    rw [unhide HLE] at hcb
                    rw [hcb]
                    clear hcb a1
                    go_wp2
                    go_roundw
                    case rel => exact ⟨m + 1, by omega, by rw [unhide HK], by go_num, HB2⟩
                    case measure => simp [intOf]; omega
                · obtain rfl : m = 5 := by omega
                  go_wp2
                  go_meet
                  exact ⟨rfl, rfl, HB⟩
            case rest =>
              obtain ⟨rfl, rfl, HB⟩ := hcut
              have HM := hide ((unhide HL).below (unhide HB))
              have hRz := (unhide HM).g.form
              obtain ⟨va, vc, hu3⟩ := hRz
              subst hu3
              generalize ruS l = R at HWR HWN C3
              obtain ⟨⟨ta, tb, tc, td, tg⟩, q⟩ := R
              unfold rv at C3
              simp only at C3 HWR HWN
              generalize nrmK l 5 = g at *
              have C4 := hide ((unhide C3) wc)
              rw [unhide HLE] at C4
              have hSP := SM.1
              have hlow : w.heap.size + 1 ≤ wc.heap.size := (unhide HM).lt
              clear C3 HL HB hrg
              go_wp2_with fail
              refine (unhide C4).mono ?_
              rintro e w1 ⟨rfl, hb1⟩
              have hs1 := hb1.size
              have Bw := hide (hb1.trans ((al1 w1 (.cells #[.string ta, .string tb, .string tc, .string td, .int .i64 tg] 40)).mono hs1))
              have HM2 := hide ((unhide HM).below (unhide Bw))
              have hz2 : (w1.alloc (.cells #[.string ta, .string tb, .string tc, .string td, .int .i64 tg] 40)).heap.size = w1.heap.size + 1 := by simp
              clear C4
              by_cases hg0 : 0 ≤ g
              · have HWA := hide ((unhide HWP) hg0)
                obtain ⟨xs, ho, HS'⟩ := pag_pass (unhide HM2).g (by rw [hz2]; omega)
                have HS := hide HS'
                have O2 := hide (own_atP (w' := (w1.alloc (.cells #[.string ta, .string tb, .string tc, .string td, .int .i64 tg] 40)).alloc (.cells #[.slice none 0 0, .int .i64 g] 37)) ho (fun n e => Below.heap_alloc _ _ _ (own_lt ho e).2))
                have HGL := hide (fun w2 hg => grow_low (w2 := w2) ho (al1 (w1.alloc (.cells #[.string ta, .string tb, .string tc, .string td, .int .i64 tg] 40)) (.cells #[.slice none 0 0, .int .i64 g] 37)) hg (by rw [hz2]; omega))
                have hz3 : ((w1.alloc (.cells #[.string ta, .string tb, .string tc, .string td, .int .i64 tg] 40)).alloc (.cells #[.slice none 0 0, .int .i64 g] 37)).heap.size = w1.heap.size + 2 := by simp
                clear ho HS' hb1 HWR HWN HWP HO SM
                go_wp2_with (at_builtin; refine wpList_appG _ rfl _ _ 23 rfl (w.heap.size + 1) 37 j0 (.agg #[.slice none 0 0, .int .i64 0]) 2 32 Tryd.underlying23 hj hy0 hy1 hy2 rfl (by decide) _ _ _ rfl (unhide O2) ⟨w1.heap.size + 1, 0, none⟩ 1 1 [.slice none 0 0, .int .i64 g] ?g1 rfl ?g2 (two_one _ _ _ _) ?g3 ?g4 ?g5 ?_)
                case g1 => rfl
                case g2 => have := two_new (w1.alloc (.cells #[.string ta, .string tb, .string tc, .string td, .int .i64 tg] 40)) (.slice none 0 0) g 37; rw [hz2] at this; exact this
                case g3 => unfold maxLen; omega
                case g4 => omega
                case g5 => rw [hz3]; omega
                intro v' w3 hown' hgrow hnew
                have G3 := (unhide HS) _ w3 v' g (al1 (w1.alloc (.cells #[.string ta, .string tb, .string tc, .string td, .int .i64 tg] 40)) (.cells #[.slice none 0 0, .int .i64 g] 37)) hown' hgrow (by intro q e; rw [hz3]; exact hnew q e)
                have B3 := (unhide HGL) w3 hgrow
                obtain ⟨k', L3⟩ := (unhide HX) v' w3 _ _ (unhide HM2) B3 (unhide HWA) G3
                have H3 := hide L3
                clear hown' hgrow hnew HS O2 HGL G3 B3 L3 HX HWA HM2 HM
                go_wp2
                go_roundw
                case rel => exact ⟨fnl s p + 1, _, n + 1, k', by rw [← unhide HTX], rfl, H3⟩
                case measure => exact unhide HZ
              · have hg0' : ¬ (0 : Int) ≤ g := hg0
                by_cases hqp : q = true ∧ 0 < P.length
                · obtain ⟨rfl, hp0⟩ := hqp
                  have HWA := hide ((unhide HWR) rfl hp0)
                  obtain ⟨d, hd⟩ : ∃ d, P.length = d + 1 := ⟨P.length - 1, by omega⟩
                  have hd6 : d ≤ 65536 := by omega
                  have hLd := (SM.2 d (by omega)).1
                  obtain ⟨gv, cap, u, xs, hve, hgl, hgs, hcu, hfu, ⟨ua, uc, hue⟩, hxl, hown, huv, HA'⟩ := pag_add (unhide HM).g hd (Nat.le_refl _)
                  have HA := hide (fun w1 w2 u' => HA' w1 w2 u' (ta, tb, tc, td, tg))
                  have ho' := hide hown
                  have hul : ∀ k, u.ownBlock = some k → w.heap.size + 1 ≤ k ∧ k < wc.heap.size := fun k e => own_lt hown e
                  have hml : (gp P d).1.length ≤ 65536 := by omega
                  have HNX := hide (fun (w' : World) Q (h1 : Below (w.heap.size + 1) wc w') h2 h3 => (unhide HX) (.slice va P.length vc) w' Q wc (unhide HM) h1 h2 h3)
                  have B1 := hide hb1
                  clear HA' SM hown hxl hp0 HX HM HM2 HO HWR HWN HWP
                  rw [hd] at hve
                  injection hve with hva hvl hvc
                  subst hva hvc
                  have HPD := hide hd
                  have hPd : P.length = d + 1 := hd
                  generalize addR P (ta, tb, tc, td, tg) = Q at *
                  generalize (gp P d).1.length = m at *
                  subst hue
                  rw [hPd] at HNX HA ⊢
                  clear hPd hd hvl
                  have hd1 : ((d + 1 : Nat) : Int) - 1 = (d : Int) := by omega
                  have h0d : (0 : Int) ≤ (d : Int) := by omega
                  have hdd : (d : Int) < ((d + 1 : Nat) : Int) := by omega
                  have hd0 : (0 : Int) < ((d + 1 : Nat) : Int) := by omega
                  go_wp2_with fail
                  have hdd2 : (d : Int) < (d : Int) + 1 := by omega
                  have hwr : IntKind.i64.wrap (d : Int) = (d : Int) := wrap_in _ (by omega) (by omega)
                  obtain ⟨⟨b0, b1, b2, b3, b4⟩, _⟩ := five_cellsU (heap_new w1 (.cells #[.string ta, .string tb, .string tc, .string td, .int .i64 tg] 40))
                  have KS : (fun w' => w'.cell? ⟨w1.heap.size, 0, none⟩ = some (.string ta) ∧ w'.cell? ⟨w1.heap.size, 1, none⟩ = some (.string tb) ∧ w'.cell? ⟨w1.heap.size, 2, none⟩ = some (.string tc) ∧ w'.cell? ⟨w1.heap.size, 3, none⟩ = some (.string td) ∧ w'.cell? ⟨w1.heap.size, 4, none⟩ = some (.int .i64 tg)) (w1.alloc (.cells #[.string ta, .string tb, .string tc, .string td, .int .i64 tg] 40)) := ⟨b0, b1, b2, b3, b4⟩
                  refine wp_region_held_drew (S := fun w' => w'.cell? ⟨w1.heap.size, 0, none⟩ = some (.string ta) ∧ w'.cell? ⟨w1.heap.size, 1, none⟩ = some (.string tb) ∧ w'.cell? ⟨w1.heap.size, 2, none⟩ = some (.string tc) ∧ w'.cell? ⟨w1.heap.size, 3, none⟩ = some (.string td) ∧ w'.cell? ⟨w1.heap.size, 4, none⟩ = some (.int .i64 tg)) (by kernel_rfl) (by exact KS) (fun hHeld => ?_)
                  refine tkP (i := 0) (d := some 71) (v := ?_) rfl rfl (by kernel_rfl) (by kernel_rfl) (by kernel_rfl) (fun _ _ _ h => h) (Or.inl ⟨by rfl, ?_⟩) (by assumption) ?_
                  rotate_left
                  · intro w hSw; (try dsimp only at hSw); go_simp; try with_reducible rfl
                  try simp only [Act.put, List.setIfInBounds_toArray, List.set_cons_zero, List.set_cons_succ]
                  refine tkP (i := 1) (d := some 72) (v := ?_) rfl rfl (by kernel_rfl) (by kernel_rfl) (by kernel_rfl) (fun _ _ _ h => h) (Or.inl ⟨by rfl, ?_⟩) (by assumption) ?_
                  rotate_left
                  · intro w hSw; (try dsimp only at hSw); go_simp; try with_reducible rfl
                  try simp only [Act.put, List.setIfInBounds_toArray, List.set_cons_zero, List.set_cons_succ]
                  refine tkP (i := 2) (d := some 73) (v := ?_) rfl rfl (by kernel_rfl) (by kernel_rfl) (by kernel_rfl) (fun _ _ _ h => h) (Or.inl ⟨by rfl, ?_⟩) (by assumption) ?_
                  rotate_left
                  · intro w hSw; (try dsimp only at hSw); go_simp; try with_reducible rfl
                  try simp only [Act.put, List.setIfInBounds_toArray, List.set_cons_zero, List.set_cons_succ]
                  refine tkP (i := 3) (d := some 74) (v := ?_) rfl rfl (by kernel_rfl) (by kernel_rfl) (by kernel_rfl) (fun _ _ _ h => h) (Or.inl ⟨by rfl, ?_⟩) (by assumption) ?_
                  rotate_left
                  · intro w hSw; (try dsimp only at hSw); go_simp; try with_reducible rfl
                  try simp only [Act.put, List.setIfInBounds_toArray, List.set_cons_zero, List.set_cons_succ]
                  refine tkP (i := 4) (d := some 75) (v := ?_) rfl rfl (by kernel_rfl) (by kernel_rfl) (by kernel_rfl) (fun _ _ _ h => h) (Or.inl ⟨by rfl, ?_⟩) (by assumption) ?_
                  rotate_left
                  · intro w hSw; (try dsimp only at hSw); go_simp; try with_reducible rfl
                  try simp only [Act.put, List.setIfInBounds_toArray, List.set_cons_zero, List.set_cons_succ]
                  refine tkP (i := 5) (d := some 76) (v := ?_) rfl rfl (by kernel_rfl) (by kernel_rfl) (by kernel_rfl) (fun _ _ _ h => h) (Or.inl ⟨by rfl, ?_⟩) (by assumption) ?_
                  rotate_left
                  · intro w hSw; (try dsimp only at hSw); go_simp; try with_reducible rfl
                  try simp only [Act.put, List.setIfInBounds_toArray, List.set_cons_zero, List.set_cons_succ]
                  refine tkP (i := 6) (d := some 77) (v := ?_) rfl rfl (by kernel_rfl) (by kernel_rfl) (by kernel_rfl) (fun _ _ _ h => h) (Or.inl ⟨by rfl, ?_⟩) (by assumption) ?_
                  rotate_left
                  · intro w hSw; (try dsimp only at hSw); go_simp; try with_reducible rfl
                  try simp only [Act.put, List.setIfInBounds_toArray, List.set_cons_zero, List.set_cons_succ]
                  refine tkP (i := 7) (d := some 78) (v := ?_) rfl rfl (by kernel_rfl) (by kernel_rfl) (by kernel_rfl) (fun _ _ _ h => h) (Or.inl ⟨by rfl, ?_⟩) (by assumption) ?_
                  rotate_left
                  · intro w hSw; (try dsimp only at hSw); go_simp; try with_reducible rfl
                  try simp only [Act.put, List.setIfInBounds_toArray, List.set_cons_zero, List.set_cons_succ]
                  refine tkP (i := 8) (d := some 79) (v := ?_) rfl rfl (by kernel_rfl) (by kernel_rfl) (by kernel_rfl) (fun _ _ _ h => h) (Or.inl ⟨by rfl, ?_⟩) (by assumption) ?_
                  rotate_left
                  · intro w hSw; (try dsimp only at hSw); go_simp; try with_reducible rfl
                  try simp only [Act.put, List.setIfInBounds_toArray, List.set_cons_zero, List.set_cons_succ]
                  refine tkP (i := 9) (d := some 80) (v := ?_) rfl rfl (by kernel_rfl) (by kernel_rfl) (by kernel_rfl) (fun _ _ _ h => h) (Or.inl ⟨by rfl, ?_⟩) (by assumption) ?_
                  rotate_left
                  · intro w hSw; (try dsimp only at hSw); go_simp; try with_reducible rfl
                  try simp only [Act.put, List.setIfInBounds_toArray, List.set_cons_zero, List.set_cons_succ]
                  refine tkP (i := 11) (d := some 82) (v := ?_) rfl rfl (by kernel_rfl) (by kernel_rfl) (by kernel_rfl) (fun _ _ _ h => h) (Or.inl ⟨by rfl, ?_⟩) (by assumption) ?_
                  rotate_left
                  · intro w hSw; (try dsimp only at hSw); go_simp; try with_reducible rfl
                  try simp only [Act.put, List.setIfInBounds_toArray, List.set_cons_zero, List.set_cons_succ]
                  clear hwr
                  clear KS b0 b1 b2 b3 b4
                  have Bd := hide (((unhide B1).trans ((al1 w1 (.cells #[.string ta, .string tb, .string tc, .string td, .int .i64 tg] 40)).mono hs1)).trans ((drewB (w1.alloc (.cells #[.string ta, .string tb, .string tc, .string td, .int .i64 tg] 40))).mono (by rw [hz2]; omega)))
                  have hb5 := (five_cellsU (w := (w1.alloc (.cells #[.string ta, .string tb, .string tc, .string td, .int .i64 tg] 40)).drew) (heap_new w1 (.cells #[.string ta, .string tb, .string tc, .string td, .int .i64 tg] 40))).1
                  have hw1 : w1.heap.size < (w1.alloc (.cells #[.string ta, .string tb, .string tc, .string td, .int .i64 tg] 40)).drew.heap.size := by show w1.heap.size < (w1.alloc (.cells #[.string ta, .string tb, .string tc, .string td, .int .i64 tg] 40)).heap.size; rw [hz2]; omega
                  clear hz2 Bw
                  generalize (w1.alloc (.cells #[.string ta, .string tb, .string tc, .string td, .int .i64 tg] 40)).drew = yd at *
                  have hsd := (unhide Bd).size
                  have Be := hide ((unhide Bd).trans ((al1 yd (.cells #[.string ta, .string tb, .string tc, .string td, .int .i64 tg] 40)).mono hsd))
                  have c0 := ((unhide Bd).cell (p := ⟨gv, d * 2, none⟩) hgs).trans hcu
                  have k0 := ((unhide Be).cell (p := ⟨gv, d * 2, none⟩) hgs).trans hcu
                  have k1 := ((al1 yd (.cells #[.string ta, .string tb, .string tc, .string td, .int .i64 tg] 40)).cell (p := ⟨w1.heap.size, 0, none⟩) hw1).trans hb5.1
                  have k2 := ((al1 yd (.cells #[.string ta, .string tb, .string tc, .string td, .int .i64 tg] 40)).cell (p := ⟨w1.heap.size, 1, none⟩) hw1).trans hb5.2.1
                  have k3 := ((al1 yd (.cells #[.string ta, .string tb, .string tc, .string td, .int .i64 tg] 40)).cell (p := ⟨w1.heap.size, 2, none⟩) hw1).trans hb5.2.2.1
                  have k4 := ((al1 yd (.cells #[.string ta, .string tb, .string tc, .string td, .int .i64 tg] 40)).cell (p := ⟨w1.heap.size, 3, none⟩) hw1).trans hb5.2.2.2.1
                  have k5 := ((al1 yd (.cells #[.string ta, .string tb, .string tc, .string td, .int .i64 tg] 40)).cell (p := ⟨w1.heap.size, 4, none⟩) hw1).trans hb5.2.2.2.2
                  refine wpAnyH_ready (rs := [10, 12]) (by kernel_rfl) (by simp) (AllReadyH.cons rfl (fun K hK => ?_) (AllReadyH.cons rfl (fun K hK => ?_) AllReadyH.nil))
                  · go_simp
                    refine hK.out _ _ hb5 (fun hHeld7 => ?_)
                    clear hK K
                    try simp only [Act.put, List.setIfInBounds_toArray, List.set_cons_zero, List.set_cons_succ]
                    refine wpAnyH_ready (rs := [12]) (by kernel_rfl) (by simp) (AllReadyH.cons rfl (fun K hK => ?_) AllReadyH.nil)
                    go_simp
                    refine hK.out _ _ ⟨k1, k2, k3, k4, k5⟩ (fun hHeld8 => ?_)
                    clear hK K
                    try simp only [Act.put, List.setIfInBounds_toArray, List.set_cons_zero, List.set_cons_succ]
                    have O2 := hide (own_atP (w' := (yd.alloc (.cells #[.string ta, .string tb, .string tc, .string td, .int .i64 tg] 40))) (unhide ho') (fun q e => (unhide Be).block q (hul q e).2))
                    refine wpAnyH_ready (rs := [13]) (by kernel_rfl) (by simp) (AllReadyH.cons rfl (fun K hK => ?_) AllReadyH.nil)
                    refine step_appP (some 84) rfl rfl (.tmp 81) (.tmp 83) 35 rfl (w.heap.size + 1) 40 i0 (.agg #[.string ⟨#[]⟩, .string ⟨#[]⟩, .string ⟨#[]⟩, .string ⟨#[]⟩, .int .i64 0]) 5 72 Tryd.underlying35 hi hz0 hz1 hz2q rfl (by decide) (.slice ua m uc) m xs (by rfl) (unhide O2) ⟨yd.heap.size, 0, none⟩ 1 1 (cells5 (ta, tb, tc, td, tg)) (by rfl) rfl (five_new yd (ta, tb, tc, td, tg) 40) (five_one _) ?g3 ?g4 ?g5 ?_
                    case g3 => unfold maxLen; omega
                    case g4 => omega
                    case g5 => simp; omega
                    intro u' w2 hown' hgrow hnew
                    have G3 := hide ((unhide HA) (yd.alloc (.cells #[.string ta, .string tb, .string tc, .string td, .int .i64 tg] 40)) w2 u' (unhide Be) hown' hgrow hnew)
                    have hgb := hgrow.block gv (by have := (unhide Be).size; omega) (fun e => huv e.symm)
                    have q0 : w2.cell? ⟨gv, d * 2, none⟩ = some (.slice ua m uc) := by rw [← k0]; simp only [World.cell?, hgb]
                    have qf : w2.frozen? ⟨gv, d * 2, none⟩ = false := by have e := (unhide Be).block gv hgs; rw [← hfu]; simp only [World.frozen?, hgb, e]
                    have hwn : w2.heap[w1.heap.size]? = (yd.alloc (.cells #[.string ta, .string tb, .string tc, .string td, .int .i64 tg] 40)).heap[w1.heap.size]? := hgrow.block w1.heap.size (by simp; omega) (fun e => by have := (hul _ e.symm).2; omega)
                    have q1 : w2.cell? ⟨w1.heap.size, 0, none⟩ = some (.string ta) := by rw [← k1]; simp only [World.cell?, hwn]
                    have q2 : w2.cell? ⟨w1.heap.size, 1, none⟩ = some (.string tb) := by rw [← k2]; simp only [World.cell?, hwn]
                    have q3 : w2.cell? ⟨w1.heap.size, 2, none⟩ = some (.string tc) := by rw [← k3]; simp only [World.cell?, hwn]
                    have q4 : w2.cell? ⟨w1.heap.size, 3, none⟩ = some (.string td) := by rw [← k4]; simp only [World.cell?, hwn]
                    have q5 : w2.cell? ⟨w1.heap.size, 4, none⟩ = some (.int .i64 tg) := by rw [← k5]; simp only [World.cell?, hwn]
                    have B3 := hide (grow_low (unhide ho') (unhide Be) hgrow hlow)
                    obtain ⟨g', cap', hue'⟩ := own_formZ hown'
                    refine hK.out _ _ ⟨q1, q2, q3, q4, q5⟩ (fun hHeld9 => ?_)
                    clear hK K
                    try simp only [Act.put, List.setIfInBounds_toArray, List.set_cons_zero, List.set_cons_succ]
                    refine tkP (i := 14) (d := some 85) (v := ?_) rfl rfl (by kernel_rfl) (by kernel_rfl) (by kernel_rfl) (fun _ _ _ h => h) (Or.inl ⟨by rfl, ?_⟩) (by assumption) ?_
                    rotate_left
                    · intro w hSw; (try dsimp only at hSw); go_simp; try with_reducible rfl
                    try simp only [Act.put, List.setIfInBounds_toArray, List.set_cons_zero, List.set_cons_succ]
                    refine tkP (i := 15) (d := some 86) (v := ?_) rfl rfl (by kernel_rfl) (by kernel_rfl) (by kernel_rfl) (fun _ _ _ h => h) (Or.inl ⟨by rfl, ?_⟩) (by assumption) ?_
                    rotate_left
                    · intro w hSw; (try dsimp only at hSw); go_simp; try with_reducible rfl
                    try simp only [Act.put, List.setIfInBounds_toArray, List.set_cons_zero, List.set_cons_succ]
                    clear hown' hgrow hnew hgb hwn
                    have hgw : w1.heap.size ≠ gv := by omega
                    subst hue'
                    have B4 := (unhide B3).setCell (p := ⟨gv, d * 2, none⟩) hgl (.slice (some ⟨g', 0, none⟩) (m + 1) cap')
                    have hs4 : (w2.setCell ⟨gv, d * 2, none⟩ (.slice (some ⟨g', 0, none⟩) (m + 1) cap')).heap.size = w2.heap.size := by simp
                    have hbk := heap_setCell_other w2 ⟨gv, d * 2, none⟩ w1.heap.size (.slice (some ⟨g', 0, none⟩) (m + 1) cap') hgw
                    have p1 : (w2.setCell ⟨gv, d * 2, none⟩ (.slice (some ⟨g', 0, none⟩) (m + 1) cap')).cell? ⟨w1.heap.size, 0, none⟩ = some (.string ta) := by rw [← q1]; simp only [World.cell?, hbk]
                    have p2 : (w2.setCell ⟨gv, d * 2, none⟩ (.slice (some ⟨g', 0, none⟩) (m + 1) cap')).cell? ⟨w1.heap.size, 1, none⟩ = some (.string tb) := by rw [← q2]; simp only [World.cell?, hbk]
                    have p3 : (w2.setCell ⟨gv, d * 2, none⟩ (.slice (some ⟨g', 0, none⟩) (m + 1) cap')).cell? ⟨w1.heap.size, 2, none⟩ = some (.string tc) := by rw [← q3]; simp only [World.cell?, hbk]
                    have p4 : (w2.setCell ⟨gv, d * 2, none⟩ (.slice (some ⟨g', 0, none⟩) (m + 1) cap')).cell? ⟨w1.heap.size, 3, none⟩ = some (.string td) := by rw [← q4]; simp only [World.cell?, hbk]
                    have p5 : (w2.setCell ⟨gv, d * 2, none⟩ (.slice (some ⟨g', 0, none⟩) (m + 1) cap')).cell? ⟨w1.heap.size, 4, none⟩ = some (.int .i64 tg) := by rw [← q5]; simp only [World.cell?, hbk]
                    refine wpAnyH_ready (rs := [16]) (by kernel_rfl) (by simp) (AllReadyH.cons rfl (fun K hK => ?_) AllReadyH.nil)
                    go_simp
                    refine hK.out _ _ ⟨p1, p2, p3, p4, p5⟩ (fun hHeld10 => ?_)
                    clear hK K
                    try simp only [Act.put, List.setIfInBounds_toArray, List.set_cons_zero, List.set_cons_succ]
                    refine wpAnyH_done (by kernel_rfl) ?_ _
                    clear p1 p2 p3 p4 p5 q1 q2 q3 q4 q5 k1 k2 k3 k4 k5 hbk
                    rw [← hs4] at G3
                    clear hs4
                    obtain ⟨k', L3⟩ := (unhide HNX) _ _ B4 (unhide HWA) (unhide G3)
                    have H3 := hide L3
                    clear L3 B4 G3 HNX HA
                    generalize (w2.setCell ⟨gv, d * 2, none⟩ (.slice (some ⟨g', 0, none⟩) (m + 1) cap')) = w5 at *
                    go_wp2
                    go_roundw
                    case rel => exact ⟨fnl s p + 1, _, n + 1, k', by rw [← unhide HTX], rfl, H3⟩
                    case measure => exact unhide HZ
                  · go_simp
                    refine hK.out _ _ ⟨k1, k2, k3, k4, k5⟩ (fun hHeld7 => ?_)
                    clear hK K
                    try simp only [Act.put, List.setIfInBounds_toArray, List.set_cons_zero, List.set_cons_succ]
                    refine wpAnyH_ready (rs := [10]) (by kernel_rfl) (by simp) (AllReadyH.cons rfl (fun K hK => ?_) AllReadyH.nil)
                    go_simp
                    refine hK.out _ _ ⟨k1, k2, k3, k4, k5⟩ (fun hHeld8 => ?_)
                    clear hK K
                    try simp only [Act.put, List.setIfInBounds_toArray, List.set_cons_zero, List.set_cons_succ]
                    have O2 := hide (own_atP (w' := (yd.alloc (.cells #[.string ta, .string tb, .string tc, .string td, .int .i64 tg] 40))) (unhide ho') (fun q e => (unhide Be).block q (hul q e).2))
                    refine wpAnyH_ready (rs := [13]) (by kernel_rfl) (by simp) (AllReadyH.cons rfl (fun K hK => ?_) AllReadyH.nil)
                    refine step_appP (some 84) rfl rfl (.tmp 81) (.tmp 83) 35 rfl (w.heap.size + 1) 40 i0 (.agg #[.string ⟨#[]⟩, .string ⟨#[]⟩, .string ⟨#[]⟩, .string ⟨#[]⟩, .int .i64 0]) 5 72 Tryd.underlying35 hi hz0 hz1 hz2q rfl (by decide) (.slice ua m uc) m xs (by rfl) (unhide O2) ⟨yd.heap.size, 0, none⟩ 1 1 (cells5 (ta, tb, tc, td, tg)) (by rfl) rfl (five_new yd (ta, tb, tc, td, tg) 40) (five_one _) ?g3 ?g4 ?g5 ?_
                    case g3 => unfold maxLen; omega
                    case g4 => omega
                    case g5 => simp; omega
                    intro u' w2 hown' hgrow hnew
                    have G3 := hide ((unhide HA) (yd.alloc (.cells #[.string ta, .string tb, .string tc, .string td, .int .i64 tg] 40)) w2 u' (unhide Be) hown' hgrow hnew)
                    have hgb := hgrow.block gv (by have := (unhide Be).size; omega) (fun e => huv e.symm)
                    have q0 : w2.cell? ⟨gv, d * 2, none⟩ = some (.slice ua m uc) := by rw [← k0]; simp only [World.cell?, hgb]
                    have qf : w2.frozen? ⟨gv, d * 2, none⟩ = false := by have e := (unhide Be).block gv hgs; rw [← hfu]; simp only [World.frozen?, hgb, e]
                    have hwn : w2.heap[w1.heap.size]? = (yd.alloc (.cells #[.string ta, .string tb, .string tc, .string td, .int .i64 tg] 40)).heap[w1.heap.size]? := hgrow.block w1.heap.size (by simp; omega) (fun e => by have := (hul _ e.symm).2; omega)
                    have q1 : w2.cell? ⟨w1.heap.size, 0, none⟩ = some (.string ta) := by rw [← k1]; simp only [World.cell?, hwn]
                    have q2 : w2.cell? ⟨w1.heap.size, 1, none⟩ = some (.string tb) := by rw [← k2]; simp only [World.cell?, hwn]
                    have q3 : w2.cell? ⟨w1.heap.size, 2, none⟩ = some (.string tc) := by rw [← k3]; simp only [World.cell?, hwn]
                    have q4 : w2.cell? ⟨w1.heap.size, 3, none⟩ = some (.string td) := by rw [← k4]; simp only [World.cell?, hwn]
                    have q5 : w2.cell? ⟨w1.heap.size, 4, none⟩ = some (.int .i64 tg) := by rw [← k5]; simp only [World.cell?, hwn]
                    have B3 := hide (grow_low (unhide ho') (unhide Be) hgrow hlow)
                    obtain ⟨g', cap', hue'⟩ := own_formZ hown'
                    refine hK.out _ _ ⟨q1, q2, q3, q4, q5⟩ (fun hHeld9 => ?_)
                    clear hK K
                    try simp only [Act.put, List.setIfInBounds_toArray, List.set_cons_zero, List.set_cons_succ]
                    refine tkP (i := 14) (d := some 85) (v := ?_) rfl rfl (by kernel_rfl) (by kernel_rfl) (by kernel_rfl) (fun _ _ _ h => h) (Or.inl ⟨by rfl, ?_⟩) (by assumption) ?_
                    rotate_left
                    · intro w hSw; (try dsimp only at hSw); go_simp; try with_reducible rfl
                    try simp only [Act.put, List.setIfInBounds_toArray, List.set_cons_zero, List.set_cons_succ]
                    refine tkP (i := 15) (d := some 86) (v := ?_) rfl rfl (by kernel_rfl) (by kernel_rfl) (by kernel_rfl) (fun _ _ _ h => h) (Or.inl ⟨by rfl, ?_⟩) (by assumption) ?_
                    rotate_left
                    · intro w hSw; (try dsimp only at hSw); go_simp; try with_reducible rfl
                    try simp only [Act.put, List.setIfInBounds_toArray, List.set_cons_zero, List.set_cons_succ]
                    clear hown' hgrow hnew hgb hwn
                    have hgw : w1.heap.size ≠ gv := by omega
                    subst hue'
                    have B4 := (unhide B3).setCell (p := ⟨gv, d * 2, none⟩) hgl (.slice (some ⟨g', 0, none⟩) (m + 1) cap')
                    have hs4 : (w2.setCell ⟨gv, d * 2, none⟩ (.slice (some ⟨g', 0, none⟩) (m + 1) cap')).heap.size = w2.heap.size := by simp
                    have hbk := heap_setCell_other w2 ⟨gv, d * 2, none⟩ w1.heap.size (.slice (some ⟨g', 0, none⟩) (m + 1) cap') hgw
                    have p1 : (w2.setCell ⟨gv, d * 2, none⟩ (.slice (some ⟨g', 0, none⟩) (m + 1) cap')).cell? ⟨w1.heap.size, 0, none⟩ = some (.string ta) := by rw [← q1]; simp only [World.cell?, hbk]
                    have p2 : (w2.setCell ⟨gv, d * 2, none⟩ (.slice (some ⟨g', 0, none⟩) (m + 1) cap')).cell? ⟨w1.heap.size, 1, none⟩ = some (.string tb) := by rw [← q2]; simp only [World.cell?, hbk]
                    have p3 : (w2.setCell ⟨gv, d * 2, none⟩ (.slice (some ⟨g', 0, none⟩) (m + 1) cap')).cell? ⟨w1.heap.size, 2, none⟩ = some (.string tc) := by rw [← q3]; simp only [World.cell?, hbk]
                    have p4 : (w2.setCell ⟨gv, d * 2, none⟩ (.slice (some ⟨g', 0, none⟩) (m + 1) cap')).cell? ⟨w1.heap.size, 3, none⟩ = some (.string td) := by rw [← q4]; simp only [World.cell?, hbk]
                    have p5 : (w2.setCell ⟨gv, d * 2, none⟩ (.slice (some ⟨g', 0, none⟩) (m + 1) cap')).cell? ⟨w1.heap.size, 4, none⟩ = some (.int .i64 tg) := by rw [← q5]; simp only [World.cell?, hbk]
                    refine wpAnyH_ready (rs := [16]) (by kernel_rfl) (by simp) (AllReadyH.cons rfl (fun K hK => ?_) AllReadyH.nil)
                    go_simp
                    refine hK.out _ _ ⟨p1, p2, p3, p4, p5⟩ (fun hHeld10 => ?_)
                    clear hK K
                    try simp only [Act.put, List.setIfInBounds_toArray, List.set_cons_zero, List.set_cons_succ]
                    refine wpAnyH_done (by kernel_rfl) ?_ _
                    clear p1 p2 p3 p4 p5 q1 q2 q3 q4 q5 k1 k2 k3 k4 k5 hbk
                    rw [← hs4] at G3
                    clear hs4
                    obtain ⟨k', L3⟩ := (unhide HNX) _ _ B4 (unhide HWA) (unhide G3)
                    have H3 := hide L3
                    clear L3 B4 G3 HNX HA
                    generalize (w2.setCell ⟨gv, d * 2, none⟩ (.slice (some ⟨g', 0, none⟩) (m + 1) cap')) = w5 at *
                    go_wp2
                    go_roundw
                    case rel => exact ⟨fnl s p + 1, _, n + 1, k', by rw [← unhide HTX], rfl, H3⟩
                    case measure => exact unhide HZ
                · have HE := hide ((unhide HO) ((unhide HWN) (by omega) hqp))
                  clear HWR HWN HWP HO SM
                  cases q with
                  | false =>
                    clear hqp
                    have HH := (unhide HM2).x
                    obtain ⟨⟨c0, c1, c2⟩, ⟨z0, z1, z2⟩⟩ := three_cellsR HH
                    obtain ⟨p0, p1, p2⟩ := three_putR HH (.int .i64 3) (.int .i64 n) (.slice none 0 0)
                    have B2 := hide (three_belowR (unhide HM2).b (Nat.le_refl _) (.int .i64 3) (.int .i64 n) (.slice none 0 0))
                    clear HH HM HM2 Bw HX hb1
                    go_wp2
                    try simp only [Exit.inBlock, Exit.then]
                    refine bodyPost_ret (by simp [results, Tryd.results10, go_sem, p0, p1, p2]; try rfl) rfl ?_
                    exact ⟨unhide B2, _, by rw [unhide HE], by rw [unhide HE]; exact PaG.nilv _ _ _⟩
                  | true =>
                    have hp0 : P.length = 0 := by
                      rcases Nat.eq_zero_or_pos P.length with h | h
                      · exact h
                      · exact absurd ⟨rfl, h⟩ hqp
                    have hp0' : ¬ (0 : Int) < (P.length : Int) := by omega
                    clear hqp hp0
                    have HH := (unhide HM2).x
                    obtain ⟨⟨c0, c1, c2⟩, ⟨z0, z1, z2⟩⟩ := three_cellsR HH
                    obtain ⟨p0, p1, p2⟩ := three_putR HH (.int .i64 3) (.int .i64 n) (.slice none 0 0)
                    have B2 := hide (three_belowR (unhide HM2).b (Nat.le_refl _) (.int .i64 3) (.int .i64 n) (.slice none 0 0))
                    clear HH HM HM2 Bw HX hb1
                    go_wp2
                    try simp only [Exit.inBlock, Exit.then]
                    refine bodyPost_ret (by simp [results, Tryd.results10, go_sem, p0, p1, p2]; try rfl) rfl ?_
                    exact ⟨unhide B2, _, by rw [unhide HE], by rw [unhide HE]; exact PaG.nilv _ _ _⟩
      · have hq := ext_no hlt
        have HR := (unhide HL).r.last hlt
        have C2 := hide ((unhide CF) u3 P _ wr (unhide HL).g.pa ((unhide HL).r.m.small (by omega)))
        have HO := hide (fun h => (unhide HD).trans ((unhide HA2) P _ HR h))
        have HBd := hide (fun h => (unhide HD).trans ((unhide HA3) P _ HR h))
        obtain ⟨va, vc, hu3⟩ := (unhide HL).g.form
        subst hu3
        clear HR
        rcases flt_iff P with ⟨hf, hrt⟩ | ⟨hf, hrt⟩
        · skip
          rw [hf] at C2
          have HE := hide ((unhide HO) hrt)
          clear hf hrt HO HBd HA1 HA2 HA3
          go_wp2_with fail
          refine (unhide C2).mono ?_
          rintro e w2 ⟨rfl, hb2⟩
          have HL2 := (unhide HL).below hb2
          have HH := HL2.x
          obtain ⟨⟨c0, c1, c2⟩, ⟨z0, z1, z2⟩⟩ := three_cellsR HH
          obtain ⟨p0, p1, p2⟩ := three_putR HH (.int .i64 0) (.int .i64 0) (.slice va P.length vc)
          have B2 := hide (three_belowR HL2.b (Nat.le_refl _) (.int .i64 0) (.int .i64 0) (.slice va P.length vc))
          have G2 := hide (HL2.g.at (w' := ((w2.setCell ⟨w.heap.size, 0, none⟩ (.int .i64 0)).setCell ⟨w.heap.size, 1, none⟩ (.int .i64 0)).setCell ⟨w.heap.size, 2, none⟩ (.slice va P.length vc)) (fun k h1 h2 h3 => three_other w2 w.heap.size k (by omega) _ _ _))
          clear HH HL2 hb2 HL
          go_wp2
          try simp only [Exit.inBlock, Exit.then]
          refine bodyPost_ret (by simp [results, Tryd.results10, go_sem, p0, p1, p2]; try rfl) rfl ?_
          refine ⟨unhide B2, _, by rw [unhide HE], ?_⟩
          rw [unhide HE]
          exact ((unhide G2).up (by simp)).down (by omega)
        · skip
          rw [hf] at C2
          have HE := hide ((unhide HBd) hrt)
          clear hf hrt HO HBd HA1 HA2 HA3
          go_wp2_with fail
          refine (unhide C2).mono ?_
          rintro e w2 ⟨rfl, hb2⟩
          have HL2 := (unhide HL).below hb2
          have HH := HL2.x
          obtain ⟨⟨c0, c1, c2⟩, ⟨z0, z1, z2⟩⟩ := three_cellsR HH
          obtain ⟨p0, p1, p2⟩ := three_putR HH (.int .i64 1) (.int .i64 0) (.slice none 0 0)
          have B2 := hide (three_belowR HL2.b (Nat.le_refl _) (.int .i64 1) (.int .i64 0) (.slice none 0 0))
          clear HH HL2 hb2 HL
          go_wp2
          try simp only [Exit.inBlock, Exit.then]
          refine bodyPost_ret (by simp [results, Tryd.results10, go_sem, p0, p1, p2]; try rfl) rfl ?_
          refine ⟨unhide B2, _, by rw [unhide HE], ?_⟩
          rw [unhide HE]
          exact PaG.nilv _ _ _
  · have hl' : (65536 : Int) < (s.size : Int) := by omega
    have HE : Hid (rdB s = (2, 0, [])) := hide (if_neg hl)
    have B0 := hide (al1 w (.cells #[.int .i64 2, .int .i64 0, .slice none 0 0] 27))
    go_enter Tryd.func10, Tryd.ntmps10
    go_wp2
    go_returns
    exact ⟨unhide B0, _, by rw [unhide HE], by rw [unhide HE]; exact PaG.nilv _ _ _⟩
end Go.Proofs.YtklakcnapdhcnaaDoor.Pas
