/- The law of forms that are their own. -/
import Derived.Test.YtnopgiommgbjnaaStaP
import Derived.Test.YtnopgiommgbjnaaStaD
import Derived.Test.YtnopgiommgbjnaaNmlL
import Derived.Test.YtnopgiommgbjnaaIsnL
namespace Go.Proofs.Ytnopgiommgbjnaa
open Go.RowKit
set_option linter.unusedVariables false
theorem nf_le (f : Int) (s : ByteArray) : (nf f s).size ≤ 65536 := Dr.nml_size f s
theorem byt_ne {X : ByteArray} (h : X ≠ ⟨#[]⟩) : ¬ X.toList = [] := fun e => h (by
  rw [Go.ByteArray.toList_eq] at e
  obtain ⟨d⟩ := X
  have : d = #[] := by simpa using e
  rw [this])
theorem empty_of {X : ByteArray} (h : X.size = 0) : X = ⟨#[]⟩ := by
  obtain ⟨d⟩ := X
  have : d.size = 0 := h
  rw [Array.eq_empty_of_size_eq_zero this]
set_option maxHeartbeats 8000000 in
set_option maxRecDepth 100000 in
theorem lawStable (a : Option Addr) (len cap : Nat) (w : World) (hc : Dr.CodeIn w a len) (hl0 : len ≤ maxLen) :
    Calls Try.prog 3 #[.slice a len cap] w fun e w' => e = .returned (.bool true) ∧ Below w.heap.size w w' := by
  unfold maxLen at hl0
  by_cases hl : 1048576 < len
  · have hl' : (1048576 : Int) < (len : Int) := by omega
    go_enter Try.func3, Try.ntmps3
    go_wp2
    go_ret
    exact ⟨rfl, Below.refl _ _⟩
  · have hl' : ¬ (1048576 : Int) < (len : Int) := by omega
    have CD := hide (Dr.drawN_any w a len cap (by omega) hc)
    clear hc
    go_enter Try.func3, Try.ntmps3
    go_wp2_with fail
    refine (unhide CD).mono ?_
    rintro e w1 ⟨f0, t, rfl, ht, hb1⟩
    have B1 := hide hb1
    clear CD hb1
    have CI : Hid (∀ (f : Int) (s : ByteArray) W, s.size ≤ 1048576 → Calls Try.prog 5 #[.int .i64 f, .string s] W fun e w' => e = .returned (.string (nf f s)) ∧ Below W.heap.size W w') := hide (fun f s W h => implNormalize f s W h)
    have CS : Hid (∀ (f : Int) (s : ByteArray) W, s.size ≤ 1048576 → Calls Try.prog 6 #[.int .i64 f, .string s] W fun e w' => e = .returned (.string (nf f s)) ∧ Below W.heap.size W w') := hide (fun f s W h => specNormalize f s W h)
    have CN : Hid (∀ (f : Int) (s : ByteArray) W, s.size ≤ 1048576 → Calls Try.prog 7 #[.int .i64 f, .string s] W fun e w' => e = .returned (.bool (isN f s)) ∧ Below W.heap.size W w') := hide (fun f s W h => implIsN f s W h)
    go_wp2
    go_loopw [5] (fun fv wr => ∃ f : Int, fv = .int .i64 f ∧ (f = 1 ∨ f = 2 ∨ f = 3 ∨ f = 4 ∨ f = 5) ∧ Hid (Below w.heap.size w wr)) (fun fv _ => (5 - intOf fv).toNat)
    case atStart => exact ⟨1, rfl, .inl rfl, B1⟩
    case round =>
      obtain ⟨f, rfl, hf, HB⟩ := hrel
      clear B1
      rcases hf with rfl | rfl | rfl | rfl | rfl
      · have hE := nf_le 1 t
        have KA := hide (fun W => (unhide CI) 1 t W (by omega))
        have KB := hide (fun W => (unhide CS) 1 t W (by omega))
        have KC := hide (fun W => (unhide CI) 1 (nf 1 t) W (by omega))
        have KN := hide (fun W => (unhide CN) 1 (nf 1 t) W (by omega))
        have KO := hide (fun W => (unhide CS) 2 (nf 1 t) W (by omega))
        have KP := hide (fun W => (unhide CS) 2 t W (by omega))
        have KQ := hide (fun W => (unhide CI) 2 (nf 1 t) W (by omega))
        have KR := hide (fun W => (unhide CI) 2 t W (by omega))
        have N1 := hide (fun h => nf_self (f := 1) t (.inl rfl) h)
        have N2 := hide (fun h => nf_isN (f := 1) t (.inl rfl) h)
        have N3 : Hid ((nf 1 t ≠ ⟨#[]⟩ ∨ t.size = 0) → nf 2 t ≠ ⟨#[]⟩ → nf 2 (nf 1 t) ≠ ⟨#[]⟩ → nf 2 (nf 1 t) = nf 2 t) := hide (fun h h1 h2 => nf_oth (f := 1) t (.inl rfl) h h1 h2)
        have N4 : Hid (t = ⟨#[]⟩ → nf 2 t = ⟨#[]⟩) := hide (fun h => by rw [h]; rfl)
        generalize nf 1 t = E at *
        generalize nf 2 t = P at *
        by_cases hE0 : E = ⟨#[]⟩
        · subst hE0
          by_cases ht0 : t.size = 0
          · have et := empty_of ht0
            have eP := (unhide N4) et
            subst et
            subst eP
            have hn : (⟨#[]⟩ : ByteArray) ≠ ⟨#[]⟩ ∨ (⟨#[]⟩ : ByteArray).size = 0 := .inr rfl
            rw [(unhide N1) hn] at KC
            rw [(unhide N2) hn] at KN
            generalize nf 2 ⟨#[]⟩ = O at *
            clear N1 N2 N3 N4 KQ KR
            go_wp2_with fail
            refine ((unhide KA) _).mono ?_
            rintro e w2 ⟨rfl, hb⟩
            replace HB := hide ((unhide HB).trans (hb.mono (unhide HB).size))
            clear hb KA
            go_wp2_with fail
            refine ((unhide KB) _).mono ?_
            rintro e w3 ⟨rfl, hb⟩
            replace HB := hide ((unhide HB).trans (hb.mono (unhide HB).size))
            clear hb KB
            go_wp2_with fail
            refine ((unhide KC) _).mono ?_
            rintro e w4 ⟨rfl, hb⟩
            replace HB := hide ((unhide HB).trans (hb.mono (unhide HB).size))
            clear hb KC
            go_wp2_with fail
            refine ((unhide KN) _).mono ?_
            rintro e w5 ⟨rfl, hb⟩
            replace HB := hide ((unhide HB).trans (hb.mono (unhide HB).size))
            clear hb KN
            go_wp2_with fail
            refine ((unhide KO) _).mono ?_
            rintro e w6 ⟨rfl, hb⟩
            replace HB := hide ((unhide HB).trans (hb.mono (unhide HB).size))
            clear hb KO
            go_wp2_with fail
            refine ((unhide KP) _).mono ?_
            rintro e w7 ⟨rfl, hb⟩
            replace HB := hide ((unhide HB).trans (hb.mono (unhide HB).size))
            clear hb KP
            go_wp2
            go_roundw
            case rel => exact ⟨2, rfl, .inr (.inl rfl), HB⟩
            case measure => simp [intOf]
          · have hX : t ≠ ⟨#[]⟩ := fun e => ht0 (by rw [e]; rfl)
            clear N1 N2 N3 N4 KC KN KO KP KQ KR
            have x1t := byt_ne (X := t) hX
            have x2t : (t.toList == []) = false := by simpa using x1t
            have x3t : t.toList.isEmpty = false := by simpa using x1t
            have x4t : (t.toList != []) = true := by simp [x1t]
            go_wp2_with fail
            refine ((unhide KA) _).mono ?_
            rintro e w2 ⟨rfl, hb⟩
            replace HB := hide ((unhide HB).trans (hb.mono (unhide HB).size))
            clear hb KA
            go_wp2_with fail
            refine ((unhide KB) _).mono ?_
            rintro e w3 ⟨rfl, hb⟩
            replace HB := hide ((unhide HB).trans (hb.mono (unhide HB).size))
            clear hb KB
            go_wp2
            go_roundw
            case rel => exact ⟨2, rfl, .inr (.inl rfl), HB⟩
            case measure => simp [intOf]
        · have hn : E ≠ ⟨#[]⟩ ∨ t.size = 0 := .inl hE0
          rw [(unhide N1) hn] at KC
          rw [(unhide N2) hn] at KN
          have N5 := hide ((unhide N3) hn)
          generalize nf 2 E = O at *
          clear N1 N2 N3 N4
          have hE1 : E ≠ ⟨#[]⟩ := hE0
          have x1E := byt_ne (X := E) hE1
          have x2E : (E.toList == []) = false := by simpa using x1E
          have x3E : E.toList.isEmpty = false := by simpa using x1E
          have x4E : (E.toList != []) = true := by simp [x1E]
          by_cases hP : P = ⟨#[]⟩
          · subst hP
            clear N5 KQ KR
            go_wp2_with fail
            refine ((unhide KA) _).mono ?_
            rintro e w2 ⟨rfl, hb⟩
            replace HB := hide ((unhide HB).trans (hb.mono (unhide HB).size))
            clear hb KA
            go_wp2_with fail
            refine ((unhide KB) _).mono ?_
            rintro e w3 ⟨rfl, hb⟩
            replace HB := hide ((unhide HB).trans (hb.mono (unhide HB).size))
            clear hb KB
            go_wp2_with fail
            refine ((unhide KC) _).mono ?_
            rintro e w4 ⟨rfl, hb⟩
            replace HB := hide ((unhide HB).trans (hb.mono (unhide HB).size))
            clear hb KC
            go_wp2_with fail
            refine ((unhide KN) _).mono ?_
            rintro e w5 ⟨rfl, hb⟩
            replace HB := hide ((unhide HB).trans (hb.mono (unhide HB).size))
            clear hb KN
            go_wp2_with fail
            refine ((unhide KO) _).mono ?_
            rintro e w6 ⟨rfl, hb⟩
            replace HB := hide ((unhide HB).trans (hb.mono (unhide HB).size))
            clear hb KO
            go_wp2_with fail
            refine ((unhide KP) _).mono ?_
            rintro e w7 ⟨rfl, hb⟩
            replace HB := hide ((unhide HB).trans (hb.mono (unhide HB).size))
            clear hb KP
            go_wp2
            go_roundw
            case rel => exact ⟨2, rfl, .inr (.inl rfl), HB⟩
            case measure => simp [intOf]
          · by_cases hO : O = ⟨#[]⟩
            · subst hO
              clear N5 KQ KR
              have x1P := byt_ne (X := P) hP
              have x2P : (P.toList == []) = false := by simpa using x1P
              have x3P : P.toList.isEmpty = false := by simpa using x1P
              have x4P : (P.toList != []) = true := by simp [x1P]
              go_wp2_with fail
              refine ((unhide KA) _).mono ?_
              rintro e w2 ⟨rfl, hb⟩
              replace HB := hide ((unhide HB).trans (hb.mono (unhide HB).size))
              clear hb KA
              go_wp2_with fail
              refine ((unhide KB) _).mono ?_
              rintro e w3 ⟨rfl, hb⟩
              replace HB := hide ((unhide HB).trans (hb.mono (unhide HB).size))
              clear hb KB
              go_wp2_with fail
              refine ((unhide KC) _).mono ?_
              rintro e w4 ⟨rfl, hb⟩
              replace HB := hide ((unhide HB).trans (hb.mono (unhide HB).size))
              clear hb KC
              go_wp2_with fail
              refine ((unhide KN) _).mono ?_
              rintro e w5 ⟨rfl, hb⟩
              replace HB := hide ((unhide HB).trans (hb.mono (unhide HB).size))
              clear hb KN
              go_wp2_with fail
              refine ((unhide KO) _).mono ?_
              rintro e w6 ⟨rfl, hb⟩
              replace HB := hide ((unhide HB).trans (hb.mono (unhide HB).size))
              clear hb KO
              go_wp2_with fail
              refine ((unhide KP) _).mono ?_
              rintro e w7 ⟨rfl, hb⟩
              replace HB := hide ((unhide HB).trans (hb.mono (unhide HB).size))
              clear hb KP
              go_wp2
              go_roundw
              case rel => exact ⟨2, rfl, .inr (.inl rfl), HB⟩
              case measure => simp [intOf]
            · have eOP := (unhide N5) hP hO
              subst eOP
              clear N5
              have x1O := byt_ne (X := O) hO
              have x2O : (O.toList == []) = false := by simpa using x1O
              have x3O : O.toList.isEmpty = false := by simpa using x1O
              have x4O : (O.toList != []) = true := by simp [x1O]
              go_wp2_with fail
              refine ((unhide KA) _).mono ?_
              rintro e w2 ⟨rfl, hb⟩
              replace HB := hide ((unhide HB).trans (hb.mono (unhide HB).size))
              clear hb KA
              go_wp2_with fail
              refine ((unhide KB) _).mono ?_
              rintro e w3 ⟨rfl, hb⟩
              replace HB := hide ((unhide HB).trans (hb.mono (unhide HB).size))
              clear hb KB
              go_wp2_with fail
              refine ((unhide KC) _).mono ?_
              rintro e w4 ⟨rfl, hb⟩
              replace HB := hide ((unhide HB).trans (hb.mono (unhide HB).size))
              clear hb KC
              go_wp2_with fail
              refine ((unhide KN) _).mono ?_
              rintro e w5 ⟨rfl, hb⟩
              replace HB := hide ((unhide HB).trans (hb.mono (unhide HB).size))
              clear hb KN
              go_wp2_with fail
              refine ((unhide KO) _).mono ?_
              rintro e w6 ⟨rfl, hb⟩
              replace HB := hide ((unhide HB).trans (hb.mono (unhide HB).size))
              clear hb KO
              go_wp2_with fail
              refine ((unhide KP) _).mono ?_
              rintro e w7 ⟨rfl, hb⟩
              replace HB := hide ((unhide HB).trans (hb.mono (unhide HB).size))
              clear hb KP
              go_wp2_with fail
              refine ((unhide KQ) _).mono ?_
              rintro e w8 ⟨rfl, hb⟩
              replace HB := hide ((unhide HB).trans (hb.mono (unhide HB).size))
              clear hb KQ
              go_wp2_with fail
              refine ((unhide KR) _).mono ?_
              rintro e w9 ⟨rfl, hb⟩
              replace HB := hide ((unhide HB).trans (hb.mono (unhide HB).size))
              clear hb KR
              go_wp2
              go_roundw
              case rel => exact ⟨2, rfl, .inr (.inl rfl), HB⟩
              case measure => simp [intOf]
      · have hE := nf_le 2 t
        have KA := hide (fun W => (unhide CI) 2 t W (by omega))
        have KB := hide (fun W => (unhide CS) 2 t W (by omega))
        have KC := hide (fun W => (unhide CI) 2 (nf 2 t) W (by omega))
        have KN := hide (fun W => (unhide CN) 2 (nf 2 t) W (by omega))
        have KO := hide (fun W => (unhide CS) 1 (nf 2 t) W (by omega))
        have KP := hide (fun W => (unhide CS) 1 t W (by omega))
        have KQ := hide (fun W => (unhide CI) 1 (nf 2 t) W (by omega))
        have KR := hide (fun W => (unhide CI) 1 t W (by omega))
        have N1 := hide (fun h => nf_self (f := 2) t (.inr (.inl rfl)) h)
        have N2 := hide (fun h => nf_isN (f := 2) t (.inr (.inl rfl)) h)
        have N3 : Hid ((nf 2 t ≠ ⟨#[]⟩ ∨ t.size = 0) → nf 1 t ≠ ⟨#[]⟩ → nf 1 (nf 2 t) ≠ ⟨#[]⟩ → nf 1 (nf 2 t) = nf 1 t) := hide (fun h h1 h2 => nf_oth (f := 2) t (.inr (.inl rfl)) h h1 h2)
        have N4 : Hid (t = ⟨#[]⟩ → nf 1 t = ⟨#[]⟩) := hide (fun h => by rw [h]; rfl)
        generalize nf 2 t = E at *
        generalize nf 1 t = P at *
        by_cases hE0 : E = ⟨#[]⟩
        · subst hE0
          by_cases ht0 : t.size = 0
          · have et := empty_of ht0
            have eP := (unhide N4) et
            subst et
            subst eP
            have hn : (⟨#[]⟩ : ByteArray) ≠ ⟨#[]⟩ ∨ (⟨#[]⟩ : ByteArray).size = 0 := .inr rfl
            rw [(unhide N1) hn] at KC
            rw [(unhide N2) hn] at KN
            generalize nf 1 ⟨#[]⟩ = O at *
            clear N1 N2 N3 N4 KQ KR
            go_wp2_with fail
            refine ((unhide KA) _).mono ?_
            rintro e w2 ⟨rfl, hb⟩
            replace HB := hide ((unhide HB).trans (hb.mono (unhide HB).size))
            clear hb KA
            go_wp2_with fail
            refine ((unhide KB) _).mono ?_
            rintro e w3 ⟨rfl, hb⟩
            replace HB := hide ((unhide HB).trans (hb.mono (unhide HB).size))
            clear hb KB
            go_wp2_with fail
            refine ((unhide KC) _).mono ?_
            rintro e w4 ⟨rfl, hb⟩
            replace HB := hide ((unhide HB).trans (hb.mono (unhide HB).size))
            clear hb KC
            go_wp2_with fail
            refine ((unhide KN) _).mono ?_
            rintro e w5 ⟨rfl, hb⟩
            replace HB := hide ((unhide HB).trans (hb.mono (unhide HB).size))
            clear hb KN
            go_wp2_with fail
            refine ((unhide KO) _).mono ?_
            rintro e w6 ⟨rfl, hb⟩
            replace HB := hide ((unhide HB).trans (hb.mono (unhide HB).size))
            clear hb KO
            go_wp2_with fail
            refine ((unhide KP) _).mono ?_
            rintro e w7 ⟨rfl, hb⟩
            replace HB := hide ((unhide HB).trans (hb.mono (unhide HB).size))
            clear hb KP
            go_wp2
            go_roundw
            case rel => exact ⟨3, rfl, .inr (.inr (.inl rfl)), HB⟩
            case measure => simp [intOf]
          · have hX : t ≠ ⟨#[]⟩ := fun e => ht0 (by rw [e]; rfl)
            clear N1 N2 N3 N4 KC KN KO KP KQ KR
            have x1t := byt_ne (X := t) hX
            have x2t : (t.toList == []) = false := by simpa using x1t
            have x3t : t.toList.isEmpty = false := by simpa using x1t
            have x4t : (t.toList != []) = true := by simp [x1t]
            go_wp2_with fail
            refine ((unhide KA) _).mono ?_
            rintro e w2 ⟨rfl, hb⟩
            replace HB := hide ((unhide HB).trans (hb.mono (unhide HB).size))
            clear hb KA
            go_wp2_with fail
            refine ((unhide KB) _).mono ?_
            rintro e w3 ⟨rfl, hb⟩
            replace HB := hide ((unhide HB).trans (hb.mono (unhide HB).size))
            clear hb KB
            go_wp2
            go_roundw
            case rel => exact ⟨3, rfl, .inr (.inr (.inl rfl)), HB⟩
            case measure => simp [intOf]
        · have hn : E ≠ ⟨#[]⟩ ∨ t.size = 0 := .inl hE0
          rw [(unhide N1) hn] at KC
          rw [(unhide N2) hn] at KN
          have N5 := hide ((unhide N3) hn)
          generalize nf 1 E = O at *
          clear N1 N2 N3 N4
          have hE1 : E ≠ ⟨#[]⟩ := hE0
          have x1E := byt_ne (X := E) hE1
          have x2E : (E.toList == []) = false := by simpa using x1E
          have x3E : E.toList.isEmpty = false := by simpa using x1E
          have x4E : (E.toList != []) = true := by simp [x1E]
          by_cases hP : P = ⟨#[]⟩
          · subst hP
            clear N5 KQ KR
            go_wp2_with fail
            refine ((unhide KA) _).mono ?_
            rintro e w2 ⟨rfl, hb⟩
            replace HB := hide ((unhide HB).trans (hb.mono (unhide HB).size))
            clear hb KA
            go_wp2_with fail
            refine ((unhide KB) _).mono ?_
            rintro e w3 ⟨rfl, hb⟩
            replace HB := hide ((unhide HB).trans (hb.mono (unhide HB).size))
            clear hb KB
            go_wp2_with fail
            refine ((unhide KC) _).mono ?_
            rintro e w4 ⟨rfl, hb⟩
            replace HB := hide ((unhide HB).trans (hb.mono (unhide HB).size))
            clear hb KC
            go_wp2_with fail
            refine ((unhide KN) _).mono ?_
            rintro e w5 ⟨rfl, hb⟩
            replace HB := hide ((unhide HB).trans (hb.mono (unhide HB).size))
            clear hb KN
            go_wp2_with fail
            refine ((unhide KO) _).mono ?_
            rintro e w6 ⟨rfl, hb⟩
            replace HB := hide ((unhide HB).trans (hb.mono (unhide HB).size))
            clear hb KO
            go_wp2_with fail
            refine ((unhide KP) _).mono ?_
            rintro e w7 ⟨rfl, hb⟩
            replace HB := hide ((unhide HB).trans (hb.mono (unhide HB).size))
            clear hb KP
            go_wp2
            go_roundw
            case rel => exact ⟨3, rfl, .inr (.inr (.inl rfl)), HB⟩
            case measure => simp [intOf]
          · by_cases hO : O = ⟨#[]⟩
            · subst hO
              clear N5 KQ KR
              have x1P := byt_ne (X := P) hP
              have x2P : (P.toList == []) = false := by simpa using x1P
              have x3P : P.toList.isEmpty = false := by simpa using x1P
              have x4P : (P.toList != []) = true := by simp [x1P]
              go_wp2_with fail
              refine ((unhide KA) _).mono ?_
              rintro e w2 ⟨rfl, hb⟩
              replace HB := hide ((unhide HB).trans (hb.mono (unhide HB).size))
              clear hb KA
              go_wp2_with fail
              refine ((unhide KB) _).mono ?_
              rintro e w3 ⟨rfl, hb⟩
              replace HB := hide ((unhide HB).trans (hb.mono (unhide HB).size))
              clear hb KB
              go_wp2_with fail
              refine ((unhide KC) _).mono ?_
              rintro e w4 ⟨rfl, hb⟩
              replace HB := hide ((unhide HB).trans (hb.mono (unhide HB).size))
              clear hb KC
              go_wp2_with fail
              refine ((unhide KN) _).mono ?_
              rintro e w5 ⟨rfl, hb⟩
              replace HB := hide ((unhide HB).trans (hb.mono (unhide HB).size))
              clear hb KN
              go_wp2_with fail
              refine ((unhide KO) _).mono ?_
              rintro e w6 ⟨rfl, hb⟩
              replace HB := hide ((unhide HB).trans (hb.mono (unhide HB).size))
              clear hb KO
              go_wp2_with fail
              refine ((unhide KP) _).mono ?_
              rintro e w7 ⟨rfl, hb⟩
              replace HB := hide ((unhide HB).trans (hb.mono (unhide HB).size))
              clear hb KP
              go_wp2
              go_roundw
              case rel => exact ⟨3, rfl, .inr (.inr (.inl rfl)), HB⟩
              case measure => simp [intOf]
            · have eOP := (unhide N5) hP hO
              subst eOP
              clear N5
              have x1O := byt_ne (X := O) hO
              have x2O : (O.toList == []) = false := by simpa using x1O
              have x3O : O.toList.isEmpty = false := by simpa using x1O
              have x4O : (O.toList != []) = true := by simp [x1O]
              go_wp2_with fail
              refine ((unhide KA) _).mono ?_
              rintro e w2 ⟨rfl, hb⟩
              replace HB := hide ((unhide HB).trans (hb.mono (unhide HB).size))
              clear hb KA
              go_wp2_with fail
              refine ((unhide KB) _).mono ?_
              rintro e w3 ⟨rfl, hb⟩
              replace HB := hide ((unhide HB).trans (hb.mono (unhide HB).size))
              clear hb KB
              go_wp2_with fail
              refine ((unhide KC) _).mono ?_
              rintro e w4 ⟨rfl, hb⟩
              replace HB := hide ((unhide HB).trans (hb.mono (unhide HB).size))
              clear hb KC
              go_wp2_with fail
              refine ((unhide KN) _).mono ?_
              rintro e w5 ⟨rfl, hb⟩
              replace HB := hide ((unhide HB).trans (hb.mono (unhide HB).size))
              clear hb KN
              go_wp2_with fail
              refine ((unhide KO) _).mono ?_
              rintro e w6 ⟨rfl, hb⟩
              replace HB := hide ((unhide HB).trans (hb.mono (unhide HB).size))
              clear hb KO
              go_wp2_with fail
              refine ((unhide KP) _).mono ?_
              rintro e w7 ⟨rfl, hb⟩
              replace HB := hide ((unhide HB).trans (hb.mono (unhide HB).size))
              clear hb KP
              go_wp2_with fail
              refine ((unhide KQ) _).mono ?_
              rintro e w8 ⟨rfl, hb⟩
              replace HB := hide ((unhide HB).trans (hb.mono (unhide HB).size))
              clear hb KQ
              go_wp2_with fail
              refine ((unhide KR) _).mono ?_
              rintro e w9 ⟨rfl, hb⟩
              replace HB := hide ((unhide HB).trans (hb.mono (unhide HB).size))
              clear hb KR
              go_wp2
              go_roundw
              case rel => exact ⟨3, rfl, .inr (.inr (.inl rfl)), HB⟩
              case measure => simp [intOf]
      · have hE := nf_le 3 t
        have KA := hide (fun W => (unhide CI) 3 t W (by omega))
        have KB := hide (fun W => (unhide CS) 3 t W (by omega))
        have KC := hide (fun W => (unhide CI) 3 (nf 3 t) W (by omega))
        have KN := hide (fun W => (unhide CN) 3 (nf 3 t) W (by omega))
        have KO := hide (fun W => (unhide CS) 4 (nf 3 t) W (by omega))
        have KP := hide (fun W => (unhide CS) 4 t W (by omega))
        have KQ := hide (fun W => (unhide CI) 4 (nf 3 t) W (by omega))
        have KR := hide (fun W => (unhide CI) 4 t W (by omega))
        have N1 := hide (fun h => nf_self (f := 3) t (.inr (.inr (.inl rfl))) h)
        have N2 := hide (fun h => nf_isN (f := 3) t (.inr (.inr (.inl rfl))) h)
        have N3 : Hid ((nf 3 t ≠ ⟨#[]⟩ ∨ t.size = 0) → nf 4 t ≠ ⟨#[]⟩ → nf 4 (nf 3 t) ≠ ⟨#[]⟩ → nf 4 (nf 3 t) = nf 4 t) := hide (fun h h1 h2 => nf_oth (f := 3) t (.inr (.inr (.inl rfl))) h h1 h2)
        have N4 : Hid (t = ⟨#[]⟩ → nf 4 t = ⟨#[]⟩) := hide (fun h => by rw [h]; rfl)
        generalize nf 3 t = E at *
        generalize nf 4 t = P at *
        by_cases hE0 : E = ⟨#[]⟩
        · subst hE0
          by_cases ht0 : t.size = 0
          · have et := empty_of ht0
            have eP := (unhide N4) et
            subst et
            subst eP
            have hn : (⟨#[]⟩ : ByteArray) ≠ ⟨#[]⟩ ∨ (⟨#[]⟩ : ByteArray).size = 0 := .inr rfl
            rw [(unhide N1) hn] at KC
            rw [(unhide N2) hn] at KN
            generalize nf 4 ⟨#[]⟩ = O at *
            clear N1 N2 N3 N4 KQ KR
            go_wp2_with fail
            refine ((unhide KA) _).mono ?_
            rintro e w2 ⟨rfl, hb⟩
            replace HB := hide ((unhide HB).trans (hb.mono (unhide HB).size))
            clear hb KA
            go_wp2_with fail
            refine ((unhide KB) _).mono ?_
            rintro e w3 ⟨rfl, hb⟩
            replace HB := hide ((unhide HB).trans (hb.mono (unhide HB).size))
            clear hb KB
            go_wp2_with fail
            refine ((unhide KC) _).mono ?_
            rintro e w4 ⟨rfl, hb⟩
            replace HB := hide ((unhide HB).trans (hb.mono (unhide HB).size))
            clear hb KC
            go_wp2_with fail
            refine ((unhide KN) _).mono ?_
            rintro e w5 ⟨rfl, hb⟩
            replace HB := hide ((unhide HB).trans (hb.mono (unhide HB).size))
            clear hb KN
            go_wp2_with fail
            refine ((unhide KO) _).mono ?_
            rintro e w6 ⟨rfl, hb⟩
            replace HB := hide ((unhide HB).trans (hb.mono (unhide HB).size))
            clear hb KO
            go_wp2_with fail
            refine ((unhide KP) _).mono ?_
            rintro e w7 ⟨rfl, hb⟩
            replace HB := hide ((unhide HB).trans (hb.mono (unhide HB).size))
            clear hb KP
            go_wp2
            go_roundw
            case rel => exact ⟨4, rfl, .inr (.inr (.inr (.inl rfl))), HB⟩
            case measure => simp [intOf]
          · have hX : t ≠ ⟨#[]⟩ := fun e => ht0 (by rw [e]; rfl)
            clear N1 N2 N3 N4 KC KN KO KP KQ KR
            have x1t := byt_ne (X := t) hX
            have x2t : (t.toList == []) = false := by simpa using x1t
            have x3t : t.toList.isEmpty = false := by simpa using x1t
            have x4t : (t.toList != []) = true := by simp [x1t]
            go_wp2_with fail
            refine ((unhide KA) _).mono ?_
            rintro e w2 ⟨rfl, hb⟩
            replace HB := hide ((unhide HB).trans (hb.mono (unhide HB).size))
            clear hb KA
            go_wp2_with fail
            refine ((unhide KB) _).mono ?_
            rintro e w3 ⟨rfl, hb⟩
            replace HB := hide ((unhide HB).trans (hb.mono (unhide HB).size))
            clear hb KB
            go_wp2
            go_roundw
            case rel => exact ⟨4, rfl, .inr (.inr (.inr (.inl rfl))), HB⟩
            case measure => simp [intOf]
        · have hn : E ≠ ⟨#[]⟩ ∨ t.size = 0 := .inl hE0
          rw [(unhide N1) hn] at KC
          rw [(unhide N2) hn] at KN
          have N5 := hide ((unhide N3) hn)
          generalize nf 4 E = O at *
          clear N1 N2 N3 N4
          have hE1 : E ≠ ⟨#[]⟩ := hE0
          have x1E := byt_ne (X := E) hE1
          have x2E : (E.toList == []) = false := by simpa using x1E
          have x3E : E.toList.isEmpty = false := by simpa using x1E
          have x4E : (E.toList != []) = true := by simp [x1E]
          by_cases hP : P = ⟨#[]⟩
          · subst hP
            clear N5 KQ KR
            go_wp2_with fail
            refine ((unhide KA) _).mono ?_
            rintro e w2 ⟨rfl, hb⟩
            replace HB := hide ((unhide HB).trans (hb.mono (unhide HB).size))
            clear hb KA
            go_wp2_with fail
            refine ((unhide KB) _).mono ?_
            rintro e w3 ⟨rfl, hb⟩
            replace HB := hide ((unhide HB).trans (hb.mono (unhide HB).size))
            clear hb KB
            go_wp2_with fail
            refine ((unhide KC) _).mono ?_
            rintro e w4 ⟨rfl, hb⟩
            replace HB := hide ((unhide HB).trans (hb.mono (unhide HB).size))
            clear hb KC
            go_wp2_with fail
            refine ((unhide KN) _).mono ?_
            rintro e w5 ⟨rfl, hb⟩
            replace HB := hide ((unhide HB).trans (hb.mono (unhide HB).size))
            clear hb KN
            go_wp2_with fail
            refine ((unhide KO) _).mono ?_
            rintro e w6 ⟨rfl, hb⟩
            replace HB := hide ((unhide HB).trans (hb.mono (unhide HB).size))
            clear hb KO
            go_wp2_with fail
            refine ((unhide KP) _).mono ?_
            rintro e w7 ⟨rfl, hb⟩
            replace HB := hide ((unhide HB).trans (hb.mono (unhide HB).size))
            clear hb KP
            go_wp2
            go_roundw
            case rel => exact ⟨4, rfl, .inr (.inr (.inr (.inl rfl))), HB⟩
            case measure => simp [intOf]
          · by_cases hO : O = ⟨#[]⟩
            · subst hO
              clear N5 KQ KR
              have x1P := byt_ne (X := P) hP
              have x2P : (P.toList == []) = false := by simpa using x1P
              have x3P : P.toList.isEmpty = false := by simpa using x1P
              have x4P : (P.toList != []) = true := by simp [x1P]
              go_wp2_with fail
              refine ((unhide KA) _).mono ?_
              rintro e w2 ⟨rfl, hb⟩
              replace HB := hide ((unhide HB).trans (hb.mono (unhide HB).size))
              clear hb KA
              go_wp2_with fail
              refine ((unhide KB) _).mono ?_
              rintro e w3 ⟨rfl, hb⟩
              replace HB := hide ((unhide HB).trans (hb.mono (unhide HB).size))
              clear hb KB
              go_wp2_with fail
              refine ((unhide KC) _).mono ?_
              rintro e w4 ⟨rfl, hb⟩
              replace HB := hide ((unhide HB).trans (hb.mono (unhide HB).size))
              clear hb KC
              go_wp2_with fail
              refine ((unhide KN) _).mono ?_
              rintro e w5 ⟨rfl, hb⟩
              replace HB := hide ((unhide HB).trans (hb.mono (unhide HB).size))
              clear hb KN
              go_wp2_with fail
              refine ((unhide KO) _).mono ?_
              rintro e w6 ⟨rfl, hb⟩
              replace HB := hide ((unhide HB).trans (hb.mono (unhide HB).size))
              clear hb KO
              go_wp2_with fail
              refine ((unhide KP) _).mono ?_
              rintro e w7 ⟨rfl, hb⟩
              replace HB := hide ((unhide HB).trans (hb.mono (unhide HB).size))
              clear hb KP
              go_wp2
              go_roundw
              case rel => exact ⟨4, rfl, .inr (.inr (.inr (.inl rfl))), HB⟩
              case measure => simp [intOf]
            · have eOP := (unhide N5) hP hO
              subst eOP
              clear N5
              have x1O := byt_ne (X := O) hO
              have x2O : (O.toList == []) = false := by simpa using x1O
              have x3O : O.toList.isEmpty = false := by simpa using x1O
              have x4O : (O.toList != []) = true := by simp [x1O]
              go_wp2_with fail
              refine ((unhide KA) _).mono ?_
              rintro e w2 ⟨rfl, hb⟩
              replace HB := hide ((unhide HB).trans (hb.mono (unhide HB).size))
              clear hb KA
              go_wp2_with fail
              refine ((unhide KB) _).mono ?_
              rintro e w3 ⟨rfl, hb⟩
              replace HB := hide ((unhide HB).trans (hb.mono (unhide HB).size))
              clear hb KB
              go_wp2_with fail
              refine ((unhide KC) _).mono ?_
              rintro e w4 ⟨rfl, hb⟩
              replace HB := hide ((unhide HB).trans (hb.mono (unhide HB).size))
              clear hb KC
              go_wp2_with fail
              refine ((unhide KN) _).mono ?_
              rintro e w5 ⟨rfl, hb⟩
              replace HB := hide ((unhide HB).trans (hb.mono (unhide HB).size))
              clear hb KN
              go_wp2_with fail
              refine ((unhide KO) _).mono ?_
              rintro e w6 ⟨rfl, hb⟩
              replace HB := hide ((unhide HB).trans (hb.mono (unhide HB).size))
              clear hb KO
              go_wp2_with fail
              refine ((unhide KP) _).mono ?_
              rintro e w7 ⟨rfl, hb⟩
              replace HB := hide ((unhide HB).trans (hb.mono (unhide HB).size))
              clear hb KP
              go_wp2_with fail
              refine ((unhide KQ) _).mono ?_
              rintro e w8 ⟨rfl, hb⟩
              replace HB := hide ((unhide HB).trans (hb.mono (unhide HB).size))
              clear hb KQ
              go_wp2_with fail
              refine ((unhide KR) _).mono ?_
              rintro e w9 ⟨rfl, hb⟩
              replace HB := hide ((unhide HB).trans (hb.mono (unhide HB).size))
              clear hb KR
              go_wp2
              go_roundw
              case rel => exact ⟨4, rfl, .inr (.inr (.inr (.inl rfl))), HB⟩
              case measure => simp [intOf]
      · have hE := nf_le 4 t
        have KA := hide (fun W => (unhide CI) 4 t W (by omega))
        have KB := hide (fun W => (unhide CS) 4 t W (by omega))
        have KC := hide (fun W => (unhide CI) 4 (nf 4 t) W (by omega))
        have KN := hide (fun W => (unhide CN) 4 (nf 4 t) W (by omega))
        have KO := hide (fun W => (unhide CS) 3 (nf 4 t) W (by omega))
        have KP := hide (fun W => (unhide CS) 3 t W (by omega))
        have KQ := hide (fun W => (unhide CI) 3 (nf 4 t) W (by omega))
        have KR := hide (fun W => (unhide CI) 3 t W (by omega))
        have N1 := hide (fun h => nf_self (f := 4) t (.inr (.inr (.inr rfl))) h)
        have N2 := hide (fun h => nf_isN (f := 4) t (.inr (.inr (.inr rfl))) h)
        have N3 : Hid ((nf 4 t ≠ ⟨#[]⟩ ∨ t.size = 0) → nf 3 t ≠ ⟨#[]⟩ → nf 3 (nf 4 t) ≠ ⟨#[]⟩ → nf 3 (nf 4 t) = nf 3 t) := hide (fun h h1 h2 => nf_oth (f := 4) t (.inr (.inr (.inr rfl))) h h1 h2)
        have N4 : Hid (t = ⟨#[]⟩ → nf 3 t = ⟨#[]⟩) := hide (fun h => by rw [h]; rfl)
        generalize nf 4 t = E at *
        generalize nf 3 t = P at *
        by_cases hE0 : E = ⟨#[]⟩
        · subst hE0
          by_cases ht0 : t.size = 0
          · have et := empty_of ht0
            have eP := (unhide N4) et
            subst et
            subst eP
            have hn : (⟨#[]⟩ : ByteArray) ≠ ⟨#[]⟩ ∨ (⟨#[]⟩ : ByteArray).size = 0 := .inr rfl
            rw [(unhide N1) hn] at KC
            rw [(unhide N2) hn] at KN
            generalize nf 3 ⟨#[]⟩ = O at *
            clear N1 N2 N3 N4 KQ KR
            go_wp2_with fail
            refine ((unhide KA) _).mono ?_
            rintro e w2 ⟨rfl, hb⟩
            replace HB := hide ((unhide HB).trans (hb.mono (unhide HB).size))
            clear hb KA
            go_wp2_with fail
            refine ((unhide KB) _).mono ?_
            rintro e w3 ⟨rfl, hb⟩
            replace HB := hide ((unhide HB).trans (hb.mono (unhide HB).size))
            clear hb KB
            go_wp2_with fail
            refine ((unhide KC) _).mono ?_
            rintro e w4 ⟨rfl, hb⟩
            replace HB := hide ((unhide HB).trans (hb.mono (unhide HB).size))
            clear hb KC
            go_wp2_with fail
            refine ((unhide KN) _).mono ?_
            rintro e w5 ⟨rfl, hb⟩
            replace HB := hide ((unhide HB).trans (hb.mono (unhide HB).size))
            clear hb KN
            go_wp2_with fail
            refine ((unhide KO) _).mono ?_
            rintro e w6 ⟨rfl, hb⟩
            replace HB := hide ((unhide HB).trans (hb.mono (unhide HB).size))
            clear hb KO
            go_wp2_with fail
            refine ((unhide KP) _).mono ?_
            rintro e w7 ⟨rfl, hb⟩
            replace HB := hide ((unhide HB).trans (hb.mono (unhide HB).size))
            clear hb KP
            go_wp2
            go_roundw
            case rel => exact ⟨5, rfl, .inr (.inr (.inr (.inr rfl))), HB⟩
            case measure => simp [intOf]
          · have hX : t ≠ ⟨#[]⟩ := fun e => ht0 (by rw [e]; rfl)
            clear N1 N2 N3 N4 KC KN KO KP KQ KR
            have x1t := byt_ne (X := t) hX
            have x2t : (t.toList == []) = false := by simpa using x1t
            have x3t : t.toList.isEmpty = false := by simpa using x1t
            have x4t : (t.toList != []) = true := by simp [x1t]
            go_wp2_with fail
            refine ((unhide KA) _).mono ?_
            rintro e w2 ⟨rfl, hb⟩
            replace HB := hide ((unhide HB).trans (hb.mono (unhide HB).size))
            clear hb KA
            go_wp2_with fail
            refine ((unhide KB) _).mono ?_
            rintro e w3 ⟨rfl, hb⟩
            replace HB := hide ((unhide HB).trans (hb.mono (unhide HB).size))
            clear hb KB
            go_wp2
            go_roundw
            case rel => exact ⟨5, rfl, .inr (.inr (.inr (.inr rfl))), HB⟩
            case measure => simp [intOf]
        · have hn : E ≠ ⟨#[]⟩ ∨ t.size = 0 := .inl hE0
          rw [(unhide N1) hn] at KC
          rw [(unhide N2) hn] at KN
          have N5 := hide ((unhide N3) hn)
          generalize nf 3 E = O at *
          clear N1 N2 N3 N4
          have hE1 : E ≠ ⟨#[]⟩ := hE0
          have x1E := byt_ne (X := E) hE1
          have x2E : (E.toList == []) = false := by simpa using x1E
          have x3E : E.toList.isEmpty = false := by simpa using x1E
          have x4E : (E.toList != []) = true := by simp [x1E]
          by_cases hP : P = ⟨#[]⟩
          · subst hP
            clear N5 KQ KR
            go_wp2_with fail
            refine ((unhide KA) _).mono ?_
            rintro e w2 ⟨rfl, hb⟩
            replace HB := hide ((unhide HB).trans (hb.mono (unhide HB).size))
            clear hb KA
            go_wp2_with fail
            refine ((unhide KB) _).mono ?_
            rintro e w3 ⟨rfl, hb⟩
            replace HB := hide ((unhide HB).trans (hb.mono (unhide HB).size))
            clear hb KB
            go_wp2_with fail
            refine ((unhide KC) _).mono ?_
            rintro e w4 ⟨rfl, hb⟩
            replace HB := hide ((unhide HB).trans (hb.mono (unhide HB).size))
            clear hb KC
            go_wp2_with fail
            refine ((unhide KN) _).mono ?_
            rintro e w5 ⟨rfl, hb⟩
            replace HB := hide ((unhide HB).trans (hb.mono (unhide HB).size))
            clear hb KN
            go_wp2_with fail
            refine ((unhide KO) _).mono ?_
            rintro e w6 ⟨rfl, hb⟩
            replace HB := hide ((unhide HB).trans (hb.mono (unhide HB).size))
            clear hb KO
            go_wp2_with fail
            refine ((unhide KP) _).mono ?_
            rintro e w7 ⟨rfl, hb⟩
            replace HB := hide ((unhide HB).trans (hb.mono (unhide HB).size))
            clear hb KP
            go_wp2
            go_roundw
            case rel => exact ⟨5, rfl, .inr (.inr (.inr (.inr rfl))), HB⟩
            case measure => simp [intOf]
          · by_cases hO : O = ⟨#[]⟩
            · subst hO
              clear N5 KQ KR
              have x1P := byt_ne (X := P) hP
              have x2P : (P.toList == []) = false := by simpa using x1P
              have x3P : P.toList.isEmpty = false := by simpa using x1P
              have x4P : (P.toList != []) = true := by simp [x1P]
              go_wp2_with fail
              refine ((unhide KA) _).mono ?_
              rintro e w2 ⟨rfl, hb⟩
              replace HB := hide ((unhide HB).trans (hb.mono (unhide HB).size))
              clear hb KA
              go_wp2_with fail
              refine ((unhide KB) _).mono ?_
              rintro e w3 ⟨rfl, hb⟩
              replace HB := hide ((unhide HB).trans (hb.mono (unhide HB).size))
              clear hb KB
              go_wp2_with fail
              refine ((unhide KC) _).mono ?_
              rintro e w4 ⟨rfl, hb⟩
              replace HB := hide ((unhide HB).trans (hb.mono (unhide HB).size))
              clear hb KC
              go_wp2_with fail
              refine ((unhide KN) _).mono ?_
              rintro e w5 ⟨rfl, hb⟩
              replace HB := hide ((unhide HB).trans (hb.mono (unhide HB).size))
              clear hb KN
              go_wp2_with fail
              refine ((unhide KO) _).mono ?_
              rintro e w6 ⟨rfl, hb⟩
              replace HB := hide ((unhide HB).trans (hb.mono (unhide HB).size))
              clear hb KO
              go_wp2_with fail
              refine ((unhide KP) _).mono ?_
              rintro e w7 ⟨rfl, hb⟩
              replace HB := hide ((unhide HB).trans (hb.mono (unhide HB).size))
              clear hb KP
              go_wp2
              go_roundw
              case rel => exact ⟨5, rfl, .inr (.inr (.inr (.inr rfl))), HB⟩
              case measure => simp [intOf]
            · have eOP := (unhide N5) hP hO
              subst eOP
              clear N5
              have x1O := byt_ne (X := O) hO
              have x2O : (O.toList == []) = false := by simpa using x1O
              have x3O : O.toList.isEmpty = false := by simpa using x1O
              have x4O : (O.toList != []) = true := by simp [x1O]
              go_wp2_with fail
              refine ((unhide KA) _).mono ?_
              rintro e w2 ⟨rfl, hb⟩
              replace HB := hide ((unhide HB).trans (hb.mono (unhide HB).size))
              clear hb KA
              go_wp2_with fail
              refine ((unhide KB) _).mono ?_
              rintro e w3 ⟨rfl, hb⟩
              replace HB := hide ((unhide HB).trans (hb.mono (unhide HB).size))
              clear hb KB
              go_wp2_with fail
              refine ((unhide KC) _).mono ?_
              rintro e w4 ⟨rfl, hb⟩
              replace HB := hide ((unhide HB).trans (hb.mono (unhide HB).size))
              clear hb KC
              go_wp2_with fail
              refine ((unhide KN) _).mono ?_
              rintro e w5 ⟨rfl, hb⟩
              replace HB := hide ((unhide HB).trans (hb.mono (unhide HB).size))
              clear hb KN
              go_wp2_with fail
              refine ((unhide KO) _).mono ?_
              rintro e w6 ⟨rfl, hb⟩
              replace HB := hide ((unhide HB).trans (hb.mono (unhide HB).size))
              clear hb KO
              go_wp2_with fail
              refine ((unhide KP) _).mono ?_
              rintro e w7 ⟨rfl, hb⟩
              replace HB := hide ((unhide HB).trans (hb.mono (unhide HB).size))
              clear hb KP
              go_wp2_with fail
              refine ((unhide KQ) _).mono ?_
              rintro e w8 ⟨rfl, hb⟩
              replace HB := hide ((unhide HB).trans (hb.mono (unhide HB).size))
              clear hb KQ
              go_wp2_with fail
              refine ((unhide KR) _).mono ?_
              rintro e w9 ⟨rfl, hb⟩
              replace HB := hide ((unhide HB).trans (hb.mono (unhide HB).size))
              clear hb KR
              go_wp2
              go_roundw
              case rel => exact ⟨5, rfl, .inr (.inr (.inr (.inr rfl))), HB⟩
              case measure => simp [intOf]
      · go_wp2
        go_ret
        exact ⟨rfl, unhide HB⟩
end Go.Proofs.Ytnopgiommgbjnaa
