/-
  The program's seven functions of chapter 15 (contracts: Yl, Ym, Yn, Yo).
-/
import Derived.Test.YtajkfkpnjbkhhaaYo
