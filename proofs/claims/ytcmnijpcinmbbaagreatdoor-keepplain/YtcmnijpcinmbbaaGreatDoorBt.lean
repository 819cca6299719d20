/- Names of texts that came before. -/
import Derived.Test.YtcmnijpcinmbbaaGreatDoorBs
